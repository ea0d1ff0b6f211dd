/-
  The walk of the law CbcStays.
-/
import Derived.Test.YtjjoghdlbnlicaaDoorCv
import Derived.Laws.Concat
namespace Go.Proofs.YtjjoghdlbnlicaaDoor
open Go Go.RowKit

def opT (k g t : List (BitVec 8)) : List (BitVec 8) := if 0 < t.length ∧ t.length % 16 = 0 then (emptyL (openN (ks k) t g (t.length / 16))).getD [] else []
def opV (k g t : List (BitVec 8)) : Value := if 0 < t.length ∧ t.length % 16 = 0 then (match emptyL (openN (ks k) t g (t.length / 16)) with | some _ => .nilIface | none => err 7) else err 1
theorem opV_or (k g t : List (BitVec 8)) : opV k g t = .nilIface ∨ opV k g t = err 7 ∨ opV k g t = err 1 := by
  unfold opV
  split
  · split
    · exact .inl rfl
    · exact .inr (.inl rfl)
  · exact .inr (.inr rfl)
theorem Open_all {k g t : List (BitVec 8)} {A B C : Option Addr} {c d n e : Nat} {w : World} (hk : Bs w A 16 c k) (hg : Bs w B 16 d g) (ht : Bs w C n e t) (hn : n ≤ 65552) (hw : Lay3 w) :
    Calls Tryd.prog 13 #[.slice A 16 c, .slice B 16 d, .slice C n e] w fun e w' => ∃ A' n' c', e = .returned (.tuple #[.slice A' n' c', opV k g t]) ∧ n' ≤ n ∧ Own w' w.heap.size (.slice A' n' c') n' (opT k g t) ∧ Ext w w' := by
  have hl := ht.len
  by_cases h : 0 < n ∧ n % 16 = 0
  · have hN : n = 16 * (n / 16) := by omega
    have hV : opV k g t = (match emptyL (openN (ks k) t g (n / 16)) with | some _ => .nilIface | none => err 7) := by rw [opV, hl, if_pos h]
    have hT : opT k g t = (emptyL (openN (ks k) t g (n / 16))).getD [] := by rw [opT, hl, if_pos h]
    rw [hV, hT]
    cases hx : emptyL (openN (ks k) t g (n / 16)) with
    | some x =>
      refine (Open_some hk hg ht hn (n / 16) hN (by omega) hw rfl hx).mono ?_
      rintro e w' ⟨A', c', rfl, hs, ho, hx'⟩
      exact ⟨A', x.length, c', rfl, by have := (sealed_back (ks k) t g x (n / 16) (by omega) hx).2; omega, ho, hx'⟩
    | none =>
      refine (Open_none hk hg ht hn (n / 16) hN (by omega) hw rfl hx).mono ?_
      rintro e w' ⟨rfl, hx'⟩
      exact ⟨none, 0, 0, rfl, by omega, Own.nil _ _, hx'⟩
  · refine (Open_arg w (.inr (.inr h))).mono ?_
    rintro e w' ⟨rfl, hx'⟩
    exact ⟨none, 0, 0, by rw [opV, hl, if_neg h], by omega, by rw [opT, hl, if_neg h]; exact Own.nil _ _, hx'⟩
/-- what was handed in and what was told, whatever becomes of them -/
structure Stz4 (wb : World) (Ao : Option Addr) (n co Bf : Nat) (Af : Option Addr) (nf cf : Nat) (wi : World) : Prop where
  o : ∃ L, Own wi wb.heap.size (.slice Ao n co) n L
  f : ∃ L, Own wi Bf (.slice Af nf cf) nf L
  e : Ext wb wi
theorem Stz4.setO {wb wi : World} {go n co Bf : Nat} {Af : Option Addr} {nf cf : Nat} (h : Stz4 wb (some ⟨go, 0, none⟩) n co Bf Af nf cf wi) (hg : go < Bf) (j : Nat) (x : BitVec 8) : Stz4 wb (some ⟨go, 0, none⟩) n co Bf Af nf cf (wi.setCell ⟨go, j, none⟩ (.int .u8 (ub x))) := by
  obtain ⟨L, h1⟩ := h.o
  obtain ⟨M, h2⟩ := h.f
  exact ⟨⟨_, h1.set j x⟩, ⟨_, h2.cellfar (p := ⟨go, j, none⟩) hg _⟩, h.e.setCell (p := ⟨go, j, none⟩) (h1.base go rfl) _⟩
theorem Stz4.setF {wb wi : World} {Bf gf nf cf : Nat} (h : ∃ L, Own wi Bf (.slice (some ⟨gf, 0, none⟩) nf cf) nf L) (he : Ext wb wi) (hB : wb.heap.size ≤ Bf) (j : Nat) (x : BitVec 8) : (∃ L, Own (wi.setCell ⟨gf, j, none⟩ (.int .u8 (ub x))) Bf (.slice (some ⟨gf, 0, none⟩) nf cf) nf L) ∧ Ext wb (wi.setCell ⟨gf, j, none⟩ (.int .u8 (ub x))) := by
  obtain ⟨L, h1⟩ := h
  exact ⟨⟨_, h1.set j x⟩, he.setCell (p := ⟨gf, j, none⟩) (Nat.le_trans hB (h1.base gf rfl)) _⟩
theorem wpList_on {P : Program} {ops : Array Oper} {rest : List Oper} {o : Oper} {a : Act} {w : World} {Q : Exit → Act → World → Prop} (hw : Region.wanted o (yielded ops a.tmps) = true)
    (h : ∀ K : Act → World → Prop, (∀ a w, wpList P ops Q rest a w → K a w) → o.wp P a w K Q) : wpList P ops Q (o :: rest) a w := wpList_step fun K hK => by rw [if_pos hw]; exact h K hK
theorem ub_inc4 (x : BitVec 8) : (ub x + 1) % (256 : Int) = ub (x + 1) := by
  unfold ub; rw [BitVec.toNat_add]; simp
set_option maxRecDepth 100000 in
set_option maxHeartbeats 4000000 in
theorem CbcStays_any {k g b0 : List (BitVec 8)} {A : Option Addr} {n0 c : Nat} {w : World} (hk : k.length = 16) (hg : g.length = 16) (hb : Bs w A n0 c b0) (hw : Lay3 w) :
    Calls Tryd.prog 7 #[.agg (bv k), .agg (bv g), .slice A n0 c] w fun e w' => e = .returned (.bool true) ∧ Below w.heap.size w w' := by
  go_enter Tryd.func7, Tryd.ntmps7
  have hx0 : Ext w ((w.alloc (.cells (bv k) ar)).alloc (.cells (bv g) ar)) := (by (repeat (first | assumption | exact Ext.refl _ | apply Ext.drew | apply Ext.drewN | apply Ext.alloc | refine Ext.trans ?_ (by assumption))); first | done | fail)
  have bk : Blk ((w.alloc (.cells (bv k) ar)).alloc (.cells (bv g) ar)) w.heap.size ar (bv k) := ⟨(by (repeat (first | (with_reducible apply Has.drew) | exact Has.new _ _ _ _ (by first | (simp; done) | fail) | (with_reducible apply Has.alloc))); first | done | fail)⟩
  have bg : Blk ((w.alloc (.cells (bv k) ar)).alloc (.cells (bv g) ar)) (w.heap.size + 1) ar (bv g) := ⟨(by (repeat (first | (with_reducible apply Has.drew) | exact Has.new _ _ _ _ (by first | (simp; done) | fail) | (with_reducible apply Has.alloc))); first | done | fail)⟩
  go_wp2_with fail
  generalize (w.alloc (.cells (bv k) ar)).alloc (.cells (bv g) ar) = w0 at *
  refine (up4_any _).mono ?_
  rintro e w1 ⟨rfl, hx1⟩
  go_wp2_with fail
  refine (cut4_any A n0 c 300 300 rfl hb.cap w1).mono ?_
  rintro e1 w2 ⟨rfl, rfl⟩
  have hn : min n0 300 ≤ 300 := Nat.min_le_right _ _
  have hx01 := hx0.trans hx1
  have hb1 := (hb.ext hx01).take (min n0 300) (Nat.min_le_left _ _)
  generalize min n0 300 = n at *
  generalize b0.take n = b at *
  have hw1 := hw.ext hx01
  have rk := (bk.ext hx1).rge
  have rg := (bg.ext hx1).rge
  have sk := (bk.ext hx1).whole hk
  have sg := (bg.ext hx1).whole hg
  have hbl := hb1.len
  obtain ⟨N, hN⟩ : ∃ N, N = n / 16 + 1 := ⟨_, rfl⟩
  obtain ⟨p, hp⟩ : ∃ p, p = 16 * N := ⟨_, rfl⟩
  have hp3 : p ≤ 316 := by omega
  obtain ⟨hs1, _⟩ := sealing (k := k) (g := g) hbl hn hp hN
  have hop : ∀ {w A B C c d e}, Bs w A 16 c k → Bs w B 16 d g → Bs w C n e b → Lay3 w → Calls Tryd.prog 13 #[.slice A 16 c, .slice B 16 d, .slice C n e] w fun e w' => ∃ A' n' c', e = .returned (.tuple #[.slice A' n' c', opV k g b]) ∧ n' ≤ n ∧ Own w' w.heap.size (.slice A' n' c') n' (opT k g b) ∧ Ext w w' := fun h1 h2 h3 h4 => Open_all h1 h2 h3 (by omega) h4
  have hfi : ∀ {w A c}, Bs w A n c b → Calls Tryd.prog 16 #[.slice A n c] w (Fresh w (n + fn n) (fillL b)) := fun h => Fill_any h (by omega)
  have hvo := opV_or k g b
  have hfl : (fillL b).length ≤ 316 := by rw [fill_len, hbl]; have := fn_hi n; omega
  have hSl : (sealL (ks k) g b).length ≤ 316 := by rw [sealL_len, hbl]; omega
  generalize sealL (ks k) g b = S at *
  generalize opT k g b = X at *
  generalize opV k g b = V at *
  generalize fillL b = F at *
  obtain ⟨nf, hnf⟩ : ∃ q, n + fn n = q := ⟨_, rfl⟩
  rw [hnf] at hfi
  have HS := Kp.mk @hs1
  have HO := Kp.mk @hop
  have HF := Kp.mk @hfi
  have HV := Kp.mk hvo
  have HX := Kp.mk hx01
  have HKL := Kp.mk hk
  have HGL := Kp.mk hg
  have HN := Kp.mk hn
  have HFL := Kp.mk hfl
  have HSL := Kp.mk hSl
  have eqK := fun w => eqA k k hk hk w
  have eqG := fun w => eqA g g hg hg w
  have EQK := Kp.mk eqK
  have EQG := Kp.mk eqG
  clear hw hx0 hx1 hx01 bk bg hk hg hb hn hN hp hp3 hs1 hop hfi hvo hfl hSl hbl hnf eqK eqG
  go_wp2_with (first | (at_builtin; refine wpList_append_bs rfl (.tmp 27) (.tmp 28) rfl w1.heap.size _ 0 [] rfl (Own.new w1 w1.heap.size 0 [] rfl (Nat.le_refl _) (Nat.zero_le _)) A n c b rfl (hb1.ext (by (repeat (first | assumption | exact Ext.refl _ | apply Ext.drew | apply Ext.drewN | apply Ext.alloc | refine Ext.trans ?_ (by assumption))); first | done | fail)) (by have := HN.out; omega) n (by omega) b rfl w1 (by (repeat (first | assumption | exact Ext.refl _ | apply Ext.drew | apply Ext.drewN | apply Ext.alloc | refine Ext.trans ?_ (by assumption))); first | done | fail) (Nat.le_refl _) (Ext.size (by (repeat (first | assumption | exact Ext.refl _ | apply Ext.drew | apply Ext.drewN | apply Ext.alloc | refine Ext.trans ?_ (by assumption))); first | done | fail)) ?_; intro A3 c3 w3 ho3 hx3 _; have hz4 : Blk (w3.alloc (.cells z16 ar)) w3.heap.size ar (bv (zb 16)) := Blk.new w3 ar (bv (zb 16)); have b4 := hz4.row (bv k); have x4 : Ext w3 ((w3.alloc (.cells z16 ar)).setRow w3.heap.size (bv k)) := Ext.setRow (by (repeat (first | assumption | exact Ext.refl _ | apply Ext.drew | apply Ext.drewN | apply Ext.alloc | refine Ext.trans ?_ (by assumption))); first | done | fail) (Nat.le_refl _) _; have B4 := Kp.mk b4; have X4 := Kp.mk x4; clear b4 x4) | ((with_reducible refine at_load_to 30 3 ?_); refine wpList_load_rge rfl ar (.tmp 3) rfl w.heap.size 0 k (rk.ext hx3) rfl _ Tryd.underlying37 rfl (szA _ HKL.out) ?_) | ((with_reducible refine at_store 9 30 ?_); refine wpList_store_blk rfl ar (.tmp 9) (.tmp 30) rfl w3.heap.size k (zb 16) ar hz4 (HKL.out.trans (zb_len 16).symm) rfl rfl (szA _ HKL.out) ?_; clear hz4; generalize (w3.alloc (.cells z16 ar)).setRow w3.heap.size (bv k) = w4 at *; have hz5 : Blk (w4.alloc (.cells z16 ar)) w4.heap.size ar (bv (zb 16)) := Blk.new w4 ar (bv (zb 16)); have b5 := hz5.row (bv g); have x5 : Ext w4 ((w4.alloc (.cells z16 ar)).setRow w4.heap.size (bv g)) := Ext.setRow (by (repeat (first | assumption | exact Ext.refl _ | apply Ext.drew | apply Ext.drewN | apply Ext.alloc | refine Ext.trans ?_ (by assumption))); first | done | fail) (Nat.le_refl _) _; have B5 := Kp.mk b5; have X5 := Kp.mk x5; clear b5 x5) | ((with_reducible refine at_load_to 31 4 ?_); refine wpList_load_rge rfl ar (.tmp 4) rfl (w.heap.size + 1) 0 g (rg.ext (hx3.trans X4.out)) rfl _ Tryd.underlying37 rfl (szA _ HGL.out) ?_) | ((with_reducible refine at_store 10 31 ?_); refine wpList_store_blk rfl ar (.tmp 10) (.tmp 31) rfl w4.heap.size g (zb 16) ar hz5 (HGL.out.trans (zb_len 16).symm) rfl rfl (szA _ HGL.out) ?_; clear hz5; generalize (w4.alloc (.cells z16 ar)).setRow w4.heap.size (bv g) = w5 at *) | fail)
  have x35 := X4.out.trans X5.out
  have x15 := hx3.trans x35
  have so5 := ho3.bs.ext x35
  have ho5 := ho3.ext x35
  have bk5 := B4.out.ext X5.out
  have bg5 := B5.out
  have sk5 := bk5.whole HKL.out
  have sg5 := bg5.whole HGL.out
  have hw5 := hw1.ext x15
  have HX15 := Kp.mk x15
  have HLT := Kp.mk (show ∀ ga, A3 = some ⟨ga, 0, none⟩ → ga < w5.heap.size from fun ga e => by subst e; exact ho5.lt ga rfl)
  have H15 := Kp.mk x15.size
  clear x35 x15 X4 X5 B4 B5 ho3 hx3
  refine (HF.out so5).mono ?_
  rintro e w6 ⟨A6, c6, rfl, hf6, hof6, hx6⟩
  have so6 := so5.ext hx6
  have sk6 := sk5.ext hx6
  have sg6 := sg5.ext hx6
  have hw6 := hw5.ext hx6
  have HO6 := Kp.mk (ho5.ext hx6)
  have HK6 := Kp.mk (bk5.ext hx6)
  have HG6 := Kp.mk (bg5.ext hx6)
  have HX16 := Kp.mk (HX15.out.trans hx6)
  have HX56 := Kp.mk hx6
  have HOF6 := Kp.mk hof6
  clear so5 ho5 bk5 bg5 sk5 sg5 hw5 HX15 hf6 hof6 hx6
  go_wp2_with fail
  refine wp_region_held_drew (S := fun w' => Ext w6 w') (by kernel_rfl) (Ext.refl w6).drew (fun hHeld => ?_)
  refine wpAnyH_take (i := 0) (oi := ⟨some 35, _, _, _, _, _⟩) (v := ?_) rfl (by kernel_rfl) (by kernel_rfl) (by kernel_rfl) (fun _ _ _ h => h) (Or.inl ⟨by rfl, ?_⟩) (by assumption) ?_
  rotate_left
  · (intro w hSw; (try dsimp only at hSw); go_simp; try with_reducible rfl)
  try simp only [Act.put, List.setIfInBounds_toArray, List.set_cons_zero, List.set_cons_succ]
  refine wpAnyH_take (i := 1) (oi := ⟨some 36, _, _, _, _, _⟩) (v := ?_) rfl (by kernel_rfl) (by kernel_rfl) (by kernel_rfl) (fun _ _ _ h => h) (Or.inl ⟨by rfl, ?_⟩) (by assumption) ?_
  rotate_left
  · (intro w hSw; (try dsimp only at hSw); go_simp; try with_reducible rfl)
  try simp only [Act.put, List.setIfInBounds_toArray, List.set_cons_zero, List.set_cons_succ]
  refine wpAnyH_take (i := 2) (oi := ⟨some 37, _, _, _, _, _⟩) (v := ?_) rfl (by kernel_rfl) (by kernel_rfl) (by kernel_rfl) (fun _ _ _ h => h) (Or.inl ⟨by rfl, ?_⟩) (by assumption) ?_
  rotate_left
  · (intro w hSw; (try dsimp only at hSw); go_simp; try with_reducible rfl)
  try simp only [Act.put, List.setIfInBounds_toArray, List.set_cons_zero, List.set_cons_succ]
  refine next_one 3 (by kernel_rfl) rfl (by rfl) fun K' HK' => ?_
  go_simp
  refine (HS.out (sk6.ext (by (repeat (first | assumption | exact Ext.refl _ | apply Ext.drew | apply Ext.drewN | apply Ext.alloc | refine Ext.trans ?_ (by assumption))); first | done | fail)) (sg6.ext (by (repeat (first | assumption | exact Ext.refl _ | apply Ext.drew | apply Ext.drewN | apply Ext.alloc | refine Ext.trans ?_ (by assumption))); first | done | fail)) (so6.ext (by (repeat (first | assumption | exact Ext.refl _ | apply Ext.drew | apply Ext.drewN | apply Ext.alloc | refine Ext.trans ?_ (by assumption))); first | done | fail)) (hw6.ext (by (repeat (first | assumption | exact Ext.refl _ | apply Ext.drew | apply Ext.drewN | apply Ext.alloc | refine Ext.trans ?_ (by assumption))); first | done | fail))).mono ?_
  rintro e w7 ⟨A7, c7, rfl, hs7, _, hx7⟩
  have hx67 : Ext w6 w7 := (by (repeat (first | assumption | exact Ext.refl _ | apply Ext.drew | apply Ext.drewN | apply Ext.alloc | refine Ext.trans ?_ (by assumption))); first | done | fail)
  have hS2 := Ext.trans hHeld hx7
  refine held_go HK' hS2 (fun _ => ?_)
  clear HK'
  refine held_more (S' := fun w' => Ext w7 w') (fun _ h => Ext.trans hS2 h) _ _ _ _ ?_
  clear hHeld hS2
  have hHeld : Ext w7 w7 := Ext.refl _
  try simp only [Act.put, List.setIfInBounds_toArray, List.set_cons_zero, List.set_cons_succ]
  refine wpAnyH_take (i := 4) (oi := ⟨some 34, _, _, _, _, _⟩) (v := ?_) rfl (by kernel_rfl) (by kernel_rfl) (by kernel_rfl) (fun _ _ _ h => h) (Or.inl ⟨by rfl, ?_⟩) (by assumption) ?_
  rotate_left
  · (intro w hSw; (try dsimp only at hSw); go_simp; try with_reducible rfl)
  try simp only [Act.put, List.setIfInBounds_toArray, List.set_cons_zero, List.set_cons_succ]
  refine wpAnyH_take (i := 5) (oi := ⟨some 39, _, _, _, _, _⟩) (v := ?_) rfl (by kernel_rfl) (by kernel_rfl) (by kernel_rfl) (fun _ _ _ h => h) (Or.inl ⟨by rfl, ?_⟩) (by assumption) ?_
  rotate_left
  · (intro w hSw; (try dsimp only at hSw); go_simp; try with_reducible rfl)
  try simp only [Act.put, List.setIfInBounds_toArray, List.set_cons_zero, List.set_cons_succ]
  refine wpAnyH_take (i := 6) (oi := ⟨some 40, _, _, _, _, _⟩) (v := ?_) rfl (by kernel_rfl) (by kernel_rfl) (by kernel_rfl) (fun _ _ _ h => h) (Or.inl ⟨by rfl, ?_⟩) (by assumption) ?_
  rotate_left
  · (intro w hSw; (try dsimp only at hSw); go_simp; try with_reducible rfl)
  try simp only [Act.put, List.setIfInBounds_toArray, List.set_cons_zero, List.set_cons_succ]
  refine wpAnyH_take (i := 7) (oi := ⟨some 12, _, _, _, _, _⟩) (v := ?_) rfl (by kernel_rfl) (by kernel_rfl) (by kernel_rfl) (fun _ _ _ h => h) (Or.inl ⟨by rfl, ?_⟩) (by assumption) ?_
  rotate_left
  · (intro w hSw; (try dsimp only at hSw); go_simp; try with_reducible rfl)
  try simp only [Act.put, List.setIfInBounds_toArray, List.set_cons_zero, List.set_cons_succ]
  refine wpAnyH_take (i := 8) (oi := ⟨some 13, _, _, _, _, _⟩) (v := ?_) rfl (by kernel_rfl) (by kernel_rfl) (by kernel_rfl) (fun _ _ _ h => h) (Or.inl ⟨by rfl, ?_⟩) (by assumption) ?_
  rotate_left
  · (intro w hSw; (try dsimp only at hSw); go_simp; try with_reducible rfl)
  try simp only [Act.put, List.setIfInBounds_toArray, List.set_cons_zero, List.set_cons_succ]
  refine wpAnyH_done (by kernel_rfl) ?_ _
  clear hx7
  go_wp2_with fail
  refine wp_region_held_drew (S := fun w' => Ext w7 w') (by kernel_rfl) (Ext.refl w7).drew (fun hHeld => ?_)
  refine wpAnyH_take (i := 0) (oi := ⟨some 42, _, _, _, _, _⟩) (v := ?_) rfl (by kernel_rfl) (by kernel_rfl) (by kernel_rfl) (fun _ _ _ h => h) (Or.inl ⟨by rfl, ?_⟩) (by assumption) ?_
  rotate_left
  · (intro w hSw; (try dsimp only at hSw); go_simp; try with_reducible rfl)
  try simp only [Act.put, List.setIfInBounds_toArray, List.set_cons_zero, List.set_cons_succ]
  refine wpAnyH_take (i := 1) (oi := ⟨some 43, _, _, _, _, _⟩) (v := ?_) rfl (by kernel_rfl) (by kernel_rfl) (by kernel_rfl) (fun _ _ _ h => h) (Or.inl ⟨by rfl, ?_⟩) (by assumption) ?_
  rotate_left
  · (intro w hSw; (try dsimp only at hSw); go_simp; try with_reducible rfl)
  try simp only [Act.put, List.setIfInBounds_toArray, List.set_cons_zero, List.set_cons_succ]
  refine wpAnyH_take (i := 2) (oi := ⟨some 44, _, _, _, _, _⟩) (v := ?_) rfl (by kernel_rfl) (by kernel_rfl) (by kernel_rfl) (fun _ _ _ h => h) (Or.inl ⟨by rfl, ?_⟩) (by assumption) ?_
  rotate_left
  · (intro w hSw; (try dsimp only at hSw); go_simp; try with_reducible rfl)
  try simp only [Act.put, List.setIfInBounds_toArray, List.set_cons_zero, List.set_cons_succ]
  refine next_one 3 (by kernel_rfl) rfl (by rfl) fun K' HK' => ?_
  go_simp
  refine (HO.out (sk6.ext (by (repeat (first | assumption | exact Ext.refl _ | apply Ext.drew | apply Ext.drewN | apply Ext.alloc | refine Ext.trans ?_ (by assumption))); first | done | fail)) (sg6.ext (by (repeat (first | assumption | exact Ext.refl _ | apply Ext.drew | apply Ext.drewN | apply Ext.alloc | refine Ext.trans ?_ (by assumption))); first | done | fail)) (so6.ext (by (repeat (first | assumption | exact Ext.refl _ | apply Ext.drew | apply Ext.drewN | apply Ext.alloc | refine Ext.trans ?_ (by assumption))); first | done | fail)) (hw6.ext (by (repeat (first | assumption | exact Ext.refl _ | apply Ext.drew | apply Ext.drewN | apply Ext.alloc | refine Ext.trans ?_ (by assumption))); first | done | fail))).mono ?_
  rintro e w8 ⟨A8, n8, c8, rfl, hn8, ho8, hx8⟩
  have hx78 : Ext w7 w8 := (by (repeat (first | assumption | exact Ext.refl _ | apply Ext.drew | apply Ext.drewN | apply Ext.alloc | refine Ext.trans ?_ (by assumption))); first | done | fail)
  have hS2 := Ext.trans hHeld hx8
  refine held_go HK' hS2 (fun _ => ?_)
  clear HK'
  refine held_more (S' := fun w' => Ext w8 w') (fun _ h => Ext.trans hS2 h) _ _ _ _ ?_
  clear hHeld hS2
  have hHeld : Ext w8 w8 := Ext.refl _
  try simp only [Act.put, List.setIfInBounds_toArray, List.set_cons_zero, List.set_cons_succ]
  refine wpAnyH_take (i := 4) (oi := ⟨some 41, _, _, _, _, _⟩) (v := ?_) rfl (by kernel_rfl) (by kernel_rfl) (by kernel_rfl) (fun _ _ _ h => h) (Or.inl ⟨by rfl, ?_⟩) (by assumption) ?_
  rotate_left
  · (intro w hSw; (try dsimp only at hSw); go_simp; try with_reducible rfl)
  try simp only [Act.put, List.setIfInBounds_toArray, List.set_cons_zero, List.set_cons_succ]
  refine wpAnyH_take (i := 5) (oi := ⟨some 46, _, _, _, _, _⟩) (v := ?_) rfl (by kernel_rfl) (by kernel_rfl) (by kernel_rfl) (fun _ _ _ h => h) (Or.inl ⟨by rfl, ?_⟩) (by assumption) ?_
  rotate_left
  · (intro w hSw; (try dsimp only at hSw); go_simp; try with_reducible rfl)
  try simp only [Act.put, List.setIfInBounds_toArray, List.set_cons_zero, List.set_cons_succ]
  refine wpAnyH_take (i := 6) (oi := ⟨some 47, _, _, _, _, _⟩) (v := ?_) rfl (by kernel_rfl) (by kernel_rfl) (by kernel_rfl) (fun _ _ _ h => h) (Or.inl ⟨by rfl, ?_⟩) (by assumption) ?_
  rotate_left
  · (intro w hSw; (try dsimp only at hSw); go_simp; try with_reducible rfl)
  try simp only [Act.put, List.setIfInBounds_toArray, List.set_cons_zero, List.set_cons_succ]
  refine wpAnyH_take (i := 7) (oi := ⟨some 14, _, _, _, _, _⟩) (v := ?_) rfl (by kernel_rfl) (by kernel_rfl) (by kernel_rfl) (fun _ _ _ h => h) (Or.inl ⟨by rfl, ?_⟩) (by assumption) ?_
  rotate_left
  · (intro w hSw; (try dsimp only at hSw); go_simp; try with_reducible rfl)
  try simp only [Act.put, List.setIfInBounds_toArray, List.set_cons_zero, List.set_cons_succ]
  refine wpAnyH_take (i := 8) (oi := ⟨some 15, _, _, _, _, _⟩) (v := ?_) rfl (by kernel_rfl) (by kernel_rfl) (by kernel_rfl) (fun _ _ _ h => h) (Or.inl ⟨by rfl, ?_⟩) (by assumption) ?_
  rotate_left
  · (intro w hSw; (try dsimp only at hSw); go_simp; try with_reducible rfl)
  try simp only [Act.put, List.setIfInBounds_toArray, List.set_cons_zero, List.set_cons_succ]
  refine wpAnyH_done (by kernel_rfl) ?_ _
  clear hx8
  have hx68 := hx67.trans hx78
  have hx18 := HX16.out.trans hx68
  have r9 := (HK6.out.ext hx68).rge
  have r3 := rk.ext hx18
  have r10 := (HG6.out.ext hx68).rge
  have r4 := rg.ext hx18
  have hof8 := HOF6.out.ext hx68
  have hoo8 := HO6.out.ext hx68
  have s1 := hoo8.bs.str (Ext.refl _)
  have s2 := (hb1.ext hx18).str (Ext.refl _)
  have s3 := hof8.bs.str (Ext.refl _)
  have s4 := (hs7.ext hx78).str (Ext.refl _)
  have s5 := ho8.bs.str (Ext.refl _)
  have hXl : X.length ≤ 300 := by have := ho8.len; have := HN.out; omega
  obtain ⟨sf, hsf⟩ : ∃ x, strOf F = x := ⟨_, rfl⟩
  obtain ⟨sc, hsc⟩ : ∃ x, strOf S = x := ⟨_, rfl⟩
  obtain ⟨st, hst⟩ : ∃ x, strOf X = x := ⟨_, rfl⟩
  have z1 : sf.size ≤ 316 := by rw [← hsf, strOf_size]; exact HFL.out
  have z2 : sc.size ≤ 316 := by rw [← hsc, strOf_size]; exact HSL.out
  have z3 : st.size ≤ 300 := by rw [← hst, strOf_size]; exact hXl
  have a1 : ∀ w : World, (Op.stringOp .add sf sc).run Tryd.prog w = .ok (.string (sf ++ sc)) w := fun w => run_string_add_sum w _ _ (by omega)
  have a2 : ∀ w : World, (Op.stringOp .add (sf ++ sc) st).run Tryd.prog w = .ok (.string (sf ++ sc ++ st)) w := fun w => run_string_add_sum w _ _ (by rw [ByteArray.size_append]; omega)
  rw [hsf] at s3
  rw [hsc] at s4
  rw [hst] at s5
  generalize strOf b = sb at *
  have eqK := EQK.out
  have eqG := EQG.out
  have HSF := Kp.mk hsf
  have HSC := Kp.mk hsc
  have HST := Kp.mk hst
  have A1 := Kp.mk a1
  have A2' := Kp.mk a2
  have HOF := Kp.mk hof8
  have HOO := Kp.mk hoo8
  have HX18 := Kp.mk hx18
  have HRK := Kp.mk sk
  have HRG := Kp.mk sg
  have HB1 := Kp.mk hb1
  have HW1 := Kp.mk hw1
  have HN8 := Kp.mk hn8
  have hst8 : Stz4 w1 A3 n c3 w5.heap.size A6 nf c6 w8 := ⟨⟨_, HOO.out⟩, ⟨_, HOF.out⟩, hx18⟩
  have HST8 := Kp.mk hst8
  clear hst8 z1 z2 z3 hXl hsf hsc hst hof8 hoo8 hx18 rk rg sk sg hb1 hw1 hs7 ho8 hx68 hx78 hx67 hw6 so6 sk6 sg6 hn8
  go_wp2_with (first | ((with_reducible refine at_load_to 54 9 ?_); refine wpList_on (by rfl) fun K hK => wp_load_rge ar (.tmp 9) rfl w3.heap.size 0 k r9 rfl _ Tryd.underlying37 rfl (szA _ HKL.out) (hK _ _ ?_); clear hK) | ((with_reducible refine at_load_to 55 3 ?_); refine wpList_on (by rfl) fun K hK => wp_load_rge ar (.tmp 3) rfl w.heap.size 0 k r3 rfl _ Tryd.underlying37 rfl (szA _ HKL.out) (hK _ _ ?_); clear hK) | ((with_reducible refine at_load_to 59 10 ?_); refine wpList_on (by rfl) fun K hK => wp_load_rge ar (.tmp 10) rfl w4.heap.size 0 g r10 rfl _ Tryd.underlying37 rfl (szA _ HGL.out) (hK _ _ ?_); clear hK) | ((with_reducible refine at_load_to 60 4 ?_); refine wpList_on (by rfl) fun K hK => wp_load_rge ar (.tmp 4) rfl (w.heap.size + 1) 0 g r4 rfl _ Tryd.underlying37 rfl (szA _ HGL.out) (hK _ _ ?_); clear hK) | fail)
  clear r9 r3 r10 r4 s1 s2 s3 s4 s5 a1 a2
  have hn := HN.out
  have hnf : nf ≤ 316 := by have := HOF.out.len; have := HFL.out; omega
  go_loopw [18] (fun iv wi => ∃ j : Nat, j ≤ n ∧ iv = .int .i64 (j : Int) ∧ Stz4 w1 A3 n c3 w5.heap.size A6 nf c6 wi) (fun i _ => n - (intOf i).toNat)
  case atStart => exact ⟨0, by omega, rfl, HST8.out⟩
  case round =>
    clear HST8
    obtain ⟨j, hj, rfl, hst⟩ := hrel
    by_cases hlj : j < n
    · obtain ⟨L, hL⟩ := hst.o
      obtain ⟨ga, rfl, _, _⟩ := hL.some_ (by omega)
      have k1 := hL.cell j hlj
      have f1 := hL.free j
      have b1 : (j : Int) < (n : Int) := by omega
      have HSj := Kp.mk hst
      generalize gb L j = x at *
      clear hst hL
      go_wp2_with fail
      go_roundw
      case rel =>
        refine ⟨j + 1, by omega, by go_num, ?_⟩
        rw [ub_inc4]
        exact HSj.out.setO (HLT.out ga rfl) j _
      case measure => simp [intOf]; omega
    · obtain rfl : j = n := by omega
      have hf := hst.f
      have he := hst.e
      clear hst
      go_wp2_with fail
      go_loopw [19] (fun iv wi => ∃ i : Nat, i ≤ nf ∧ iv = .int .i64 (i : Int) ∧ (∃ L, Own wi w5.heap.size (.slice A6 nf c6) nf L) ∧ Ext w1 wi) (fun i _ => nf - (intOf i).toNat)
      case atStart => exact ⟨0, by omega, rfl, hf, he⟩
      case round =>
        clear hf he
        obtain ⟨i, hi, rfl, hf, he⟩ := hrel
        by_cases hli : i < nf
        · obtain ⟨L, hL⟩ := hf
          obtain ⟨gf, rfl, _, _⟩ := hL.some_ (by omega)
          have k1 := hL.cell i hli
          have f1 := hL.free i
          have b1 : (i : Int) < (nf : Int) := by omega
          have HLi := Kp.mk hL
          have HEi := Kp.mk he
          generalize gb L i = x at *
          clear hL he
          go_wp2_with fail
          go_roundw
          case rel =>
            refine ⟨i + 1, by omega, by go_num, ?_⟩
            rw [ub_inc4]
            exact Stz4.setF ⟨_, HLi.out⟩ HEi.out H15.out i _
          case measure => simp [intOf]; omega
        · obtain rfl : i = nf := by omega
          clear hf
          have sk8 := HRK.out.ext he
          have sg8 := HRG.out.ext he
          have sb8 := HB1.out.ext he
          have hw8 := HW1.out.ext he
          have HE := Kp.mk (HX.out.trans he)
          clear he
          go_wp2_with fail
          refine wp_region_held_drew (S := fun w' => Ext wr w') (by kernel_rfl) (Ext.refl wr).drew (fun hHeld => ?_)
          refine wpAnyH_take (i := 0) (oi := ⟨some 100, _, _, _, _, _⟩) (v := ?_) rfl (by kernel_rfl) (by kernel_rfl) (by kernel_rfl) (fun _ _ _ h => h) (Or.inl ⟨by rfl, ?_⟩) (by assumption) ?_
          rotate_left
          · (intro w hSw; (try dsimp only at hSw); go_simp; try with_reducible rfl)
          try simp only [Act.put, List.setIfInBounds_toArray, List.set_cons_zero, List.set_cons_succ]
          refine wpAnyH_take (i := 1) (oi := ⟨some 101, _, _, _, _, _⟩) (v := ?_) rfl (by kernel_rfl) (by kernel_rfl) (by kernel_rfl) (fun _ _ _ h => h) (Or.inl ⟨by rfl, ?_⟩) (by assumption) ?_
          rotate_left
          · (intro w hSw; (try dsimp only at hSw); go_simp; try with_reducible rfl)
          try simp only [Act.put, List.setIfInBounds_toArray, List.set_cons_zero, List.set_cons_succ]
          refine wpAnyH_take (i := 2) (oi := ⟨some 102, _, _, _, _, _⟩) (v := ?_) rfl (by kernel_rfl) (by kernel_rfl) (by kernel_rfl) (fun _ _ _ h => h) (Or.inl ⟨by rfl, ?_⟩) (by assumption) ?_
          rotate_left
          · (intro w hSw; (try dsimp only at hSw); go_simp; try with_reducible rfl)
          try simp only [Act.put, List.setIfInBounds_toArray, List.set_cons_zero, List.set_cons_succ]
          refine next_one 3 (by kernel_rfl) rfl (by rfl) fun K' HK' => ?_
          go_simp
          refine (HS.out (sk8.ext (by (repeat (first | assumption | exact Ext.refl _ | apply Ext.drew | apply Ext.drewN | apply Ext.alloc | refine Ext.trans ?_ (by assumption))); first | done | fail)) (sg8.ext (by (repeat (first | assumption | exact Ext.refl _ | apply Ext.drew | apply Ext.drewN | apply Ext.alloc | refine Ext.trans ?_ (by assumption))); first | done | fail)) (sb8.ext (by (repeat (first | assumption | exact Ext.refl _ | apply Ext.drew | apply Ext.drewN | apply Ext.alloc | refine Ext.trans ?_ (by assumption))); first | done | fail)) (hw8.ext (by (repeat (first | assumption | exact Ext.refl _ | apply Ext.drew | apply Ext.drewN | apply Ext.alloc | refine Ext.trans ?_ (by assumption))); first | done | fail))).mono ?_
          rintro e w9 ⟨A9, c9, rfl, hs9, _, hx9⟩
          have hx89 : Ext wr w9 := (by (repeat (first | assumption | exact Ext.refl _ | apply Ext.drew | apply Ext.drewN | apply Ext.alloc | refine Ext.trans ?_ (by assumption))); first | done | fail)
          have hS2 := Ext.trans hHeld hx9
          refine held_go HK' hS2 (fun _ => ?_)
          clear HK'
          refine held_more (S' := fun w' => Ext w9 w') (fun _ h => Ext.trans hS2 h) _ _ _ _ ?_
          clear hHeld hS2
          have hHeld : Ext w9 w9 := Ext.refl _
          try simp only [Act.put, List.setIfInBounds_toArray, List.set_cons_zero, List.set_cons_succ]
          refine wpAnyH_take (i := 4) (oi := ⟨some 99, _, _, _, _, _⟩) (v := ?_) rfl (by kernel_rfl) (by kernel_rfl) (by kernel_rfl) (fun _ _ _ h => h) (Or.inl ⟨by rfl, ?_⟩) (by assumption) ?_
          rotate_left
          · (intro w hSw; (try dsimp only at hSw); go_simp; try with_reducible rfl)
          try simp only [Act.put, List.setIfInBounds_toArray, List.set_cons_zero, List.set_cons_succ]
          refine wpAnyH_take (i := 5) (oi := ⟨some 104, _, _, _, _, _⟩) (v := ?_) rfl (by kernel_rfl) (by kernel_rfl) (by kernel_rfl) (fun _ _ _ h => h) (Or.inl ⟨by rfl, ?_⟩) (by assumption) ?_
          rotate_left
          · (intro w hSw; (try dsimp only at hSw); go_simp; try with_reducible rfl)
          try simp only [Act.put, List.setIfInBounds_toArray, List.set_cons_zero, List.set_cons_succ]
          refine wpAnyH_take (i := 6) (oi := ⟨some 105, _, _, _, _, _⟩) (v := ?_) rfl (by kernel_rfl) (by kernel_rfl) (by kernel_rfl) (fun _ _ _ h => h) (Or.inl ⟨by rfl, ?_⟩) (by assumption) ?_
          rotate_left
          · (intro w hSw; (try dsimp only at hSw); go_simp; try with_reducible rfl)
          try simp only [Act.put, List.setIfInBounds_toArray, List.set_cons_zero, List.set_cons_succ]
          refine wpAnyH_take (i := 7) (oi := ⟨some 20, _, _, _, _, _⟩) (v := ?_) rfl (by kernel_rfl) (by kernel_rfl) (by kernel_rfl) (fun _ _ _ h => h) (Or.inl ⟨by rfl, ?_⟩) (by assumption) ?_
          rotate_left
          · (intro w hSw; (try dsimp only at hSw); go_simp; try with_reducible rfl)
          try simp only [Act.put, List.setIfInBounds_toArray, List.set_cons_zero, List.set_cons_succ]
          refine wpAnyH_take (i := 8) (oi := ⟨some 21, _, _, _, _, _⟩) (v := ?_) rfl (by kernel_rfl) (by kernel_rfl) (by kernel_rfl) (fun _ _ _ h => h) (Or.inl ⟨by rfl, ?_⟩) (by assumption) ?_
          rotate_left
          · (intro w hSw; (try dsimp only at hSw); go_simp; try with_reducible rfl)
          try simp only [Act.put, List.setIfInBounds_toArray, List.set_cons_zero, List.set_cons_succ]
          refine wpAnyH_done (by kernel_rfl) ?_ _
          clear hx9
          go_wp2_with fail
          refine wp_region_held_drew (S := fun w' => Ext w9 w') (by kernel_rfl) (Ext.refl w9).drew (fun hHeld => ?_)
          refine wpAnyH_take (i := 0) (oi := ⟨some 107, _, _, _, _, _⟩) (v := ?_) rfl (by kernel_rfl) (by kernel_rfl) (by kernel_rfl) (fun _ _ _ h => h) (Or.inl ⟨by rfl, ?_⟩) (by assumption) ?_
          rotate_left
          · (intro w hSw; (try dsimp only at hSw); go_simp; try with_reducible rfl)
          try simp only [Act.put, List.setIfInBounds_toArray, List.set_cons_zero, List.set_cons_succ]
          refine wpAnyH_take (i := 1) (oi := ⟨some 108, _, _, _, _, _⟩) (v := ?_) rfl (by kernel_rfl) (by kernel_rfl) (by kernel_rfl) (fun _ _ _ h => h) (Or.inl ⟨by rfl, ?_⟩) (by assumption) ?_
          rotate_left
          · (intro w hSw; (try dsimp only at hSw); go_simp; try with_reducible rfl)
          try simp only [Act.put, List.setIfInBounds_toArray, List.set_cons_zero, List.set_cons_succ]
          refine wpAnyH_take (i := 2) (oi := ⟨some 109, _, _, _, _, _⟩) (v := ?_) rfl (by kernel_rfl) (by kernel_rfl) (by kernel_rfl) (fun _ _ _ h => h) (Or.inl ⟨by rfl, ?_⟩) (by assumption) ?_
          rotate_left
          · (intro w hSw; (try dsimp only at hSw); go_simp; try with_reducible rfl)
          try simp only [Act.put, List.setIfInBounds_toArray, List.set_cons_zero, List.set_cons_succ]
          refine next_one 3 (by kernel_rfl) rfl (by rfl) fun K' HK' => ?_
          go_simp
          refine (HO.out (sk8.ext (by (repeat (first | assumption | exact Ext.refl _ | apply Ext.drew | apply Ext.drewN | apply Ext.alloc | refine Ext.trans ?_ (by assumption))); first | done | fail)) (sg8.ext (by (repeat (first | assumption | exact Ext.refl _ | apply Ext.drew | apply Ext.drewN | apply Ext.alloc | refine Ext.trans ?_ (by assumption))); first | done | fail)) (sb8.ext (by (repeat (first | assumption | exact Ext.refl _ | apply Ext.drew | apply Ext.drewN | apply Ext.alloc | refine Ext.trans ?_ (by assumption))); first | done | fail)) (hw8.ext (by (repeat (first | assumption | exact Ext.refl _ | apply Ext.drew | apply Ext.drewN | apply Ext.alloc | refine Ext.trans ?_ (by assumption))); first | done | fail))).mono ?_
          rintro e w10 ⟨A10, n10, c10, rfl, _, ho10, hx10⟩
          have hx90 : Ext w9 w10 := (by (repeat (first | assumption | exact Ext.refl _ | apply Ext.drew | apply Ext.drewN | apply Ext.alloc | refine Ext.trans ?_ (by assumption))); first | done | fail)
          have hS2 := Ext.trans hHeld hx10
          refine held_go HK' hS2 (fun _ => ?_)
          clear HK'
          refine held_more (S' := fun w' => Ext w10 w') (fun _ h => Ext.trans hS2 h) _ _ _ _ ?_
          clear hHeld hS2
          have hHeld : Ext w10 w10 := Ext.refl _
          try simp only [Act.put, List.setIfInBounds_toArray, List.set_cons_zero, List.set_cons_succ]
          refine wpAnyH_take (i := 4) (oi := ⟨some 106, _, _, _, _, _⟩) (v := ?_) rfl (by kernel_rfl) (by kernel_rfl) (by kernel_rfl) (fun _ _ _ h => h) (Or.inl ⟨by rfl, ?_⟩) (by assumption) ?_
          rotate_left
          · (intro w hSw; (try dsimp only at hSw); go_simp; try with_reducible rfl)
          try simp only [Act.put, List.setIfInBounds_toArray, List.set_cons_zero, List.set_cons_succ]
          refine wpAnyH_take (i := 5) (oi := ⟨some 111, _, _, _, _, _⟩) (v := ?_) rfl (by kernel_rfl) (by kernel_rfl) (by kernel_rfl) (fun _ _ _ h => h) (Or.inl ⟨by rfl, ?_⟩) (by assumption) ?_
          rotate_left
          · (intro w hSw; (try dsimp only at hSw); go_simp; try with_reducible rfl)
          try simp only [Act.put, List.setIfInBounds_toArray, List.set_cons_zero, List.set_cons_succ]
          refine wpAnyH_take (i := 6) (oi := ⟨some 112, _, _, _, _, _⟩) (v := ?_) rfl (by kernel_rfl) (by kernel_rfl) (by kernel_rfl) (fun _ _ _ h => h) (Or.inl ⟨by rfl, ?_⟩) (by assumption) ?_
          rotate_left
          · (intro w hSw; (try dsimp only at hSw); go_simp; try with_reducible rfl)
          try simp only [Act.put, List.setIfInBounds_toArray, List.set_cons_zero, List.set_cons_succ]
          refine wpAnyH_take (i := 7) (oi := ⟨some 22, _, _, _, _, _⟩) (v := ?_) rfl (by kernel_rfl) (by kernel_rfl) (by kernel_rfl) (fun _ _ _ h => h) (Or.inl ⟨by rfl, ?_⟩) (by assumption) ?_
          rotate_left
          · (intro w hSw; (try dsimp only at hSw); go_simp; try with_reducible rfl)
          try simp only [Act.put, List.setIfInBounds_toArray, List.set_cons_zero, List.set_cons_succ]
          refine wpAnyH_take (i := 8) (oi := ⟨some 23, _, _, _, _, _⟩) (v := ?_) rfl (by kernel_rfl) (by kernel_rfl) (by kernel_rfl) (fun _ _ _ h => h) (Or.inl ⟨by rfl, ?_⟩) (by assumption) ?_
          rotate_left
          · (intro w hSw; (try dsimp only at hSw); go_simp; try with_reducible rfl)
          try simp only [Act.put, List.setIfInBounds_toArray, List.set_cons_zero, List.set_cons_succ]
          refine wpAnyH_done (by kernel_rfl) ?_ _
          clear hx10
          have sb10 := sb8.ext (hx89.trans hx90)
          have t9 := fun (w' : World) (hx : Ext w10 w') => (hs9.ext hx90).str hx
          have t10 := fun (w' : World) (hx : Ext w10 w') => ho10.bs.str hx
          rw [HSC.out] at t9
          rw [HST.out] at t10
          have a1 := A1.out
          have a2 := A2'.out
          have HE10 := Kp.mk (HE.out.trans (hx89.trans hx90))
          have hvo := HV.out
          clear sk8 sg8 sb8 hw8 hs9 ho10 hx89 hx90 HS HO HV HSC HST
          rcases hvo with rfl | rfl | rfl
          all_goals
            go_wp2_with fail
            refine wp_region_held_drew (S := fun w' => Ext w10 w') (by kernel_rfl) (Ext.refl w10).drew (fun hHeld => ?_)
            refine wpAnyH_take (i := 0) (oi := ⟨some 113, _, _, _, _, _⟩) (v := ?_) rfl (by kernel_rfl) (by kernel_rfl) (by kernel_rfl) (fun _ _ _ h => h) (Or.inl ⟨by rfl, ?_⟩) (by assumption) ?_
            rotate_left
            · (intro w hSw; (try dsimp only at hSw); go_simp; try with_reducible rfl)
            try simp only [Act.put, List.setIfInBounds_toArray, List.set_cons_zero, List.set_cons_succ]
            refine wpAnyH_take (i := 1) (oi := ⟨some 114, _, _, _, _, _⟩) (v := ?_) rfl (by kernel_rfl) (by kernel_rfl) (by kernel_rfl) (fun _ _ _ h => h) (Or.inl ⟨by rfl, ?_⟩) (by assumption) ?_
            rotate_left
            · (intro w hSw; (try dsimp only at hSw); go_simp; try with_reducible rfl)
            try simp only [Act.put, List.setIfInBounds_toArray, List.set_cons_zero, List.set_cons_succ]
            refine wpAnyH_take (i := 2) (oi := ⟨some 115, _, _, _, _, _⟩) (v := ?_) rfl (by kernel_rfl) (by kernel_rfl) (by kernel_rfl) (fun _ _ _ h => h) (Or.inl ⟨by rfl, ?_⟩) (by assumption) ?_
            rotate_left
            · (intro w hSw; (try dsimp only at hSw); go_simp; try with_reducible rfl)
            try simp only [Act.put, List.setIfInBounds_toArray, List.set_cons_zero, List.set_cons_succ]
            refine wpAnyH_take (i := 3) (oi := ⟨some 116, _, _, _, _, _⟩) (v := ?_) rfl (by kernel_rfl) (by kernel_rfl) (by kernel_rfl) (fun _ _ _ h => h) (Or.inl ⟨by rfl, ?_⟩) (by assumption) ?_
            rotate_left
            · (intro w hSw; (try dsimp only at hSw); go_simp; try with_reducible rfl)
            try simp only [Act.put, List.setIfInBounds_toArray, List.set_cons_zero, List.set_cons_succ]
            refine wpAnyH_take (i := 4) (oi := ⟨some 117, _, _, _, _, _⟩) (v := ?_) rfl (by kernel_rfl) (by kernel_rfl) (by kernel_rfl) (fun _ _ _ h => h) (Or.inl ⟨by rfl, ?_⟩) (by assumption) ?_
            rotate_left
            · (intro w hSw; (try dsimp only at hSw); go_simp; try with_reducible rfl)
            try simp only [Act.put, List.setIfInBounds_toArray, List.set_cons_zero, List.set_cons_succ]
            refine wpAnyH_take (i := 5) (oi := ⟨some 118, _, _, _, _, _⟩) (v := ?_) rfl (by kernel_rfl) (by kernel_rfl) (by kernel_rfl) (fun _ _ _ h => h) (Or.inl ⟨by rfl, ?_⟩) (by assumption) ?_
            rotate_left
            · (intro w hSw; (try dsimp only at hSw); go_simp; try with_reducible rfl)
            try simp only [Act.put, List.setIfInBounds_toArray, List.set_cons_zero, List.set_cons_succ]
            refine wpAnyH_take (i := 6) (oi := ⟨some 119, _, _, _, _, _⟩) (v := ?_) rfl (by kernel_rfl) (by kernel_rfl) (by kernel_rfl) (fun _ _ _ h => h) (Or.inl ⟨by rfl, ?_⟩) (by assumption) ?_
            rotate_left
            · (intro w hSw; (try dsimp only at hSw); go_simp; try with_reducible rfl)
            try simp only [Act.put, List.setIfInBounds_toArray, List.set_cons_zero, List.set_cons_succ]
            refine wpAnyH_take (i := 7) (oi := ⟨some 120, _, _, _, _, _⟩) (v := ?_) rfl (by kernel_rfl) (by kernel_rfl) (by kernel_rfl) (fun _ _ _ h => h) (Or.inl ⟨by rfl, ?_⟩) (by assumption) ?_
            rotate_left
            · (intro w hSw; (try dsimp only at hSw); go_simp; try with_reducible rfl)
            try simp only [Act.put, List.setIfInBounds_toArray, List.set_cons_zero, List.set_cons_succ]
            refine wpAnyH_take (i := 8) (oi := ⟨some 121, _, _, _, _, _⟩) (v := ?_) rfl (by kernel_rfl) (by kernel_rfl) (by kernel_rfl) (fun _ _ _ h => h) (Or.inl ⟨by rfl, ?_⟩) (by assumption) ?_
            rotate_left
            · (intro w hSw; (try dsimp only at hSw); go_simp; try with_reducible rfl)
            try simp only [Act.put, List.setIfInBounds_toArray, List.set_cons_zero, List.set_cons_succ]
            refine wpAnyH_take (i := 9) (oi := ⟨some 122, _, _, _, _, _⟩) (v := ?_) rfl (by kernel_rfl) (by kernel_rfl) (by kernel_rfl) (fun _ _ _ h => h) (Or.inl ⟨by rfl, ?_⟩) (by assumption) ?_
            rotate_left
            · (intro w hSw; (try dsimp only at hSw); go_simp; try with_reducible rfl)
            try simp only [Act.put, List.setIfInBounds_toArray, List.set_cons_zero, List.set_cons_succ]
            refine wpAnyH_take (i := 10) (oi := ⟨some 123, _, _, _, _, _⟩) (v := ?_) rfl (by kernel_rfl) (by kernel_rfl) (by kernel_rfl) (fun _ _ _ h => h) (Or.inl ⟨by rfl, ?_⟩) (by assumption) ?_
            rotate_left
            · (intro w hSw; (try dsimp only at hSw); go_simp; try with_reducible rfl)
            try simp only [Act.put, List.setIfInBounds_toArray, List.set_cons_zero, List.set_cons_succ]
            refine wpAnyH_take (i := 11) (oi := ⟨some 124, _, _, _, _, _⟩) (v := ?_) rfl (by kernel_rfl) (by kernel_rfl) (by kernel_rfl) (fun _ _ _ h => h) (Or.inl ⟨by rfl, ?_⟩) (by assumption) ?_
            rotate_left
            · (intro w hSw; (try dsimp only at hSw); go_simp; try with_reducible rfl)
            try simp only [Act.put, List.setIfInBounds_toArray, List.set_cons_zero, List.set_cons_succ]
            refine wpAnyH_take (i := 12) (oi := ⟨some 125, _, _, _, _, _⟩) (v := ?_) rfl (by kernel_rfl) (by kernel_rfl) (by kernel_rfl) (fun _ _ _ h => h) (Or.inl ⟨by rfl, ?_⟩) (by assumption) ?_
            rotate_left
            · (intro w hSw; (try dsimp only at hSw); go_simp; try with_reducible rfl)
            try simp only [Act.put, List.setIfInBounds_toArray, List.set_cons_zero, List.set_cons_succ]
            refine wpAnyH_take (i := 13) (oi := ⟨some 126, _, _, _, _, _⟩) (v := ?_) rfl (by kernel_rfl) (by kernel_rfl) (by kernel_rfl) (fun _ _ _ h => h) (Or.inl ⟨by rfl, ?_⟩) (by assumption) ?_
            rotate_left
            · (intro w hSw; (try dsimp only at hSw); go_simp; try with_reducible rfl)
            try simp only [Act.put, List.setIfInBounds_toArray, List.set_cons_zero, List.set_cons_succ]
            refine wpAnyH_take (i := 14) (oi := ⟨some 127, _, _, _, _, _⟩) (v := ?_) rfl (by kernel_rfl) (by kernel_rfl) (by kernel_rfl) (fun _ _ _ h => h) (Or.inl ⟨by rfl, ?_⟩) (by assumption) ?_
            rotate_left
            · (intro w hSw; (try dsimp only at hSw); go_simp; try with_reducible rfl)
            try simp only [Act.put, List.setIfInBounds_toArray, List.set_cons_zero, List.set_cons_succ]
            refine wpAnyH_take (i := 15) (oi := ⟨some 128, _, _, _, _, _⟩) (v := ?_) rfl (by kernel_rfl) (by kernel_rfl) (by kernel_rfl) (fun _ _ _ h => h) (Or.inl ⟨by rfl, ?_⟩) (by assumption) ?_
            rotate_left
            · (intro w hSw; (try dsimp only at hSw); go_simp; try with_reducible rfl)
            try simp only [Act.put, List.setIfInBounds_toArray, List.set_cons_zero, List.set_cons_succ]
            refine wpAnyH_take (i := 16) (oi := ⟨some 129, _, _, _, _, _⟩) (v := ?_) rfl (by kernel_rfl) (by kernel_rfl) (by kernel_rfl) (fun _ _ _ h => h) (Or.inl ⟨by rfl, ?_⟩) (by assumption) ?_
            rotate_left
            · (intro w hSw; (try dsimp only at hSw); go_simp; try with_reducible rfl)
            try simp only [Act.put, List.setIfInBounds_toArray, List.set_cons_zero, List.set_cons_succ]
            refine wpAnyH_take (i := 17) (oi := ⟨some 130, _, _, _, _, _⟩) (v := ?_) rfl (by kernel_rfl) (by kernel_rfl) (by kernel_rfl) (fun _ _ _ h => h) (Or.inl ⟨by rfl, ?_⟩) (by assumption) ?_
            rotate_left
            · (intro w hSw; (try dsimp only at hSw); go_simp; try with_reducible rfl)
            try simp only [Act.put, List.setIfInBounds_toArray, List.set_cons_zero, List.set_cons_succ]
            refine wpAnyH_take (i := 18) (oi := ⟨some 131, _, _, _, _, _⟩) (v := ?_) rfl (by kernel_rfl) (by kernel_rfl) (by kernel_rfl) (fun _ _ _ h => h) (Or.inl ⟨by rfl, ?_⟩) (by assumption) ?_
            rotate_left
            · (intro w hSw; (try dsimp only at hSw); go_simp; try with_reducible rfl)
            try simp only [Act.put, List.setIfInBounds_toArray, List.set_cons_zero, List.set_cons_succ]
            refine wpAnyH_take (i := 19) (oi := ⟨some 132, _, _, _, _, _⟩) (v := ?_) rfl (by kernel_rfl) (by kernel_rfl) (by kernel_rfl) (fun _ _ _ h => h) (Or.inl ⟨by rfl, ?_⟩) (by assumption) ?_
            rotate_left
            · (intro w hSw; (try dsimp only at hSw); go_simp; try with_reducible rfl)
            try simp only [Act.put, List.setIfInBounds_toArray, List.set_cons_zero, List.set_cons_succ]
            refine wpAnyH_take (i := 20) (oi := ⟨some 133, _, _, _, _, _⟩) (v := ?_) rfl (by kernel_rfl) (by kernel_rfl) (by kernel_rfl) (fun _ _ _ h => h) (Or.inl ⟨by rfl, ?_⟩) (by assumption) ?_
            rotate_left
            · (intro w hSw; (try dsimp only at hSw); go_simp; try with_reducible rfl)
            try simp only [Act.put, List.setIfInBounds_toArray, List.set_cons_zero, List.set_cons_succ]
            refine wpAnyH_take (i := 23) (oi := ⟨some 136, _, _, _, _, _⟩) (v := ?_) rfl (by kernel_rfl) (by kernel_rfl) (by kernel_rfl) (fun _ _ _ h => h) (Or.inl ⟨by rfl, ?_⟩) (by assumption) ?_
            rotate_left
            · (intro w hSw; (try dsimp only at hSw); go_simp; try with_reducible rfl)
            try simp only [Act.put, List.setIfInBounds_toArray, List.set_cons_zero, List.set_cons_succ]
            refine wpAnyH_take (i := 24) (oi := ⟨some 137, _, _, _, _, _⟩) (v := ?_) rfl (by kernel_rfl) (by kernel_rfl) (by kernel_rfl) (fun _ _ _ h => h) (Or.inl ⟨by rfl, ?_⟩) (by assumption) ?_
            rotate_left
            · (intro w hSw; (try dsimp only at hSw); go_simp; try with_reducible rfl)
            try simp only [Act.put, List.setIfInBounds_toArray, List.set_cons_zero, List.set_cons_succ]
            refine wpAnyH_take (i := 26) (oi := ⟨some 139, _, _, _, _, _⟩) (v := ?_) rfl (by kernel_rfl) (by kernel_rfl) (by kernel_rfl) (fun _ _ _ h => h) (Or.inl ⟨by rfl, ?_⟩) (by assumption) ?_
            rotate_left
            · (intro w hSw; (try dsimp only at hSw); go_simp; try with_reducible rfl)
            try simp only [Act.put, List.setIfInBounds_toArray, List.set_cons_zero, List.set_cons_succ]
            refine wpAnyH_take (i := 27) (oi := ⟨some 140, _, _, _, _, _⟩) (v := ?_) rfl (by kernel_rfl) (by kernel_rfl) (by kernel_rfl) (fun _ _ _ h => h) (Or.inl ⟨by rfl, ?_⟩) (by assumption) ?_
            rotate_left
            · (intro w hSw; (try dsimp only at hSw); go_simp; try with_reducible rfl)
            try simp only [Act.put, List.setIfInBounds_toArray, List.set_cons_zero, List.set_cons_succ]
            refine wpAnyH_take (i := 29) (oi := ⟨some 142, _, _, _, _, _⟩) (v := ?_) rfl (by kernel_rfl) (by kernel_rfl) (by kernel_rfl) (fun _ _ _ h => h) (Or.inl ⟨by rfl, ?_⟩) (by assumption) ?_
            rotate_left
            · (intro w hSw; (try dsimp only at hSw); go_simp; try with_reducible rfl)
            try simp only [Act.put, List.setIfInBounds_toArray, List.set_cons_zero, List.set_cons_succ]
            refine next_one 21 (by kernel_rfl) rfl (by rfl) fun K' HK' => ?_
            go_simp
            refine (HF.out (sb10.ext (by (repeat (first | assumption | exact Ext.refl _ | apply Ext.drew | apply Ext.drewN | apply Ext.alloc | refine Ext.trans ?_ (by assumption))); first | done | fail))).mono ?_
            rintro e w11 ⟨A11, c11, rfl, hf11, _, hx11⟩
            have hx01 : Ext w10 w11 := (by (repeat (first | assumption | exact Ext.refl _ | apply Ext.drew | apply Ext.drewN | apply Ext.alloc | refine Ext.trans ?_ (by assumption))); first | done | fail)
            have hS2 := Ext.trans hHeld hx11
            refine held_go HK' hS2 (fun _ => ?_)
            clear HK'
            refine held_more (S' := fun w' => Ext w11 w') (fun _ h => Ext.trans hS2 h) _ _ _ _ ?_
            clear hHeld hS2
            have hHeld : Ext w11 w11 := Ext.refl _
            try simp only [Act.put, List.setIfInBounds_toArray, List.set_cons_zero, List.set_cons_succ]
            have t11 := fun (w' : World) (hx : Ext w11 w') => hf11.str hx
            rw [HSF.out] at t11
            refine wpAnyH_take (i := 22) (oi := ⟨some 135, _, _, _, _, _⟩) (v := ?_) rfl (by kernel_rfl) (by kernel_rfl) (by kernel_rfl) (fun _ _ _ h => h) (Or.inl ⟨by rfl, ?_⟩) (by assumption) ?_
            rotate_left
            · (intro w hSw; (try dsimp only at hSw); go_simp; try with_reducible rfl)
            try simp only [Act.put, List.setIfInBounds_toArray, List.set_cons_zero, List.set_cons_succ]
            refine wpAnyH_take (i := 25) (oi := ⟨some 138, _, _, _, _, _⟩) (v := ?_) rfl (by kernel_rfl) (by kernel_rfl) (by kernel_rfl) (fun _ _ _ h => h) (Or.inl ⟨by rfl, ?_⟩) (by assumption) ?_
            rotate_left
            · (intro w hSw; (try dsimp only at hSw); go_simp; try with_reducible rfl)
            try simp only [Act.put, List.setIfInBounds_toArray, List.set_cons_zero, List.set_cons_succ]
            refine wpAnyH_take (i := 28) (oi := ⟨some 141, _, _, _, _, _⟩) (v := ?_) rfl (by kernel_rfl) (by kernel_rfl) (by kernel_rfl) (fun _ _ _ h => h) (Or.inl ⟨by rfl, ?_⟩) (by assumption) ?_
            rotate_left
            · (intro w hSw; (try dsimp only at hSw); go_simp; try with_reducible rfl)
            try simp only [Act.put, List.setIfInBounds_toArray, List.set_cons_zero, List.set_cons_succ]
            refine wpAnyH_take (i := 30) (oi := ⟨some 143, _, _, _, _, _⟩) (v := ?_) rfl (by kernel_rfl) (by kernel_rfl) (by kernel_rfl) (fun _ _ _ h => h) (Or.inl ⟨by rfl, ?_⟩) (by assumption) ?_
            rotate_left
            · (intro w hSw; (try dsimp only at hSw); go_simp; try with_reducible rfl)
            try simp only [Act.put, List.setIfInBounds_toArray, List.set_cons_zero, List.set_cons_succ]
            refine wpAnyH_take (i := 31) (oi := ⟨some 144, _, _, _, _, _⟩) (v := ?_) rfl (by kernel_rfl) (by kernel_rfl) (by kernel_rfl) (fun _ _ _ h => h) (Or.inl ⟨by rfl, ?_⟩) (by assumption) ?_
            rotate_left
            · (intro w hSw; (try dsimp only at hSw); go_simp; try with_reducible rfl)
            try simp only [Act.put, List.setIfInBounds_toArray, List.set_cons_zero, List.set_cons_succ]
            refine wpAnyH_take (i := 32) (oi := ⟨some 6, _, _, _, _, _⟩) (v := ?_) rfl (by kernel_rfl) (by kernel_rfl) (by kernel_rfl) (fun _ _ _ h => h) (Or.inl ⟨by rfl, ?_⟩) (by assumption) ?_
            rotate_left
            · (intro w hSw; (try dsimp only at hSw); go_simp; try with_reducible rfl)
            try simp only [Act.put, List.setIfInBounds_toArray, List.set_cons_zero, List.set_cons_succ]
            refine wpAnyH_done (by kernel_rfl) ?_ _
            go_wp2
            go_ret
            exact ⟨rfl, (HE10.out.trans hx01).b⟩
end Go.Proofs.YtjjoghdlbnlicaaDoor
