/-
  The walk of Open.
-/
import Derived.Test.YtjjoghdlbnlicaaDoorCh
namespace Go.Proofs.YtjjoghdlbnlicaaDoor
open Go Go.RowKit Go.Shelf
attribute [local go_sem] Oper.semAt_some

set_option maxHeartbeats 1000000 in
theorem Open_arg {A B C : Option Addr} {n c m d p e : Nat} (w : World) (h : n ≠ 16 ∨ m ≠ 16 ∨ ¬ (0 < p ∧ p % 16 = 0)) :
    Calls Tryd.prog 13 #[.slice A n c, .slice B m d, .slice C p e] w fun e w' => e = .returned (.tuple #[.slice none 0 0, err 1]) ∧ Ext w w' := by
  by_cases h1 : n = 16
  · subst h1
    by_cases h2 : m = 16
    · subst h2
      have hd : decide (0 < p ∧ p % 16 = 0) = false := decide_eq_false (by omega)
      clear h
      go_enter Tryd.func13, Tryd.ntmps13
      go_wp2_with (first | (go_at_call 24; refine (whole_any _ p e _).mono ?_; rintro e1 w2 ⟨rfl, hw2⟩; rw [hd]; subst hw2) | fail)
      refine bodyPost_ret (v := .tuple #[.slice none 0 0, err 1]) ?_ rfl ⟨rfl, ?_⟩
      · simp [results, Tryd.f13, go_sem]
      · exact (by (repeat (first | assumption | exact Ext.refl _ | apply Ext.drew | apply Ext.drewN | apply Ext.alloc | refine Ext.trans ?_ (by assumption))); first | done | fail)
    · clear h
      go_enter Tryd.func13, Tryd.ntmps13
      go_wp2
      refine bodyPost_ret (v := .tuple #[.slice none 0 0, err 1]) ?_ rfl ⟨rfl, ?_⟩
      · simp [results, Tryd.f13, go_sem]
      · exact (by (repeat (first | assumption | exact Ext.refl _ | apply Ext.drew | apply Ext.drewN | apply Ext.alloc | refine Ext.trans ?_ (by assumption))); first | done | fail)
  · clear h
    go_enter Tryd.func13, Tryd.ntmps13
    go_wp2
    refine bodyPost_ret (v := .tuple #[.slice none 0 0, err 1]) ?_ rfl ⟨rfl, ?_⟩
    · simp [results, Tryd.f13, go_sem]
    · exact (by (repeat (first | assumption | exact Ext.refl _ | apply Ext.drew | apply Ext.drewN | apply Ext.alloc | refine Ext.trans ?_ (by assumption))); first | done | fail)
set_option maxHeartbeats 1000000 in
theorem Open_long {A B C : Option Addr} {c d p e : Nat} (w : World) (h : 65552 < p) (hp : p % 16 = 0) :
    Calls Tryd.prog 13 #[.slice A 16 c, .slice B 16 d, .slice C p e] w fun e w' => e = .returned (.tuple #[.slice none 0 0, err 4]) ∧ Ext w w' := by
  have b1 : (65552 : Int) < p := by omega
  have hd : decide (0 < p ∧ p % 16 = 0) = true := decide_eq_true (by omega)
  clear hp
  go_enter Tryd.func13, Tryd.ntmps13
  go_wp2_with (first | (go_at_call 24; refine (whole_any _ p e _).mono ?_; rintro e1 w2 ⟨rfl, hw2⟩; rw [hd]; subst hw2) | fail)
  refine bodyPost_ret (v := .tuple #[.slice none 0 0, err 4]) ?_ rfl ⟨rfl, ?_⟩
  · simp [results, Tryd.f13, go_sem]
  · exact (by (repeat (first | assumption | exact Ext.refl _ | apply Ext.drew | apply Ext.drewN | apply Ext.alloc | refine Ext.trans ?_ (by assumption))); first | done | fail)
/-- what holds between two rounds: the key's box, the results' boxes, the code ahead, what came out so far -/
structure OpenI (w : World) (B0 : Nat) (A : Option Addr) (c : Nat) (K : Nat → List (BitVec 8)) (g : List (BitVec 8)) (pre : List B16) (W : World) : Prop where
  key : Blk W w.heap.size 22 #[.slice A 16 c]
  r0 : Blk W (w.heap.size + 1) 22 #[.slice none 0 0]
  r1 : Blk W (w.heap.size + 1 + 1) 26 #[.nilIface]
  ah : Blk W (w.heap.size + 1 + 1 + 1) cb (bv (ost K g (vs pre)).2)
  cod : ∃ A c, Blk W (w.heap.size + 1 + 1 + 1 + 1) 22 #[.slice A (16 * pre.length) c] ∧ Own W B0 (.slice A (16 * pre.length) c) (16 * pre.length) (ost K g (vs pre)).1
  x : Ext w W
  sz : B0 ≤ W.heap.size
theorem OpenI.ext {w : World} {B0 : Nat} {A : Option Addr} {c : Nat} {K : Nat → List (BitVec 8)} {g : List (BitVec 8)} {pre : List B16} {W W' : World} (h : OpenI w B0 A c K g pre W) (hx : Ext W W') : OpenI w B0 A c K g pre W' := by
  obtain ⟨A', c', h1, h2⟩ := h.cod
  exact ⟨h.key.ext hx, h.r0.ext hx, h.r1.ext hx, h.ah.ext hx, ⟨A', c', h1.ext hx, h2.ext hx⟩, h.x.trans hx, Nat.le_trans h.sz hx.size⟩
theorem OpenI.own {w : World} {B0 : Nat} {A : Option Addr} {c : Nat} {K : Nat → List (BitVec 8)} {g : List (BitVec 8)} (hB : w.heap.size ≤ B0) : OwnFrom B0 (OpenI w B0 A c K g) := fun s W W' row h hg hr => by
  have ht : Turn W W' row := ⟨hg, fun r e => (hr r e).2⟩
  obtain ⟨A', c', h1, h2⟩ := h.cod
  exact ⟨h.key.turn ht, h.r0.turn ht, h.r1.turn ht, h.ah.turn ht, ⟨A', c', h1.turn ht, h2.turn ht⟩, h.x.turn hg hB (fun r e => (hr r e).1), Nat.le_trans h.sz hg.size⟩
theorem Blk.not_row {w : World} {g t : Nat} {cs : Array Value} (h : Blk w g t cs) (hte : t ≠ 5) {B : Nat} {v : Value} {n : Nat} {l : List (BitVec 8)} (ho : Own w B v n l) : some g ≠ v.ownBlock := by
  rcases ho.o.2 with ⟨rfl, _⟩ | ⟨g', cap, cur, rfl, _, h4, _⟩
  · simp [Value.ownBlock]
  · intro e
    obtain rfl : g = g' := by simpa [Value.ownBlock] using e
    have h5 := (show w.heap[g]? = _ from h.h).symm.trans h4
    simp at h5
    exact hte h5.2
/-- behind a region: it is left as it should be -/
def Norm : Exit → Prop → Prop
  | .normal, p => p
  | _, _ => False
set_option maxHeartbeats 4000000 in
theorem Open_any {k g t : List (BitVec 8)} {A B C : Option Addr} {c d n e : Nat} {w : World} (hk : Bs w A 16 c k) (hg : Bs w B 16 d g) (ht : Bs w C n e t) (hn : n ≤ 65552) (N : Nat) (hN : n = 16 * N) (h0 : 0 < N) (hw : Lay3 w) :
    Calls Tryd.prog 13 #[.slice A 16 c, .slice B 16 d, .slice C n e] w (EmptyE w (openN (ks k) t g N)) := by
  refine (callsIn_wide (n := 3)).1 (callsIn_of_wp_marks Tryd.func13 rfl trivial (wpIn_wide.2 ?_) rfl)
  simp only [Tryd.ntmps13, List.size_toArray, List.length_cons, List.length_nil, Nat.reduceAdd, Nat.reduceSub, Array.replicate_succ, Array.replicate_zero, List.push_toArray, List.append_toArray, List.nil_append, List.cons_append]
  obtain ⟨gg, og, rfl, rg⟩ := hg.rge (by decide)
  obtain ⟨gF, oF, rfl, rc⟩ := ht.rge (by omega)
  have hgl := hg.len
  have htl := ht.len
  have hgF0 : gF < w.heap.size := by
    have := rc.r 0 _ (List.getElem?_eq_getElem (by rw [List.length_map]; omega))
    exact block_lt_of_cell this
  have hcap := ht.cap
  have b1 : (n : Int) ≤ 65552 := by omega
  have hd : decide (0 < n ∧ n % 16 = 0) = true := decide_eq_true (by omega)
  have hap := fun w => run_arrayAt3 (P := Tryd.prog) w 42 16 5 Tryd.underlying42 (some ⟨gg, og, none⟩) 16 d (Nat.le_refl _)
  have HN := Kp.mk hN
  clear hN
  obtain ⟨W1, hW1⟩ : ∃ W1, W1 = ((w.alloc (.cells #[.slice A 16 c] 22)).alloc (.cells #[.slice none 0 0] 22)).alloc (.cells #[.nilIface] 26) := ⟨_, rfl⟩
  have hx1 : Ext w W1 := by rw [hW1]; exact (by (repeat (first | assumption | exact Ext.refl _ | apply Ext.drew | apply Ext.drewN | apply Ext.alloc | refine Ext.trans ?_ (by assumption))); first | done | fail)
  have hs1 : W1.heap.size = w.heap.size + 3 := by rw [hW1]; simp
  have hz : Blk (W1.alloc (.cells z16 cb)) (w.heap.size + 1 + 1 + 1) cb (bv (zb 16)) := ⟨Has.new _ _ _ _ (by rw [hs1])⟩
  have hx2 : Ext w ((W1.alloc (.cells z16 cb)).setRow (w.heap.size + 1 + 1 + 1) (bv g)) := Ext.setRow (hx1.alloc _) (by omega) _
  obtain ⟨W3, hW3⟩ : ∃ W3, W3 = ((W1.alloc (.cells z16 cb)).setRow (w.heap.size + 1 + 1 + 1) (bv g)).alloc (.cells #[.slice none 0 0] 22) := ⟨_, rfl⟩
  have hI3 : ∀ (B0 : Nat) (W' : World), Ext W3 W' → B0 ≤ W'.heap.size → OpenI w B0 A c (ks k) g [] W' := by
    have f1 : Blk W1 w.heap.size 22 #[.slice A 16 c] := by rw [hW1]; exact ⟨(by (repeat (first | (with_reducible apply Has.drew) | exact Has.new _ _ _ _ (by first | (simp; done) | fail) | (with_reducible apply Has.alloc))); first | done | fail)⟩
    have f2 : Blk W1 (w.heap.size + 1) 22 #[.slice none 0 0] := by rw [hW1]; exact ⟨(by (repeat (first | (with_reducible apply Has.drew) | exact Has.new _ _ _ _ (by first | (simp; done) | fail) | (with_reducible apply Has.alloc))); first | done | fail)⟩
    have f3 : Blk W1 (w.heap.size + 1 + 1) 26 #[.nilIface] := by rw [hW1]; exact ⟨(by (repeat (first | (with_reducible apply Has.drew) | exact Has.new _ _ _ _ (by first | (simp; done) | fail) | (with_reducible apply Has.alloc))); first | done | fail)⟩
    have hs3 : ((W1.alloc (.cells z16 cb)).setRow (w.heap.size + 1 + 1 + 1) (bv g)).heap.size = w.heap.size + 4 := by simp [hs1]
    have up : ∀ {r t cs}, Blk W1 r t cs → Blk W3 r t cs := fun {r t cs} h => by
      rw [hW3]
      exact (((h.ext ((Ext.refl W1).alloc _)).rowfar (g' := w.heap.size + 1 + 1 + 1) (by have := h.lt; omega) (bv g)).ext ((Ext.refl _).alloc _))
    intro B0 W' hx' hB0
    refine ⟨(up f1).ext hx', (up f2).ext hx', (up f3).ext hx', ?_, ⟨none, 0, ?_, Own.nil _ _⟩, Ext.trans ?_ hx', hB0⟩
    · refine Blk.ext ?_ hx'; rw [hW3]; exact (hz.row _).ext ((Ext.refl _).alloc _)
    · refine Blk.ext ?_ hx'; rw [hW3]; exact ⟨Has.new _ _ _ _ (by rw [hs3])⟩
    · rw [hW3]; exact hx2.alloc _
  have hsz3 : W3.heap.size = w.heap.size + 5 := by rw [hW3]; simp [hs1]
  have HI3 := Kp.mk hI3
  have HW3 := Kp.mk hW3
  have HW1 := Kp.mk hW1
  clear hI3 hW3
  rw [hW1] at hz hx1 hx2
  clear hW1 hs1
  go_wp2_with (first | (with_reducible refine at_load_to 34 33 ?_; refine wpList_load_rge rfl cb (.tmp 33) rfl gg og g (rg.ext hx1) rfl _ Tryd.underlying42 rfl (szC _ hgl) ?_) | (with_reducible refine at_store 8 34 ?_; refine wpList_store_blk rfl cb (.tmp 8) (.tmp 34) rfl (w.heap.size + 1 + 1 + 1) g (zb 16) cb hz (hgl.trans (zb_len 16).symm) rfl rfl (szC _ hgl) ?_) | (go_at_call 24; refine (whole_any _ n e _).mono ?_; rintro e1 w2 ⟨rfl, hw2⟩; rw [hd]; subst hw2) | (go_at_call 18; refine (blocks_any _ _ _ _).mono ?_; rintro e1 w3 ⟨rfl, hw3⟩) | fail)
  rw [← hw3]
  obtain ⟨W0, hW0⟩ : ∃ W0, W0 = w3 := ⟨_, rfl⟩
  rw [← hW0]
  have hW0' : W0 = W3.alloc (.cells #[.slice (some ⟨gF, oF, none⟩) n e] 22) := by rw [hW0, hw3, HW3.out, HW1.out]
  have hI0 : OpenI w W0.heap.size A c (ks k) g [] W0 := HI3.out _ _ (by rw [hW0']; exact (Ext.refl _).alloc _) (Nat.le_refl _)
  have hB0 : Blk W0 (w.heap.size + 1 + 1 + 1 + 1 + 1) 22 #[.slice (some ⟨gF, oF, none⟩) n e] := by rw [hW0']; exact ⟨Has.new _ _ _ _ (by rw [hsz3])⟩
  have hs0 : W0.heap.size = w.heap.size + 6 := by rw [hW0']; simp [hsz3]
  have hr0 : Rge W0 gF oF t := rc.ext hI0.x
  have hlt1 : w.heap.size + 5 < W0.heap.size := by omega
  have hF : gF < W0.heap.size := by omega
  have hBn : w.heap.size + 1 + 1 + 1 + 1 + 1 < W0.heap.size := by omega
  have HIt := Kp.mk (iter_stops (3 - 1) (by decide) (w.heap.size + 1 + 1 + 1 + 1 + 1) gF oF N e n t HN.out htl (by omega) hcap W0 hF hBn (hB0.h.cell 0) hr0)
  have HKL := Kp.mk hk
  have HWL := Kp.mk hw
  have HGL := Kp.mk hgl
  have HTL := Kp.mk ht
  have HS0 := Kp.mk hs0
  clear hx1 hz hx2 hw3 HW1 HW3 HI3 hr0 hB0 hk hw ht hap rg rc hg hgl hW0 hW0' hs0 htl hsz3 hd
  refine (wpIn_wide (n := 3)).1 ?_
  refine wpIn_rangeFunc_ownH (F := Fence.wide) (n := 3) rfl (by decide) (gf := 31) (lb := #[.pointer (some ⟨w.heap.size + 1 + 1 + 1 + 1 + 1, 0, none⟩)]) rfl trivial (enters_of Tryd.func31 (by kernel_rfl) rfl)
    HIt.out (fun h k => h.trans k) (kb_b hF hBn) (Below.refl _ _) (fun _ => rfl)
    (OpenI w W0.heap.size A c (ks k) g) (fun _ _ _ => False) (OpenI.own (by omega)) (fun _ _ _ _ _ hs _ _ => hs) hI0
    (fun x a' W => ∃ Bx, W0.heap.size ≤ Bx ∧ Blk W Bx cb (bv x.1) ∧ a' =
      { tmps :=
        #[Value.slice A 16 c, Value.slice (some { block := gg, off := og }) 16 d,
          Value.slice (some { block := gF, off := oF }) n e, Value.pointer (some { block := w.heap.size, off := 0 }),
          undef, undef, Value.pointer (some { block := w.heap.size + 1, off := 0 }),
          Value.pointer (some { block := w.heap.size + 1 + 1, off := 0 }),
          Value.pointer (some { block := w.heap.size + 1 + 1 + 1, off := 0 }),
          Value.pointer (some { block := w.heap.size + 1 + 1 + 1 + 1, off := 0 }), .pointer (some ⟨Bx, 0, none⟩), undef, undef, undef,
          Value.slice A 16 c, Value.int IntKind.i64 16, Value.bool false, Value.bool false,
          Value.slice (some { block := gg, off := og }) 16 d, Value.int IntKind.i64 16, Value.bool false,
          Value.bool false, Value.bool false, Value.slice (some { block := gF, off := oF }) n e, Value.bool true,
          Value.bool false, Value.bool false, undef, Value.slice (some { block := gF, off := oF }) n e,
          Value.int IntKind.i64 ↑n, Value.bool (decide (65552 < (n : Int))), undef,
          Value.slice (some { block := gg, off := og }) 16 d, Value.pointer (some { block := gg, off := og }),
          Value.agg (bv g), Value.slice (some { block := gF, off := oF }) n e,
          Value.func (Fn.func 31) #[] #[Value.pointer (some { block := w.heap.size + 1 + 1 + 1 + 1 + 1, off := 0 })],
          .agg (bv x.1), undef, undef, undef, undef, undef, undef, undef, undef, undef, undef, undef, undef, undef, undef, undef, undef, undef, undef, undef, undef, undef, undef],
        defers := [] })
    (fun x a' _ W W' row h hg hr => by
      obtain ⟨Bx, h1, h2, h3⟩ := h
      exact ⟨Bx, h1, h2.turn ⟨hg, fun r e => (hr r e).2⟩, h3⟩) ?assign ?body ?done ?stop
  case assign =>
    intro l pre x W K hI hK
    have hz : Blk (W.alloc (.cells z16 cb)) W.heap.size cb (bv (zb 16)) := ⟨(by (repeat (first | (with_reducible apply Has.drew) | exact Has.new _ _ _ _ (by first | (simp; done) | fail) | (with_reducible apply Has.alloc))); first | done | fail)⟩
    refine rgn_lit (fun ⟨_, _, h⟩ => h) rfl ?_
    go_wp2_with (first | (with_reducible refine at_store 10 37 ?_; refine wpList_store_blk rfl cb (.tmp 10) (.tmp 37) rfl W.heap.size x.1 (zb 16) cb hz (x.2.trans (zb_len 16).symm) rfl rfl (szC _ x.2) ?_) | fail)
    have hx : Ext W ((W.alloc (.cells z16 cb)).setRow W.heap.size (bv x.1)) := Ext.setRow (by (repeat (first | assumption | exact Ext.refl _ | apply Ext.drew | apply Ext.drewN | apply Ext.alloc | refine Ext.trans ?_ (by assumption))); first | done | fail) (Nat.le_refl _) _
    exact hK _ _ (hx.keeps _) (Kb.ext hx (by have := hI.sz; omega) (by have := hI.sz; omega)) (hI.ext hx) ⟨W.heap.size, hI.sz, hz.row _, rfl⟩
  case body =>
    rintro l pre x a' W hl ⟨r, hr⟩ hI ⟨Bx, hBx, bX, rfl⟩ hlt
    clear hr hl
    have hsz := hI.sz
    obtain ⟨Ac, cc, hcb, hco⟩ := hI.cod
    have hal : (ost (ks k) g (vs pre)).2.length = 16 := ost_last _ _ HGL.out _
    have hcl : (ost (ks k) g (vs pre)).1.length = 16 * pre.length := by rw [ost_len, vs_len]
    obtain ⟨ahd, hahd⟩ : ∃ ahd, ahd = (ost (ks k) g (vs pre)).2 := ⟨_, rfl⟩
    obtain ⟨cod, hcod⟩ : ∃ cod, cod = (ost (ks k) g (vs pre)).1 := ⟨_, rfl⟩
    have hah := hI.ah
    rw [← hahd] at hal hah
    rw [← hcod] at hcl hco
    have HI := Kp.mk hI
    have HA := Kp.mk hahd
    have HC := Kp.mk hcod
    have HX := Kp.mk x.2
    have HAL := Kp.mk hal
    have hxb := bX.bs 0 16 16 (by rw [HX.out]; omega) (Nat.le_refl _)
    rw [List.drop_zero, List.take_of_length_le (by rw [HX.out]; omega)] at hxb
    have HXB := Kp.mk hxb
    clear hI hahd hcod hal hcl hxb
    have kc : ∀ w', Ext W w' → w'.cell? ⟨w.heap.size, 0, none⟩ = some (.slice A 16 c) := fun w' h => ((HI.out.key.ext h).h.cell 0)
    have HK6 := Kp.mk (HKL.out.ext HI.out.x)
    have HW6 := Kp.mk (HWL.out.ext HI.out.x)
    refine wpIn_block (wpIn_seq ?_)
    refine rgn_held (S := fun w' => Ext W w') (by rintro ⟨_, _, h⟩; exact h) rfl (by kernel_rfl) (Ext.refl W).drew (fun hHeld => ?_)
    refine wpAnyH_take (i := 0) (oi := ⟨some 39, _, _, _, _, _⟩) (v := ?_) rfl (by kernel_rfl) (by kernel_rfl) (by kernel_rfl) (fun _ _ _ h => h) (Or.inl ⟨by rfl, ?_⟩) (by assumption) ?_
    rotate_left
    · (intro w hSw; (try dsimp only at hSw); go_simp; try with_reducible rfl)
    try simp only [Act.put, List.setIfInBounds_toArray, List.set_cons_zero, List.set_cons_succ]
    refine wpAnyH_take (i := 1) (oi := ⟨some 40, _, _, _, _, _⟩) (v := ?_) rfl (by kernel_rfl) (by kernel_rfl) (by kernel_rfl) (fun _ _ _ h => h) (Or.inl ⟨by rfl, ?_⟩) (by assumption) ?_
    rotate_left
    · (intro w hSw; (try dsimp only at hSw); go_simp; try with_reducible rfl)
    try simp only [Act.put, List.setIfInBounds_toArray, List.set_cons_zero, List.set_cons_succ]
    refine next_one 2 (by kernel_rfl) rfl (by rfl) fun K' HK' => ?_
    go_simp
    refine (Decrypt_any (HK6.out.ext (by (repeat (first | assumption | exact Ext.refl _ | apply Ext.drew | apply Ext.drewN | apply Ext.alloc | refine Ext.trans ?_ (by assumption))); first | done | fail)) (HXB.out.ext (by (repeat (first | assumption | exact Ext.refl _ | apply Ext.drew | apply Ext.drewN | apply Ext.alloc | refine Ext.trans ?_ (by assumption))); first | done | fail)) (HW6.out.ext (by (repeat (first | assumption | exact Ext.refl _ | apply Ext.drew | apply Ext.drewN | apply Ext.alloc | refine Ext.trans ?_ (by assumption))); first | done | fail))).mono ?_
    rintro e7 w7 ⟨A7, c7, rfl, hs7, ho7, hx7⟩
    have hx07 : Ext W w7 := (by (repeat (first | assumption | exact Ext.refl _ | apply Ext.drew | apply Ext.drewN | apply Ext.alloc | refine Ext.trans ?_ (by assumption))); first | done | fail)
    have hS2 := Ext.trans hHeld hx7
    refine held_go HK' hS2 (fun _ => ?_)
    clear HK'
    refine held_more (S' := fun w' => Ext w7 w') (fun _ h => Ext.trans hS2 h) _ _ _ _ ?_
    clear hHeld hS2
    have hHeld : Ext w7 w7 := Ext.refl _
    try simp only [Act.put, List.setIfInBounds_toArray, List.set_cons_zero, List.set_cons_succ]
    refine wpAnyH_take (i := 3) (oi := ⟨some 38, _, _, _, _, _⟩) (v := ?_) rfl (by kernel_rfl) (by kernel_rfl) (by kernel_rfl) (fun _ _ _ h => h) (Or.inl ⟨by rfl, ?_⟩) (by assumption) ?_
    rotate_left
    · (intro w hSw; (try dsimp only at hSw); go_simp; try with_reducible rfl)
    try simp only [Act.put, List.setIfInBounds_toArray, List.set_cons_zero, List.set_cons_succ]
    refine wpAnyH_take (i := 4) (oi := ⟨some 42, _, _, _, _, _⟩) (v := ?_) rfl (by kernel_rfl) (by kernel_rfl) (by kernel_rfl) (fun _ _ _ h => h) (Or.inl ⟨by rfl, ?_⟩) (by assumption) ?_
    rotate_left
    · (intro w hSw; (try dsimp only at hSw); go_simp; try with_reducible rfl)
    try simp only [Act.put, List.setIfInBounds_toArray, List.set_cons_zero, List.set_cons_succ]
    refine wpAnyH_take (i := 5) (oi := ⟨some 43, _, _, _, _, _⟩) (v := ?_) rfl (by kernel_rfl) (by kernel_rfl) (by kernel_rfl) (fun _ _ _ h => h) (Or.inl ⟨by rfl, ?_⟩) (by assumption) ?_
    rotate_left
    · (intro w hSw; (try dsimp only at hSw); go_simp; try with_reducible rfl)
    try simp only [Act.put, List.setIfInBounds_toArray, List.set_cons_zero, List.set_cons_succ]
    refine wpAnyH_take (i := 6) (oi := ⟨some 11, _, _, _, _, _⟩) (v := ?_) rfl (by kernel_rfl) (by kernel_rfl) (by kernel_rfl) (fun _ _ _ h => h) (Or.inl ⟨by rfl, ?_⟩) (by assumption) ?_
    rotate_left
    · (intro w hSw; (try dsimp only at hSw); go_simp; try with_reducible rfl)
    try simp only [Act.put, List.setIfInBounds_toArray, List.set_cons_zero, List.set_cons_succ]
    refine wpAnyH_take (i := 7) (oi := ⟨some 12, _, _, _, _, _⟩) (v := ?_) rfl (by kernel_rfl) (by kernel_rfl) (by kernel_rfl) (fun _ _ _ h => h) (Or.inl ⟨by rfl, ?_⟩) (by assumption) ?_
    rotate_left
    · (intro w hSw; (try dsimp only at hSw); go_simp; try with_reducible rfl)
    try simp only [Act.put, List.setIfInBounds_toArray, List.set_cons_zero, List.set_cons_succ]
    refine wpAnyH_done (by kernel_rfl) ?_ _
    obtain ⟨g7, rfl, hg71, hg72⟩ := ho7.some_ (by decide)
    obtain ⟨y, hy⟩ : ∃ y, y = decL (ks k) x.1 := ⟨_, rfl⟩
    have hyl : y.length = 16 := by rw [hy]; exact decL_len _ _
    rw [← hy] at hs7
    have hap := fun w => run_arrayAt3 (P := Tryd.prog) w 42 16 5 Tryd.underlying42 (some ⟨g7, 0, none⟩) 16 c7 (Nat.le_refl _)
    obtain ⟨g7', o7, e1, hr7⟩ := hs7.rge (by decide)
    cases e1
    have hra7 := (hah.ext hx07).rge
    have H07 := Kp.mk hx07
    have HY := Kp.mk hy
    have HYL := Kp.mk hyl
    have hxl := xorL_len y ahd
    have HXL := Kp.mk hxl
    clear hHeld ho7 hx7 kc hy hyl hx07 hs7 hxl hg71
    show Code.wpIn _ _ _ _ _ _ _
    refine wpIn_seq (wpIn_seq ?_)
    refine rgn_lit (by rintro ⟨_, _, h⟩; exact h) rfl ?_
    go_wp2_with fail
    refine wpIn_cond_false rfl (wpIn_skip ?_)
    show Code.wpIn _ _ _ _ _ _ _
    refine wpIn_seq ?_
    refine wpIn_mono (Q := fun ex ac W9 => Norm ex (∃ b, w7.heap.size ≤ b ∧ Ext w7 W9 ∧ Blk W9 b cb (bv (xorL y ahd)) ∧ ac = (⟨
        #[Value.slice A 16 c, Value.slice (some { block := gg, off := og }) 16 d,
          Value.slice (some { block := gF, off := oF }) n e, Value.pointer (some { block := w.heap.size, off := 0 }),
          undef, undef, Value.pointer (some { block := w.heap.size + 1, off := 0 }),
          Value.pointer (some { block := w.heap.size + 1 + 1, off := 0 }),
          Value.pointer (some { block := w.heap.size + 1 + 1 + 1, off := 0 }),
          Value.pointer (some { block := w.heap.size + 1 + 1 + 1 + 1, off := 0 }), .pointer (some ⟨Bx, 0, none⟩), .slice (some ⟨g7, 0, none⟩) 16 c7, .nilIface, .pointer (some ⟨b, 0, none⟩),
          Value.slice A 16 c, Value.int IntKind.i64 16, Value.bool false, Value.bool false,
          Value.slice (some { block := gg, off := og }) 16 d, Value.int IntKind.i64 16, Value.bool false,
          Value.bool false, Value.bool false, Value.slice (some { block := gF, off := oF }) n e, Value.bool true,
          Value.bool false, Value.bool false, undef, Value.slice (some { block := gF, off := oF }) n e,
          Value.int IntKind.i64 ↑n, Value.bool (decide (65552 < (n : Int))), undef,
          Value.slice (some { block := gg, off := og }) 16 d, Value.pointer (some { block := gg, off := og }),
          Value.agg (bv g), Value.slice (some { block := gF, off := oF }) n e,
          Value.func (Fn.func 31) #[] #[Value.pointer (some { block := w.heap.size + 1 + 1 + 1 + 1 + 1, off := 0 })],
          .agg (bv x.1), .tuple #[.slice (some ⟨g7, 0, none⟩) 16 c7, .nilIface], Value.slice A 16 c, .slice (some ⟨Bx, 0, none⟩) 16 16, .tuple #[.slice (some ⟨g7, 0, none⟩) 16 c7, .nilIface],
          .slice (some ⟨g7, 0, none⟩) 16 c7, .nilIface, .nilIface, .bool false, undef, .slice (some ⟨g7, 0, none⟩) 16 c7, .pointer (some ⟨g7, 0, none⟩), .agg (bv y), .agg (bv ahd), .agg (bv (xorL y ahd)),
          undef, undef, undef, undef, undef, undef, undef, undef], []⟩ : Act))) ?_ ?_
    · refine rgn_held (S := fun w' => Ext w7 w') (by rintro ⟨_, _, h⟩; exact h) rfl (by kernel_rfl) (Ext.refl w7).drew (fun hHeld => ?_)
      refine wpAnyH_take (i := 0) (oi := ⟨some 47, _, _, _, _, _⟩) (v := ?_) rfl (by kernel_rfl) (by kernel_rfl) (by kernel_rfl) (fun _ _ _ h => h) (Or.inl ⟨by rfl, ?_⟩) (by assumption) ?_
      rotate_left
      · (intro w hSw; (try dsimp only at hSw); go_simp; try with_reducible rfl)
      try simp only [Act.put, List.setIfInBounds_toArray, List.set_cons_zero, List.set_cons_succ]
      refine wpAnyH_take (i := 1) (oi := ⟨some 48, _, _, _, _, _⟩) (v := ?_) rfl (by kernel_rfl) (by kernel_rfl) (by kernel_rfl) (fun _ _ _ h => h) (Or.inl ⟨by rfl, ?_⟩) (by assumption) ?_
      rotate_left
      · (intro w hSw; (try dsimp only at hSw); go_simp; try with_reducible rfl)
      try simp only [Act.put, List.setIfInBounds_toArray, List.set_cons_zero, List.set_cons_succ]
      refine wpAnyH_take (i := 2) (oi := ⟨some 49, _, _, _, _, _⟩) (v := .agg (bv y)) rfl (by kernel_rfl) (by kernel_rfl) (by kernel_rfl) (fun _ _ _ h => h) (Or.inl ⟨by rfl, fun w' hSw => exec_load cb (.tmp 48) rfl ⟨g7, 0, none⟩ rfl _ (run_load_rge cb _ _ _ (Rge.ext hr7 hSw) _ Tryd.underlying42 rfl (szC _ HYL.out))⟩) (by assumption) ?_
      try simp only [Act.put, List.setIfInBounds_toArray, List.set_cons_zero, List.set_cons_succ]
      refine wpAnyH_take (i := 3) (oi := ⟨some 50, _, _, _, _, _⟩) (v := .agg (bv ahd)) rfl (by kernel_rfl) (by kernel_rfl) (by kernel_rfl) (fun _ _ _ h => h) (Or.inl ⟨by rfl, fun w' hSw => exec_load cb (.tmp 8) rfl ⟨w.heap.size + 1 + 1 + 1, 0, none⟩ rfl _ (run_load_rge cb _ _ _ (Rge.ext hra7 hSw) _ Tryd.underlying42 rfl (szC _ HAL.out))⟩) (by assumption) ?_
      try simp only [Act.put, List.setIfInBounds_toArray, List.set_cons_zero, List.set_cons_succ]
      refine next_two 4 5 (by kernel_rfl) rfl rfl (by rfl) (by rfl) (fun K' HK' => ?_) (fun K' HK' => ?_)
      · go_simp
        refine (bxor_any y ahd _ HYL.out HAL.out).mono ?_
        rintro e8 w8 ⟨rfl, hx8⟩
        have hx78 : Ext w7 w8 := (by (repeat (first | assumption | exact Ext.refl _ | apply Ext.drew | apply Ext.drewN | apply Ext.alloc | refine Ext.trans ?_ (by assumption))); first | done | fail)
        have hS2 := Ext.trans hHeld hx8
        refine held_go HK' hS2 (fun _ => ?_)
        clear HK'
        refine held_more (S' := fun w' => Ext w8 w') (fun _ h => Ext.trans hS2 h) _ _ _ _ ?_
        clear hHeld hS2
        have hHeld : Ext w8 w8 := Ext.refl _
        try simp only [Act.put, List.setIfInBounds_toArray, List.set_cons_zero, List.set_cons_succ]
        refine next_one 5 (by kernel_rfl) rfl (by rfl) fun K' HK' => ?_
        go_simp
        refine held_go HK' (by (repeat (first | assumption | exact Ext.refl _ | apply Ext.drew | apply Ext.drewN | apply Ext.alloc | refine Ext.trans ?_ (by assumption))); first | done | fail) (fun hHeld => ?_)
        clear HK'
        try simp only [Act.put, List.setIfInBounds_toArray, List.set_cons_zero, List.set_cons_succ]
        have hz : Blk (w8.alloc (.cells z16 cb)) w8.heap.size cb (bv (zb 16)) := ⟨(by (repeat (first | (with_reducible apply Has.drew) | exact Has.new _ _ _ _ (by first | (simp; done) | fail) | (with_reducible apply Has.alloc))); first | done | fail)⟩
        refine next_one 6 (by kernel_rfl) rfl (by rfl) fun K' HK' => ?_
        refine wp_store_blk (op := ⟨none, _, _, _, _, _⟩) cb (.tmp 13) (.tmp 51) rfl w8.heap.size (xorL y ahd) (zb 16) cb hz (HXL.out.trans (zb_len 16).symm) rfl rfl (szC _ HXL.out) ?_
        refine held_go HK' (Ext.setRow (by (repeat (first | assumption | exact Ext.refl _ | apply Ext.drew | apply Ext.drewN | apply Ext.alloc | refine Ext.trans ?_ (by assumption))); first | done | fail) (Nat.le_refl _) _) (fun _ => ?_)
        clear HK'
        refine wpAnyH_done (by kernel_rfl) ?_ _
        exact ⟨w8.heap.size, hx78.size, hx78.trans (Ext.setRow (by (repeat (first | assumption | exact Ext.refl _ | apply Ext.drew | apply Ext.drewN | apply Ext.alloc | refine Ext.trans ?_ (by assumption))); first | done | fail) (Nat.le_refl _) _), hz.row _, rfl⟩
      · go_simp
        refine held_go HK' (by (repeat (first | assumption | exact Ext.refl _ | apply Ext.drew | apply Ext.drewN | apply Ext.alloc | refine Ext.trans ?_ (by assumption))); first | done | fail) (fun hHeld => ?_)
        clear HK'
        try simp only [Act.put, List.setIfInBounds_toArray, List.set_cons_zero, List.set_cons_succ]
        refine next_one 4 (by kernel_rfl) rfl (by rfl) fun K' HK' => ?_
        go_simp
        refine (bxor_any y ahd _ HYL.out HAL.out).mono ?_
        rintro e8 w8 ⟨rfl, hx8⟩
        have hz0 : Blk (w7.drew.alloc (.cells z16 cb)) w7.drew.heap.size cb (bv (zb 16)) := ⟨(by (repeat (first | (with_reducible apply Has.drew) | exact Has.new _ _ _ _ (by first | (simp; done) | fail) | (with_reducible apply Has.alloc))); first | done | fail)⟩
        have hz := hz0.ext hx8
        have hx78 : Ext w7 w8 := hHeld.trans hx8
        refine held_go HK' hx78 (fun _ => ?_)
        clear HK'
        try simp only [Act.put, List.setIfInBounds_toArray, List.set_cons_zero, List.set_cons_succ]
        refine next_one 6 (by kernel_rfl) rfl (by rfl) fun K' HK' => ?_
        refine wp_store_blk (op := ⟨none, _, _, _, _, _⟩) cb (.tmp 13) (.tmp 51) rfl w7.drew.heap.size (xorL y ahd) (zb 16) cb hz (HXL.out.trans (zb_len 16).symm) rfl rfl (szC _ HXL.out) ?_
        refine held_go HK' (hx78.setRow (Nat.le_refl w7.heap.size) _) (fun _ => ?_)
        clear HK'
        refine wpAnyH_done (by kernel_rfl) ?_ _
        exact ⟨w7.drew.heap.size, Nat.le_refl _, hx78.setRow (Nat.le_refl w7.heap.size) _, hz.row _, rfl⟩
    rintro (_ | _ | _ | _ | _ | _) a1 W9 h9
    case normal => 
      obtain ⟨b, hb7, hx79, hb9, rfl⟩ := h9
      have hx09 : Ext W W9 := H07.out.trans hx79
      obtain ⟨L, hL⟩ : ∃ L, L = xorL y ahd := ⟨_, rfl⟩
      rw [← hL] at hb9 ⊢
      have hLl : L.length = 16 := by rw [hL]; exact HXL.out
      have hbs9 := hb9.bs 0 16 16 (by omega) (Nat.le_refl _)
      rw [List.drop_zero, List.take_of_length_le (by omega)] at hbs9
      have hco9 := hco.ext hx09
      have hcb9 := hcb.ext hx09
      obtain ⟨m8, hm8⟩ : ∃ m8, m8 = 16 * (pre ++ [x]).length := ⟨_, rfl⟩
      have hlen : 16 * pre.length + 16 = m8 := by rw [hm8, List.length_append]; simp; omega
      have hb30 : 16 * pre.length + 16 ≤ 140737488355328 := by have := HN.out; omega
      have q1 := hcb9.h.cell 0
      have hxw : Ext w W9 := HI.out.x.trans hx09
      have hsz9 : W0.heap.size ≤ W9.drew.heap.size := Nat.le_trans hsz (hx09.drew).size
      have HM8 := Kp.mk hm8
      have H09 := Kp.mk hx09
      have HLN := Kp.mk hlen
      have HXW := Kp.mk hxw
      have HCO := Kp.mk hco9
      have HCB := Kp.mk hcb9
      have HB9 := Kp.mk hbs9
      have HLL := Kp.mk hL
      clear hx09 hm8 hlen hxw hco9 hcb9 hbs9 hL hx79 hb9 hr7 hra7 hap
      show Code.wpIn _ _ _ _ _ _ _
      refine wpIn_seq ?_
      refine rgn_held (S := fun w' => Ext w w') (by rintro ⟨_, _, h⟩; exact h) rfl (by kernel_rfl) HXW.out.drew (fun hHeld => ?_)
      refine wpAnyH_take (i := 1) (oi := ⟨some 53, _, _, _, _, _⟩) (v := ?_) rfl (by kernel_rfl) (by kernel_rfl) (by kernel_rfl) (fun _ _ _ h => h) (Or.inl ⟨by rfl, ?_⟩) (by assumption) ?_
      rotate_left
      · (intro w hSw; (try dsimp only at hSw); go_simp; try with_reducible rfl)
      try simp only [Act.put, List.setIfInBounds_toArray, List.set_cons_zero, List.set_cons_succ]
      refine next_one 0 (by kernel_rfl) rfl (by rfl) fun K' HK' => ?_
      go_simp
      refine held_go HK' (by (repeat (first | assumption | exact Ext.refl _ | apply Ext.drew | apply Ext.drewN | apply Ext.alloc | refine Ext.trans ?_ (by assumption))); first | done | fail) (fun hHeld => ?_)
      clear HK'
      try simp only [Act.put, List.setIfInBounds_toArray, List.set_cons_zero, List.set_cons_succ]
      refine next_one 2 (by kernel_rfl) rfl (by rfl) fun K' HK' => ?_
      refine wp_append_bs (o := ⟨some 54, _, _, _, _, _⟩) (.tmp 52) (.tmp 53) rfl W0.heap.size (.slice Ac (16 * pre.length) cc) (16 * pre.length) cod rfl (HCO.out.ext (by (repeat (first | assumption | exact Ext.refl _ | apply Ext.drew | apply Ext.drewN | apply Ext.alloc | refine Ext.trans ?_ (by assumption))); first | done | fail)) (some ⟨b, 0, none⟩) 16 16 L rfl (HB9.out.ext (by (repeat (first | assumption | exact Ext.refl _ | apply Ext.drew | apply Ext.drewN | apply Ext.alloc | refine Ext.trans ?_ (by assumption))); first | done | fail)) hb30 m8 HLN.out (cod ++ L) rfl w HXW.out.drew (by omega) hsz9 ?_
      intro A8 c8 w8 ho8 hx8 hap8
      have hcb8 := (HCB.out.ext (show Ext W9 W9.drew from (by (repeat (first | assumption | exact Ext.refl _ | apply Ext.drew | apply Ext.drewN | apply Ext.alloc | refine Ext.trans ?_ (by assumption))); first | done | fail))).grown hap8.grown (HCO.out.off (by omega))
      have q2 := hcb8.h.cell 0
      have q3 := hcb8.h.frozen 0
      clear hHeld
      refine held_go HK' hx8 (fun hHeld => ?_)
      clear HK'
      try simp only [Act.put, List.setIfInBounds_toArray, List.set_cons_zero, List.set_cons_succ]
      refine next_one 3 (by kernel_rfl) rfl (by rfl) fun K' HK' => ?_
      go_simp
      refine held_go HK' (hx8.setCell (p := ⟨w.heap.size + 1 + 1 + 1 + 1, 0, none⟩) (show w.heap.size ≤ w.heap.size + 1 + 1 + 1 + 1 by omega) _) (fun _ => ?_)
      clear HK'
      refine wpAnyH_done (by kernel_rfl) ?_ _
      have hgr : W9.drew.grownBy w8 (Value.slice Ac (16 * pre.length) cc).ownBlock := hap8.grown
      have H09' : Ext W W9.drew := H09.out.drew
      have hco9 := HCO.out.ext (show Ext W9 W9.drew from (by (repeat (first | assumption | exact Ext.refl _ | apply Ext.drew | apply Ext.drewN | apply Ext.alloc | refine Ext.trans ?_ (by assumption))); first | done | fail))
      have hoff : ∀ {r}, r < W0.heap.size → some r ≠ (Value.slice Ac (16 * pre.length) cc).ownBlock := fun h => HCO.out.off h
      have hxr := bX.not_row (by decide) hco
      have hs78 := hgr.size
      have hsW : W.heap.size ≤ W9.drew.heap.size := H09'.size
      have hs4 : w.heap.size + 1 + 1 + 1 + 1 < W0.heap.size := by omega
      have hBx4 : Bx ≠ w.heap.size + 1 + 1 + 1 + 1 := by omega
      have step : ∀ {r t cs}, some r ≠ (Value.slice Ac (16 * pre.length) cc).ownBlock → r ≠ w.heap.size + 1 + 1 + 1 + 1 → Blk W r t cs → Blk (w8.setCell ⟨w.heap.size + 1 + 1 + 1 + 1, 0, none⟩ (.slice A8 m8 c8)) r t cs := fun {r t cs} h1 h2 h =>
        ((h.ext H09').grown hgr h1).far (p := ⟨w.heap.size + 1 + 1 + 1 + 1, 0, none⟩) h2 _
      have hr9 := (step hxr hBx4 bX).rge
      have hah9 := step (hoff (by omega)) (by omega) hah
      have hk9 := step (hoff (by omega)) (by omega) HI.out.key
      have h09 := step (hoff (by omega)) (by omega) HI.out.r0
      have h19 := step (hoff (by omega)) (by omega) HI.out.r1
      have hnew : Blk (w8.setCell ⟨w.heap.size + 1 + 1 + 1 + 1, 0, none⟩ (.slice A8 m8 c8)) (w.heap.size + 1 + 1 + 1 + 1) 22 #[.slice A8 m8 c8] := ⟨hcb8.h.set 0 _⟩
      have ho9 := ho8.cellfar (p := ⟨w.heap.size + 1 + 1 + 1 + 1, 0, none⟩) hs4 (.slice A8 m8 c8)
      have hx9 := hx8.setCell (p := ⟨w.heap.size + 1 + 1 + 1 + 1, 0, none⟩) (show w.heap.size ≤ w.heap.size + 1 + 1 + 1 + 1 by omega) (.slice A8 m8 c8)
      have hkf9 := ((H09'.keeps W0.heap.size).trans (keeps_cells _ hgr (fun r e => hco9.cells r e))).trans ((KeepsOthers.setCell w8 ⟨w.heap.size + 1 + 1 + 1 + 1, 0, none⟩ (.slice A8 m8 c8)).from _)
      have hkb9 : Kb gF (w.heap.size + 1 + 1 + 1 + 1 + 1) W (w8.setCell ⟨w.heap.size + 1 + 1 + 1 + 1, 0, none⟩ (.slice A8 m8 c8)) :=
        ((Kb.ext H09' (by omega) (by omega)).trans (Kb.grown hgr (by omega) (by omega) (hoff hF) (hoff hBn))).trans (Kb.cell (p := ⟨w.heap.size + 1 + 1 + 1 + 1, 0, none⟩) (show w.heap.size + 1 + 1 + 1 + 1 ≠ gF by omega) (show w.heap.size + 1 + 1 + 1 + 1 ≠ w.heap.size + 1 + 1 + 1 + 1 + 1 by omega) _)
      have hs9 : W.heap.size ≤ (w8.setCell ⟨w.heap.size + 1 + 1 + 1 + 1, 0, none⟩ (.slice A8 m8 c8)).heap.size := by simp; omega
      clear q1 q2 q3 hap8 hcb8 hgr step hcb hah ho8 hx8 hHeld
      generalize w8.setCell ⟨w.heap.size + 1 + 1 + 1 + 1, 0, none⟩ (.slice A8 m8 c8) = W10 at *
      have HR9 := Kp.mk hr9
      have HAH9 := Kp.mk hah9
      have HREST := Kp.mk (And.intro hk9 (And.intro h09 (And.intro h19 (And.intro hnew (And.intro ho9 (And.intro hx9 (And.intro hkf9 (And.intro hkb9 hs9))))))))
      clear hr9 hah9 hk9 h09 h19 hnew ho9 hx9 hkf9 hkb9 hs9
      show Code.wpIn _ _ _ _ _ _ _
      refine rgn_lit (by rintro ⟨_, _, h⟩; exact h) rfl ?_
      go_wp2_with (first | (with_reducible refine at_load_to 55 10 ?_; refine wpList_load_rge rfl cb (.tmp 10) rfl Bx 0 x.1 HR9.out rfl _ Tryd.underlying42 rfl (szC _ HX.out) ?_) | (with_reducible refine at_store 8 55 ?_; refine wpList_store_blk rfl cb (.tmp 8) (.tmp 55) rfl (w.heap.size + 1 + 1 + 1) x.1 ahd cb HAH9.out (HX.out.trans HAL.out.symm) rfl rfl (szC _ HX.out) ?_) | fail)
      obtain ⟨hk9, h09, h19, hnew, ho9, hx9, hkf9, hkb9, hs9⟩ := HREST.out
      refine ⟨hkf9.trans (keeps_cells _ (grown_row _ _ _) (fun r e => by cases e; exact ⟨_, _, _, HAH9.out.h⟩)), hkb9.trans (Kb.row (by omega) (by omega) _),
        hk9.rowfar (by omega) _, h09.rowfar (by omega) _, h19.rowfar (by omega) _, ?_, ⟨A8, c8, ?_, ?_⟩, hx9.setRow (by omega) _, ?_⟩
      · rw [vs_snoc, ost_snoc]
        exact HAH9.out.row _
      · rw [← HM8.out]
        exact hnew.rowfar (by omega) _
      · rw [← HM8.out, vs_snoc, ost_snoc, ← HA.out, ← HC.out, ← HY.out, ← HLL.out]
        exact ho9.rowfar (by omega) _
      · rw [show (W10.setRow (w.heap.size + 1 + 1 + 1) (bv x.1)).heap.size = W10.heap.size by simp]
        omega
    all_goals exact h9.elim
  case done =>
    rintro D ys W hD hys hI hK
    obtain ⟨Ac, cc, hcb, hco⟩ := hI.cod
    have e2 : ys.length = N := by rw [← vs_len, hys, bls_len]
    have e1 : (ost (ks k) g (vs ys)).1 = openN (ks k) t g N := by rw [hys, ost_all]
    rw [e1] at hco
    rw [e2] at hco hcb
    obtain ⟨b, hb⟩ : ∃ b, b = openN (ks k) t g N := ⟨_, rfl⟩
    rw [← hb] at hco ⊢
    obtain ⟨m, hm⟩ : ∃ m, m = 16 * N := ⟨_, rfl⟩
    rw [← hm] at hco hcb
    have q1 := hcb.h.cell 0
    have HI := Kp.mk hI
    have HCO := Kp.mk hco
    have HKD := Kp.mk hK
    have HM := Kp.mk hm
    have hmb : m ≤ 140737488350000 := by have := HN.out; omega
    have HBB := Kp.mk hb
    clear hI hco hcb hK hb hm e1 e2
    go_wp2_with fail
    refine (Empty_any HCO.out.bs hmb).mono ?_
    rintro e5 W5 (⟨t', ht', A5, c5, rfl, hs5, ho5, hx5⟩ | ⟨hno, rfl, hx5⟩)
    · have q2 := (HI.out.ext hx5).r0.h.cell 0
      have q3 := (HI.out.ext hx5).r0.h.frozen 0
      have q4 := ((HI.out.ext hx5).r1.far (p := ⟨w.heap.size + 1, 0, none⟩) (show w.heap.size + 1 + 1 ≠ w.heap.size + 1 by omega) (.slice A5 t'.length c5)).h.cell 0
      have q5 := ((HI.out.ext hx5).r1.far (p := ⟨w.heap.size + 1, 0, none⟩) (show w.heap.size + 1 + 1 ≠ w.heap.size + 1 by omega) (.slice A5 t'.length c5)).h.frozen 0
      have H5 := Kp.mk hx5
      have HO5 := Kp.mk ho5
      clear ho5 hs5
      clear hx5
      go_wp2_with fail
      have hx5 := H5.out
      have hI5 := HI.out.ext hx5
      have hsz := HI.out.sz
      have hD0 : D < W.heap.size := (Array.getElem?_eq_some_iff.1 HKD.out).1
      have hD1 : w.heap.size + 1 + 1 < D := by omega
      have hk0 : W5.heap[D]? = some (.deferred (some [])) := (hx5.b.block D hD0).trans HKD.out
      have hb0 : Blk (W5.setCell ⟨w.heap.size + 1, 0, none⟩ (.slice A5 t'.length c5)) (w.heap.size + 1) 22 #[(.slice A5 t'.length c5)] := ⟨hI5.r0.h.set 0 _⟩
      have hb1 := hI5.r1.far (p := ⟨w.heap.size + 1, 0, none⟩) (show w.heap.size + 1 + 1 ≠ w.heap.size + 1 by omega) (.slice A5 t'.length c5)
      have hx1 := hI5.x.setCell (p := ⟨w.heap.size + 1, 0, none⟩) (show w.heap.size ≤ w.heap.size + 1 by omega) (.slice A5 t'.length c5)
      have hk1 : (W5.setCell ⟨w.heap.size + 1, 0, none⟩ (.slice A5 t'.length c5)).heap[D]? = some (.deferred (some [])) := (Below.heap_setCell _ _ _ D (show D ≠ w.heap.size + 1 by omega)).trans hk0
      have hb2 := hb0.far (p := ⟨w.heap.size + 1 + 1, 0, none⟩) (show w.heap.size + 1 ≠ w.heap.size + 1 + 1 by omega) .nilIface
      have hb3 : Blk ((W5.setCell ⟨w.heap.size + 1, 0, none⟩ (.slice A5 t'.length c5)).setCell ⟨w.heap.size + 1 + 1, 0, none⟩ .nilIface) (w.heap.size + 1 + 1) 26 #[.nilIface] := ⟨hb1.h.set 0 _⟩
      have hx2 := hx1.setCell (p := ⟨w.heap.size + 1 + 1, 0, none⟩) (show w.heap.size ≤ w.heap.size + 1 + 1 by omega) .nilIface
      have hk2 := (Below.heap_setCell (W5.setCell ⟨w.heap.size + 1, 0, none⟩ (.slice A5 t'.length c5)) ⟨w.heap.size + 1 + 1, 0, none⟩ .nilIface D (show D ≠ w.heap.size + 1 + 1 by omega)).trans hk1
      have ho2 := (HO5.out.cellfar (p := ⟨w.heap.size + 1, 0, none⟩) (show w.heap.size + 1 < W.heap.size by omega) (.slice A5 t'.length c5)).cellfar (p := ⟨w.heap.size + 1 + 1, 0, none⟩) (show w.heap.size + 1 + 1 < W.heap.size by omega) .nilIface
      clear hb0 hb1 hx1 hk1 q2 q3 q4 q5 hk0 hI5
      generalize (W5.setCell ⟨w.heap.size + 1, 0, none⟩ (.slice A5 t'.length c5)).setCell ⟨w.heap.size + 1 + 1, 0, none⟩ .nilIface = W4 at *
      have ht : Turn W4 (W4.putObj D (.deferred none)) (some D) := ⟨grownBy_putObj' W4 D _, fun r e => by cases e; exact ⟨_, hk2, rfl⟩⟩
      have c1 := (hb2.turn ht).h.cell 0
      have c2 := (hb3.turn ht).h.cell 0
      refine ⟨by simp, .inl ⟨_, _, rfl, run_takeDeferred hk2, ?_⟩⟩
      refine ⟨.tuple #[(.slice A5 t'.length c5), .nilIface], ?_, .inl ⟨t', by rw [← HBB.out]; exact ht', A5, c5, rfl, (ho2.turn ht).bs, (ho2.turn ht).lower (by omega), hx2.turn ht.1 (B := W0.heap.size) (by omega) (fun r e => by cases e; exact hD)⟩⟩
      simp [results, Tryd.f13, go_sem, c1, c2]
    · have q2 := (HI.out.ext hx5).r0.h.cell 0
      have q3 := (HI.out.ext hx5).r0.h.frozen 0
      have q4 := ((HI.out.ext hx5).r1.far (p := ⟨w.heap.size + 1, 0, none⟩) (show w.heap.size + 1 + 1 ≠ w.heap.size + 1 by omega) (.slice none 0 0)).h.cell 0
      have q5 := ((HI.out.ext hx5).r1.far (p := ⟨w.heap.size + 1, 0, none⟩) (show w.heap.size + 1 + 1 ≠ w.heap.size + 1 by omega) (.slice none 0 0)).h.frozen 0
      have H5 := Kp.mk hx5
      clear hx5
      go_wp2_with fail
      have hx5 := H5.out
      have hI5 := HI.out.ext hx5
      have hsz := HI.out.sz
      have hD0 : D < W.heap.size := (Array.getElem?_eq_some_iff.1 HKD.out).1
      have hD1 : w.heap.size + 1 + 1 < D := by omega
      have hk0 : W5.heap[D]? = some (.deferred (some [])) := (hx5.b.block D hD0).trans HKD.out
      have hb0 : Blk (W5.setCell ⟨w.heap.size + 1, 0, none⟩ (.slice none 0 0)) (w.heap.size + 1) 22 #[(.slice none 0 0)] := ⟨hI5.r0.h.set 0 _⟩
      have hb1 := hI5.r1.far (p := ⟨w.heap.size + 1, 0, none⟩) (show w.heap.size + 1 + 1 ≠ w.heap.size + 1 by omega) (.slice none 0 0)
      have hx1 := hI5.x.setCell (p := ⟨w.heap.size + 1, 0, none⟩) (show w.heap.size ≤ w.heap.size + 1 by omega) (.slice none 0 0)
      have hk1 : (W5.setCell ⟨w.heap.size + 1, 0, none⟩ (.slice none 0 0)).heap[D]? = some (.deferred (some [])) := (Below.heap_setCell _ _ _ D (show D ≠ w.heap.size + 1 by omega)).trans hk0
      have hb2 := hb0.far (p := ⟨w.heap.size + 1 + 1, 0, none⟩) (show w.heap.size + 1 ≠ w.heap.size + 1 + 1 by omega) (err 7)
      have hb3 : Blk ((W5.setCell ⟨w.heap.size + 1, 0, none⟩ (.slice none 0 0)).setCell ⟨w.heap.size + 1 + 1, 0, none⟩ (err 7)) (w.heap.size + 1 + 1) 26 #[(err 7)] := ⟨hb1.h.set 0 _⟩
      have hx2 := hx1.setCell (p := ⟨w.heap.size + 1 + 1, 0, none⟩) (show w.heap.size ≤ w.heap.size + 1 + 1 by omega) (err 7)
      have hk2 := (Below.heap_setCell (W5.setCell ⟨w.heap.size + 1, 0, none⟩ (.slice none 0 0)) ⟨w.heap.size + 1 + 1, 0, none⟩ (err 7) D (show D ≠ w.heap.size + 1 + 1 by omega)).trans hk1
      clear hb0 hb1 hx1 hk1 q2 q3 q4 q5 hk0 hI5
      generalize (W5.setCell ⟨w.heap.size + 1, 0, none⟩ (.slice none 0 0)).setCell ⟨w.heap.size + 1 + 1, 0, none⟩ (err 7) = W4 at *
      have ht : Turn W4 (W4.putObj D (.deferred none)) (some D) := ⟨grownBy_putObj' W4 D _, fun r e => by cases e; exact ⟨_, hk2, rfl⟩⟩
      have c1 := (hb2.turn ht).h.cell 0
      have c2 := (hb3.turn ht).h.cell 0
      refine ⟨by simp, .inl ⟨_, _, rfl, run_takeDeferred hk2, ?_⟩⟩
      refine ⟨.tuple #[(.slice none 0 0), (err 7)], ?_, .inr ⟨by rw [← HBB.out]; exact hno, rfl, hx2.turn ht.1 (B := W0.heap.size) (by omega) (fun r e => by cases e; exact hD)⟩⟩
      simp [results, Tryd.f13, go_sem, c1, c2]
  case stop =>
    rintro D c pre W _ _ h _
    exact h.elim
end Go.Proofs.YtjjoghdlbnlicaaDoor
