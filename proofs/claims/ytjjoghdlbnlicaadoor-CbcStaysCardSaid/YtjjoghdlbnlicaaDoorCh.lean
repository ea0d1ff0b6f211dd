/-
  The walk of Seal.
-/
import Derived.Test.YtjjoghdlbnlicaaDoorCg
import Derived.Shelf.Abstract
namespace Go.Proofs.YtjjoghdlbnlicaaDoor
open Go Go.RowKit Go.Shelf
attribute [local go_sem] Oper.semAt_some

set_option maxHeartbeats 1000000 in
theorem Seal_arg {A B C : Option Addr} {n c m d p e : Nat} (w : World) (h : n ≠ 16 ∨ m ≠ 16) :
    Calls Tryd.prog 10 #[.slice A n c, .slice B m d, .slice C p e] w fun e w' => e = .returned (.tuple #[.slice none 0 0, err 1]) ∧ Ext w w' := by
  by_cases h1 : n = 16
  · have h2 : m ≠ 16 := by omega
    subst h1
    go_enter Tryd.func10, Tryd.ntmps10
    go_wp2
    refine bodyPost_ret (v := .tuple #[.slice none 0 0, err 1]) ?_ rfl ⟨rfl, ?_⟩
    · simp [results, Tryd.f10, go_sem]
    · exact (by (repeat (first | assumption | exact Ext.refl _ | apply Ext.drew | apply Ext.drewN | apply Ext.alloc | refine Ext.trans ?_ (by assumption))); first | done | fail)
  · clear h
    go_enter Tryd.func10, Tryd.ntmps10
    go_wp2
    refine bodyPost_ret (v := .tuple #[.slice none 0 0, err 1]) ?_ rfl ⟨rfl, ?_⟩
    · simp [results, Tryd.f10, go_sem]
    · exact (by (repeat (first | assumption | exact Ext.refl _ | apply Ext.drew | apply Ext.drewN | apply Ext.alloc | refine Ext.trans ?_ (by assumption))); first | done | fail)
set_option maxHeartbeats 1000000 in
theorem Seal_long {A B C : Option Addr} {c d p e : Nat} (w : World) (h : 65536 < p) :
    Calls Tryd.prog 10 #[.slice A 16 c, .slice B 16 d, .slice C p e] w fun e w' => e = .returned (.tuple #[.slice none 0 0, err 4]) ∧ Ext w w' := by
  have b1 : (65536 : Int) < p := by omega
  go_enter Tryd.func10, Tryd.ntmps10
  go_wp2
  refine bodyPost_ret (v := .tuple #[.slice none 0 0, err 4]) ?_ rfl ⟨rfl, ?_⟩
  · simp [results, Tryd.f10, go_sem]
  · exact (by (repeat (first | assumption | exact Ext.refl _ | apply Ext.drew | apply Ext.drewN | apply Ext.alloc | refine Ext.trans ?_ (by assumption))); first | done | fail)
/-- what holds between two rounds: the key's box, the results' boxes, the code ahead, the codes so far -/
structure SealI (w : World) (B0 : Nat) (A : Option Addr) (c : Nat) (K : Nat → List (BitVec 8)) (g : List (BitVec 8)) (pre : List B16) (W : World) : Prop where
  key : Blk W w.heap.size 22 #[.slice A 16 c]
  r0 : Blk W (w.heap.size + 1) 22 #[.slice none 0 0]
  r1 : Blk W (w.heap.size + 1 + 1) 26 #[.nilIface]
  ah : Blk W (w.heap.size + 1 + 1 + 1) cb (bv (sst K g (vs pre)).2)
  cod : ∃ A c, Blk W (w.heap.size + 1 + 1 + 1 + 1) 22 #[.slice A (16 * pre.length) c] ∧ Own W B0 (.slice A (16 * pre.length) c) (16 * pre.length) (sst K g (vs pre)).1
  x : Ext w W
  sz : B0 ≤ W.heap.size
theorem SealI.ext {w : World} {B0 : Nat} {A : Option Addr} {c : Nat} {K : Nat → List (BitVec 8)} {g : List (BitVec 8)} {pre : List B16} {W W' : World} (h : SealI w B0 A c K g pre W) (hx : Ext W W') : SealI w B0 A c K g pre W' := by
  obtain ⟨A', c', h1, h2⟩ := h.cod
  exact ⟨h.key.ext hx, h.r0.ext hx, h.r1.ext hx, h.ah.ext hx, ⟨A', c', h1.ext hx, h2.ext hx⟩, h.x.trans hx, Nat.le_trans h.sz hx.size⟩
theorem SealI.own {w : World} {B0 : Nat} {A : Option Addr} {c : Nat} {K : Nat → List (BitVec 8)} {g : List (BitVec 8)} (hB : w.heap.size ≤ B0) : OwnFrom B0 (SealI w B0 A c K g) := fun s W W' row h hg hr => by
  have ht : Turn W W' row := ⟨hg, fun r e => (hr r e).2⟩
  obtain ⟨A', c', h1, h2⟩ := h.cod
  exact ⟨h.key.turn ht, h.r0.turn ht, h.r1.turn ht, h.ah.turn ht, ⟨A', c', h1.turn ht, h2.turn ht⟩, h.x.turn hg hB (fun r e => (hr r e).1), Nat.le_trans h.sz hg.size⟩
theorem Kb.ext {g B : Nat} {W W' : World} (hx : Ext W W') (hg : g < W.heap.size) (hB : B < W.heap.size) : Kb g B W W' := ⟨hx.b.block g hg, hx.b.block B hB⟩
theorem Kb.grown {g B : Nat} {W W' : World} {row : Option Nat} (hr : W.grownBy W' row) (hg : g < W.heap.size) (hB : B < W.heap.size) (h1 : some g ≠ row) (h2 : some B ≠ row) : Kb g B W W' := ⟨hr.block g hg h1, hr.block B hB h2⟩
theorem Kb.cell {g B : Nat} {W : World} {p : Addr} (h1 : p.block ≠ g) (h2 : p.block ≠ B) (v : Value) : Kb g B W (W.setCell p v) := ⟨Below.heap_setCell W p v g h1.symm, Below.heap_setCell W p v B h2.symm⟩
theorem Kb.row {g B r : Nat} {W : World} (h1 : r ≠ g) (h2 : r ≠ B) (cs : Array Value) : Kb g B W (W.setRow r cs) := ⟨setRow_other W r g cs h1.symm, setRow_other W r B cs h2.symm⟩
theorem grown_row (w : World) (g : Nat) (cs : Array Value) : w.grownBy (w.setRow g cs) (some g) := ⟨rfl, rfl, rfl, by simp, fun k _ hk => setRow_other w g k cs (fun e => hk (by rw [e]))⟩
theorem Own.cells {w : World} {B : Nat} {v : Value} {n : Nat} {l : List (BitVec 8)} (h : Own w B v n l) (r : Nat) (hr : v.ownBlock = some r) : ∃ cs t fr, w.heap[r]? = some (.cells cs t fr) := by
  rcases h.o.2 with ⟨rfl, _⟩ | ⟨g, cap, cur, rfl, _, h4, _⟩
  · simp [Value.ownBlock] at hr
  · obtain rfl : g = r := by simpa [Value.ownBlock] using hr
    exact ⟨_, _, _, h4⟩
theorem Blk.grown {w w' : World} {g : Nat} {t : TypeId} {cs : Array Value} (h : Blk w g t cs) {row : Option Nat} (hg : w.grownBy w' row) (hr : some g ≠ row) : Blk w' g t cs := ⟨h.h.grown hg hr⟩
theorem Own.rowfar {w : World} {B : Nat} {v : Value} {n : Nat} {l : List (BitVec 8)} (h : Own w B v n l) {g : Nat} (hg : g < B) (cs : Array Value) : Own (w.setRow g cs) B v n l := h.grown (grown_row w g cs) (.inr fun e => by have := h.base g e; omega)
theorem Own.cellfar {w : World} {B : Nat} {v : Value} {n : Nat} {l : List (BitVec 8)} (h : Own w B v n l) {p : Addr} (hp : p.block < B) (u : Value) : Own (w.setCell p u) B v n l := h.far (fun e => by have := h.base _ e; omega) u
theorem Own.off {w : World} {B : Nat} {v : Value} {n : Nat} {l : List (BitVec 8)} (h : Own w B v n l) {g : Nat} (hg : g < B) : some g ≠ v.ownBlock := fun e => by have := h.base g e.symm; omega
set_option maxHeartbeats 4000000 in
theorem Seal_any {k g t : List (BitVec 8)} {A B C : Option Addr} {c d n e : Nat} {w : World} (hk : Bs w A 16 c k) (hg : Bs w B 16 d g) (ht : Bs w C n e t) (hn : n ≤ 65536) (hw : Lay3 w) :
    Calls Tryd.prog 10 #[.slice A 16 c, .slice B 16 d, .slice C n e] w (FreshE w (16 * (n / 16 + 1)) (sealL (ks k) g t)) := by
  refine (callsIn_wide (n := 3)).1 (callsIn_of_wp_marks Tryd.func10 rfl trivial (wpIn_wide.2 ?_) rfl)
  simp only [Tryd.ntmps10, List.size_toArray, List.length_cons, List.length_nil, Nat.reduceAdd, Nat.reduceSub, Array.replicate_succ, Array.replicate_zero, List.push_toArray, List.append_toArray, List.nil_append, List.cons_append]
  obtain ⟨gg, og, rfl, rg⟩ := hg.rge (by decide)
  have hgl := hg.len
  have b1 : (n : Int) ≤ 65536 := by omega
  have hap := fun w => run_arrayAt3 (P := Tryd.prog) w 42 16 5 Tryd.underlying42 (some ⟨gg, og, none⟩) 16 d (Nat.le_refl _)
  obtain ⟨W1, hW1⟩ : ∃ W1, W1 = ((w.alloc (.cells #[.slice A 16 c] 22)).alloc (.cells #[.slice none 0 0] 22)).alloc (.cells #[.nilIface] 26) := ⟨_, rfl⟩
  have hx1 : Ext w W1 := by rw [hW1]; exact (by (repeat (first | assumption | exact Ext.refl _ | apply Ext.drew | apply Ext.drewN | apply Ext.alloc | refine Ext.trans ?_ (by assumption))); first | done | fail)
  have hs1 : W1.heap.size = w.heap.size + 3 := by rw [hW1]; simp
  have hz : Blk (W1.alloc (.cells z16 cb)) (w.heap.size + 1 + 1 + 1) cb (bv (zb 16)) := ⟨Has.new _ _ _ _ (by rw [hs1])⟩
  have hx2 : Ext w ((W1.alloc (.cells z16 cb)).setRow (w.heap.size + 1 + 1 + 1) (bv g)) := Ext.setRow (hx1.alloc _) (by omega) _
  obtain ⟨W3, hW3⟩ : ∃ W3, W3 = ((W1.alloc (.cells z16 cb)).setRow (w.heap.size + 1 + 1 + 1) (bv g)).alloc (.cells #[.slice none 0 0] 22) := ⟨_, rfl⟩
  have hI3 : ∀ (B0 : Nat) (W' : World), Ext W3 W' → B0 ≤ W'.heap.size → SealI w B0 A c (ks k) g [] W' := by
    have f1 : Blk W1 w.heap.size 22 #[.slice A 16 c] := by rw [hW1]; exact ⟨(by (repeat (first | (with_reducible apply Has.drew) | exact Has.new _ _ _ _ (by first | (simp; done) | fail) | (with_reducible apply Has.alloc))); first | done | fail)⟩
    have f2 : Blk W1 (w.heap.size + 1) 22 #[.slice none 0 0] := by rw [hW1]; exact ⟨(by (repeat (first | (with_reducible apply Has.drew) | exact Has.new _ _ _ _ (by first | (simp; done) | fail) | (with_reducible apply Has.alloc))); first | done | fail)⟩
    have f3 : Blk W1 (w.heap.size + 1 + 1) 26 #[.nilIface] := by rw [hW1]; exact ⟨(by (repeat (first | (with_reducible apply Has.drew) | exact Has.new _ _ _ _ (by first | (simp; done) | fail) | (with_reducible apply Has.alloc))); first | done | fail)⟩
    have hs3 : ((W1.alloc (.cells z16 cb)).setRow (w.heap.size + 1 + 1 + 1) (bv g)).heap.size = w.heap.size + 4 := by simp [hs1]
    have up : ∀ {r t cs}, Blk W1 r t cs → Blk W3 r t cs := fun {r t cs} h => by
      rw [hW3]
      exact (((h.ext ((Ext.refl W1).alloc _)).rowfar (g' := w.heap.size + 1 + 1 + 1) (by have := h.lt; omega) (bv g)).ext ((Ext.refl _).alloc _))
    intro B0 W' hx' hB0
    refine ⟨(up f1).ext hx', (up f2).ext hx', (up f3).ext hx', ?_, ⟨none, 0, ?_, Own.nil _ _⟩, Ext.trans ?_ hx', hB0⟩
    · refine Blk.ext ?_ hx'; rw [hW3]; exact (hz.row _).ext ((Ext.refl _).alloc _)
    · refine Blk.ext ?_ hx'; rw [hW3]; exact ⟨Has.new _ _ _ _ (by rw [hs3])⟩
    · rw [hW3]; exact hx2.alloc _
  have hsz3 : W3.heap.size = w.heap.size + 5 := by rw [hW3]; simp [hs1]
  have HI3 := Kp.mk hI3
  have HW3 := Kp.mk hW3
  have HW1 := Kp.mk hW1
  clear hI3 hW3
  rw [hW1] at hz hx1 hx2
  clear hW1 hs1
  go_wp2_with (first | (with_reducible refine at_load_to 29 28 ?_; refine wpList_load_rge rfl cb (.tmp 28) rfl gg og g (rg.ext hx1) rfl _ Tryd.underlying42 rfl (szC _ hgl) ?_) | (with_reducible refine at_store 8 29 ?_; refine wpList_store_blk rfl cb (.tmp 8) (.tmp 29) rfl (w.heap.size + 1 + 1 + 1) g (zb 16) cb hz (hgl.trans (zb_len 16).symm) rfl rfl (szC _ hgl) ?_) | (go_at_call 16; refine (Fill_any (ht.ext (hx2.trans (by (repeat (first | assumption | exact Ext.refl _ | apply Ext.drew | apply Ext.drewN | apply Ext.alloc | refine Ext.trans ?_ (by assumption))); first | done | fail))) (by omega)).mono ?_; rintro e w2 ⟨A2, c2, rfl, hf2, ho2, hx3⟩) | (go_at_call 18; refine (blocks_any A2 _ c2 w2).mono ?_; rintro e w3 ⟨rfl, hw3⟩) | fail)
  have hx3' : Ext W3 w2 := by rw [HW3.out, HW1.out]; exact hx3
  have ho2' : Own w2 W3.heap.size (.slice A2 (n + fn n) c2) (n + fn n) (fillL t) := by rw [HW3.out, HW1.out]; exact ho2
  have hfn := fn_lo n
  obtain ⟨gF, rfl, hgF1, hgF2⟩ := ho2'.some_ (by omega)
  have hcap := hf2.cap
  obtain ⟨T, hT⟩ : ∃ T, T = n + fn n := ⟨_, rfl⟩
  rw [← hT] at hf2 ho2' hcap ⊢
  have hTN : T = 16 * (n / 16 + 1) := by rw [hT]; unfold fn; omega
  obtain ⟨W0, hW0⟩ : ∃ W0, W0 = w2.alloc (.cells #[.slice (some ⟨gF, 0, none⟩) T c2] 22) := ⟨_, rfl⟩
  have hI0 : SealI w W0.heap.size A c (ks k) g [] W0 := HI3.out _ _ (by rw [hW0]; exact hx3'.alloc _) (Nat.le_refl _)
  have hB0 : Blk W0 w2.heap.size 22 #[.slice (some ⟨gF, 0, none⟩) T c2] := by rw [hW0]; exact ⟨Has.new _ _ _ _ rfl⟩
  have hs0 : W0.heap.size = w2.heap.size + 1 := by rw [hW0]; simp
  obtain ⟨gF', oF, e, hr⟩ := hf2.rge (by omega)
  cases e
  have hr0 : Rge W0 gF 0 (fillL t) := hr.ext (by rw [hW0]; exact (Ext.refl _).alloc _)
  rw [← hW0]
  have hlt1 : w.heap.size + 5 ≤ W0.heap.size := by omega
  have hF : gF < W0.heap.size := by omega
  have hBn : w2.heap.size < W0.heap.size := by omega
  have hFl : (fillL t).length = T := hf2.len
  have HIt := Kp.mk (iter_stops (3 - 1) (by decide) w2.heap.size gF 0 (n / 16 + 1) c2 T (fillL t) hTN hFl (by omega) hcap W0 hF hBn (hB0.h.cell 0) hr0)
  have HKL := Kp.mk hk
  have HWL := Kp.mk hw
  have HGL := Kp.mk hgl
  have HTL := Kp.mk ht
  have HTE := Kp.mk hT
  have HTN := Kp.mk hTN
  have HS0 := Kp.mk hs0
  clear hx1 hz hx2 hx3 ho2 hw3 HW1 HW3 HI3 hx3' ho2' hf2 hr hr0 hB0 hk hw ht hap rg hg hgl hW0 hT hTN hFl hs0
  refine (wpIn_wide (n := 3)).1 ?_
  refine wpIn_rangeFunc_ownH (F := Fence.wide) (n := 3) rfl (by decide) (gf := 31) (lb := #[.pointer (some ⟨w2.heap.size, 0, none⟩)]) rfl trivial (enters_of Tryd.func31 (by kernel_rfl) rfl)
    HIt.out (fun h k => h.trans k) (kb_b hF hBn) (Below.refl _ _) (fun _ => rfl)
    (SealI w W0.heap.size A c (ks k) g) (fun _ _ _ => False) (SealI.own (by omega)) (fun _ _ _ _ _ hs _ _ => hs) hI0
    (fun x a' W => ∃ Bx, W0.heap.size ≤ Bx ∧ Blk W Bx cb (bv x.1) ∧ a' =
      { tmps :=
        #[Value.slice A 16 c, Value.slice (some { block := gg, off := og }) 16 d, Value.slice C n e,
          Value.pointer (some { block := w.heap.size, off := 0 }), undef, undef,
          Value.pointer (some { block := w.heap.size + 1, off := 0 }),
          Value.pointer (some { block := w.heap.size + 1 + 1, off := 0 }),
          Value.pointer (some { block := w.heap.size + 1 + 1 + 1, off := 0 }),
          Value.pointer (some { block := w.heap.size + 1 + 1 + 1 + 1, off := 0 }), .pointer (some ⟨Bx, 0, none⟩), undef, undef, undef,
          Value.slice A 16 c, Value.int IntKind.i64 16, Value.bool false, Value.bool false,
          Value.slice (some { block := gg, off := og }) 16 d, Value.int IntKind.i64 16, Value.bool false,
          Value.bool false, undef, Value.slice C n e, Value.int IntKind.i64 ↑n, Value.bool (decide (65536 < (n : Int))), undef,
          Value.slice (some { block := gg, off := og }) 16 d, Value.pointer (some { block := gg, off := og }),
          Value.agg (bv g), Value.slice C n e, Value.slice (some ⟨gF, 0, none⟩) T c2,
          Value.func (Fn.func 31) #[] #[Value.pointer (some { block := w2.heap.size, off := 0 })], .agg (bv x.1), undef, undef,
          undef, undef, undef, undef, undef, undef, undef, undef, undef, undef, undef, undef, undef, undef, undef,
          undef, undef],
        defers := [] })
    (fun x a' _ W W' row h hg hr => by
      obtain ⟨Bx, h1, h2, h3⟩ := h
      exact ⟨Bx, h1, h2.turn ⟨hg, fun r e => (hr r e).2⟩, h3⟩) ?assign ?body ?done ?stop
  case assign =>
    intro l pre x W K hI hK
    have hz : Blk (W.alloc (.cells z16 cb)) W.heap.size cb (bv (zb 16)) := ⟨(by (repeat (first | (with_reducible apply Has.drew) | exact Has.new _ _ _ _ (by first | (simp; done) | fail) | (with_reducible apply Has.alloc))); first | done | fail)⟩
    refine rgn_lit (fun ⟨_, _, h⟩ => h) rfl ?_
    go_wp2_with (first | (with_reducible refine at_store 10 33 ?_; refine wpList_store_blk rfl cb (.tmp 10) (.tmp 33) rfl W.heap.size x.1 (zb 16) cb hz (x.2.trans (zb_len 16).symm) rfl rfl (szC _ x.2) ?_) | fail)
    have hx : Ext W ((W.alloc (.cells z16 cb)).setRow W.heap.size (bv x.1)) := Ext.setRow (by (repeat (first | assumption | exact Ext.refl _ | apply Ext.drew | apply Ext.drewN | apply Ext.alloc | refine Ext.trans ?_ (by assumption))); first | done | fail) (Nat.le_refl _) _
    exact hK _ _ (hx.keeps _) (Kb.ext hx (by have := hI.sz; omega) (by have := hI.sz; omega)) (hI.ext hx) ⟨W.heap.size, hI.sz, hz.row _, rfl⟩
  case body =>
    rintro l pre x a' W hl ⟨r, hr⟩ hI ⟨Bx, hBx, bX, rfl⟩ hlt
    clear hr hl
    have hsz := hI.sz
    obtain ⟨Ac, cc, hcb, hco⟩ := hI.cod
    have hal : (sst (ks k) g (vs pre)).2.length = 16 := sst_last _ _ HGL.out _
    have hcl : (sst (ks k) g (vs pre)).1.length = 16 * pre.length := by rw [sst_len, vs_len]
    obtain ⟨ahd, hahd⟩ : ∃ ahd, ahd = (sst (ks k) g (vs pre)).2 := ⟨_, rfl⟩
    obtain ⟨cod, hcod⟩ : ∃ cod, cod = (sst (ks k) g (vs pre)).1 := ⟨_, rfl⟩
    have hah := hI.ah
    rw [← hahd] at hal hah
    rw [← hcod] at hcl hco
    have HI := Kp.mk hI
    have HA := Kp.mk hahd
    have HC := Kp.mk hcod
    have HX := Kp.mk x.2
    have HAL := Kp.mk hal
    have rx := Kp.mk bX.rge
    have ra := Kp.mk hah.rge
    have hxl := xorL_len x.1 ahd
    have HXL := Kp.mk hxl
    clear hI hahd hcod hal hxl hcl
    refine wpIn_block (wpIn_seq ?_)
    refine rgn_lit (by rintro ⟨_, _, h⟩; exact h) rfl ?_
    go_wp2_with (first | (with_reducible refine at_load_to 34 10 ?_; refine wpList_load_rge rfl cb (.tmp 10) rfl Bx 0 x.1 rx.out rfl _ Tryd.underlying42 rfl (szC _ HX.out) ?_) | (with_reducible refine at_load_to 35 8 ?_; refine wpList_load_rge rfl cb (.tmp 8) rfl (w.heap.size + 1 + 1 + 1) 0 ahd ra.out rfl _ Tryd.underlying42 rfl (szC _ HAL.out) ?_) | (go_at_call 19; refine (bxor_any x.1 ahd W HX.out HAL.out).mono ?_; rintro e1 w5 ⟨rfl, hx5⟩; have hz : Blk (w5.alloc (.cells z16 cb)) w5.heap.size cb (bv (zb 16)) := ⟨(by (repeat (first | (with_reducible apply Has.drew) | exact Has.new _ _ _ _ (by first | (simp; done) | fail) | (with_reducible apply Has.alloc))); first | done | fail)⟩) | (with_reducible refine at_store 11 36 ?_; refine wpList_store_blk rfl cb (.tmp 11) (.tmp 36) rfl w5.heap.size (xorL x.1 ahd) (zb 16) cb hz (HXL.out.trans (zb_len 16).symm) rfl rfl (szC _ HXL.out) ?_) | fail)
    have hx6 : Ext W ((w5.alloc (.cells z16 cb)).setRow w5.heap.size (bv (xorL x.1 ahd))) := hx5.trans (Ext.setRow (by (repeat (first | assumption | exact Ext.refl _ | apply Ext.drew | apply Ext.drewN | apply Ext.alloc | refine Ext.trans ?_ (by assumption))); first | done | fail) (Nat.le_refl _) _)
    have hm6 := (hz.row (bv (xorL x.1 ahd))).bs 0 16 16 (by rw [HXL.out]; omega) (Nat.le_refl _)
    rw [List.drop_zero, List.take_of_length_le (by rw [HXL.out]; omega)] at hm6
    simp only [Act.put]
    change Code.wpIn _ _ _ _ _ _ ((w5.alloc (.cells z16 cb)).setRow w5.heap.size (bv (xorL x.1 ahd)))
    generalize (w5.alloc (.cells z16 cb)).setRow w5.heap.size (bv (xorL x.1 ahd)) = w6 at *
    clear hz hx5
    have kc : ∀ w', Ext w6 w' → w'.cell? ⟨w.heap.size, 0, none⟩ = some (.slice A 16 c) := fun w' h => ((HI.out.key.ext (hx6.trans h)).h.cell 0)
    have hk6 := HKL.out.ext (HI.out.x.trans hx6)
    have hw6 := HWL.out.ext (HI.out.x.trans hx6)
    have H6 := Kp.mk hx6
    have HM6 := Kp.mk hm6
    have HK6 := Kp.mk hk6
    have HW6 := Kp.mk hw6
    clear hx6 hm6 hk6 hw6
    refine wpIn_seq ?_
    refine rgn_held (S := fun w' => Ext w6 w') (by rintro ⟨_, _, h⟩; exact h) rfl (by kernel_rfl) (Ext.refl w6).drew (fun hHeld => ?_)
    refine wpAnyH_take (i := 0) (oi := ⟨some 38, _, _, _, _, _⟩) (v := ?_) rfl (by kernel_rfl) (by kernel_rfl) (by kernel_rfl) (fun _ _ _ h => h) (Or.inl ⟨by rfl, ?_⟩) (by assumption) ?_
    rotate_left
    · (intro w hSw; (try dsimp only at hSw); go_simp; try with_reducible rfl)
    try simp only [Act.put, List.setIfInBounds_toArray, List.set_cons_zero, List.set_cons_succ]
    refine wpAnyH_take (i := 1) (oi := ⟨some 39, _, _, _, _, _⟩) (v := ?_) rfl (by kernel_rfl) (by kernel_rfl) (by kernel_rfl) (fun _ _ _ h => h) (Or.inl ⟨by rfl, ?_⟩) (by assumption) ?_
    rotate_left
    · (intro w hSw; (try dsimp only at hSw); go_simp; try with_reducible rfl)
    try simp only [Act.put, List.setIfInBounds_toArray, List.set_cons_zero, List.set_cons_succ]
    refine next_one 2 (by kernel_rfl) rfl (by rfl) fun K' HK' => ?_
    go_simp
    refine (Encrypt_any (HK6.out.ext (by (repeat (first | assumption | exact Ext.refl _ | apply Ext.drew | apply Ext.drewN | apply Ext.alloc | refine Ext.trans ?_ (by assumption))); first | done | fail)) (HM6.out.ext (by (repeat (first | assumption | exact Ext.refl _ | apply Ext.drew | apply Ext.drewN | apply Ext.alloc | refine Ext.trans ?_ (by assumption))); first | done | fail)) (HW6.out.ext (by (repeat (first | assumption | exact Ext.refl _ | apply Ext.drew | apply Ext.drewN | apply Ext.alloc | refine Ext.trans ?_ (by assumption))); first | done | fail))).mono ?_
    rintro e7 w7 ⟨A7, c7, rfl, hs7, ho7, hx7⟩
    have hx67 : Ext w6 w7 := (by (repeat (first | assumption | exact Ext.refl _ | apply Ext.drew | apply Ext.drewN | apply Ext.alloc | refine Ext.trans ?_ (by assumption))); first | done | fail)
    have hS2 := Ext.trans hHeld hx7
    refine held_go HK' hS2 (fun _ => ?_)
    clear HK'
    refine held_more (S' := fun w' => Ext w7 w') (fun _ h => Ext.trans hS2 h) _ _ _ _ ?_
    clear hHeld hS2
    have hHeld : Ext w7 w7 := Ext.refl _
    try simp only [Act.put, List.setIfInBounds_toArray, List.set_cons_zero, List.set_cons_succ]
    refine wpAnyH_take (i := 3) (oi := ⟨some 37, _, _, _, _, _⟩) (v := ?_) rfl (by kernel_rfl) (by kernel_rfl) (by kernel_rfl) (fun _ _ _ h => h) (Or.inl ⟨by rfl, ?_⟩) (by assumption) ?_
    rotate_left
    · (intro w hSw; (try dsimp only at hSw); go_simp; try with_reducible rfl)
    try simp only [Act.put, List.setIfInBounds_toArray, List.set_cons_zero, List.set_cons_succ]
    refine wpAnyH_take (i := 4) (oi := ⟨some 41, _, _, _, _, _⟩) (v := ?_) rfl (by kernel_rfl) (by kernel_rfl) (by kernel_rfl) (fun _ _ _ h => h) (Or.inl ⟨by rfl, ?_⟩) (by assumption) ?_
    rotate_left
    · (intro w hSw; (try dsimp only at hSw); go_simp; try with_reducible rfl)
    try simp only [Act.put, List.setIfInBounds_toArray, List.set_cons_zero, List.set_cons_succ]
    refine wpAnyH_take (i := 5) (oi := ⟨some 42, _, _, _, _, _⟩) (v := ?_) rfl (by kernel_rfl) (by kernel_rfl) (by kernel_rfl) (fun _ _ _ h => h) (Or.inl ⟨by rfl, ?_⟩) (by assumption) ?_
    rotate_left
    · (intro w hSw; (try dsimp only at hSw); go_simp; try with_reducible rfl)
    try simp only [Act.put, List.setIfInBounds_toArray, List.set_cons_zero, List.set_cons_succ]
    refine wpAnyH_take (i := 6) (oi := ⟨some 12, _, _, _, _, _⟩) (v := ?_) rfl (by kernel_rfl) (by kernel_rfl) (by kernel_rfl) (fun _ _ _ h => h) (Or.inl ⟨by rfl, ?_⟩) (by assumption) ?_
    rotate_left
    · (intro w hSw; (try dsimp only at hSw); go_simp; try with_reducible rfl)
    try simp only [Act.put, List.setIfInBounds_toArray, List.set_cons_zero, List.set_cons_succ]
    refine wpAnyH_take (i := 7) (oi := ⟨some 13, _, _, _, _, _⟩) (v := ?_) rfl (by kernel_rfl) (by kernel_rfl) (by kernel_rfl) (fun _ _ _ h => h) (Or.inl ⟨by rfl, ?_⟩) (by assumption) ?_
    rotate_left
    · (intro w hSw; (try dsimp only at hSw); go_simp; try with_reducible rfl)
    try simp only [Act.put, List.setIfInBounds_toArray, List.set_cons_zero, List.set_cons_succ]
    refine wpAnyH_done (by kernel_rfl) ?_ _
    have hx07 : Ext W w7 := H6.out.trans hx67
    have hco7 := hco.ext hx07
    have hcb7 := hcb.ext hx07
    obtain ⟨g7, rfl, hg71, hg72⟩ := ho7.some_ (by decide)
    have hg7 : W.heap.size ≤ g7 := Nat.le_trans (Nat.le_trans H6.out.size (Ext.refl w6).drew.size) hg71
    obtain ⟨y, hy⟩ : ∃ y, y = encL (ks k) (xorL x.1 ahd) := ⟨_, rfl⟩
    have hyl : y.length = 16 := by rw [hy]; exact encL_len _ _
    rw [← hy] at hs7
    obtain ⟨m8, hm8⟩ : ∃ m8, m8 = 16 * (pre ++ [x]).length := ⟨_, rfl⟩
    have hlen : 16 * pre.length + 16 = m8 := by rw [hm8, List.length_append]; simp; omega
    have HM8 := Kp.mk hm8
    clear hm8
    have hap := fun w => run_arrayAt3 (P := Tryd.prog) w 42 16 5 Tryd.underlying42 (some ⟨g7, 0, none⟩) 16 c7 (Nat.le_refl _)
    obtain ⟨g7', o7, e, hr7⟩ := hs7.rge (by decide)
    cases e
    have q1 := hcb7.h.cell 0
    have hx7w : Ext w w7 := HI.out.x.trans hx07
    have H07 := Kp.mk hx07
    have HY := Kp.mk hy
    have HYL := Kp.mk hyl
    have HLN := Kp.mk hlen
    have H7W := Kp.mk hx7w
    have HR7 := Kp.mk hr7
    have HCO := Kp.mk hco7
    have HCB := Kp.mk hcb7
    have HS7 := Kp.mk hs7
    have hb30 : 16 * pre.length + 16 ≤ 140737488355328 := by omega
    clear hx67 hHeld ho7 hx7 kc hy hyl hlen hr7 hx7w hx07 hco7 hcb7 hs7
    show Code.wpIn _ _ _ _ _ _ _
    refine wpIn_seq (wpIn_seq ?_)
    refine rgn_lit (by rintro ⟨_, _, h⟩; exact h) rfl ?_
    go_wp2_with fail
    refine wpIn_cond_false rfl (wpIn_skip ?_)
    show Code.wpIn _ _ _ _ _ _ _
    refine wpIn_seq ?_
    refine rgn_lit (by rintro ⟨_, _, h⟩; exact h) rfl ?_
    go_wp2_with (first | (at_builtin; refine wpList_append_bs rfl (.tmp 46) (.tmp 47) rfl W0.heap.size _ (16 * pre.length) cod rfl HCO.out (some ⟨g7, 0, none⟩) 16 c7 y rfl HS7.out hb30 m8 HLN.out (cod ++ y) rfl w H7W.out (by omega) (Nat.le_trans hsz H07.out.size) ?_; intro A8 c8 w8 ho8 hx8 hap8; have hcb8 := HCB.out.grown hap8.grown (HCO.out.off (by omega)); have q2 := hcb8.h.cell 0; have q3 := hcb8.h.frozen 0) | fail)
    have happ : Apd w7 w8 (.slice Ac (16 * pre.length) cc) (.slice A8 m8 c8) := hap8
    have hgr := happ.grown
    have hoff : ∀ {r}, r < W0.heap.size → some r ≠ (Value.slice Ac (16 * pre.length) cc).ownBlock := fun h => HCO.out.off h
    have hg7r : some g7 ≠ (Value.slice Ac (16 * pre.length) cc).ownBlock := fun e => by have := hco.lt g7 e.symm; omega
    have hs78 := hgr.size
    have hsW : W.heap.size ≤ w7.heap.size := H07.out.size
    have hs4 : w.heap.size + 1 + 1 + 1 + 1 < W0.heap.size := by omega
    have hr9 : Rge (w8.setCell ⟨w.heap.size + 1 + 1 + 1 + 1, 0, none⟩ (.slice A8 m8 c8)) g7 0 y :=
      HR7.out.same ((Below.heap_setCell w8 ⟨w.heap.size + 1 + 1 + 1 + 1, 0, none⟩ _ g7 (show g7 ≠ w.heap.size + 1 + 1 + 1 + 1 by omega)).trans (hgr.block g7 hg72 hg7r))
    have step : ∀ {r t cs}, r < W0.heap.size → r ≠ w.heap.size + 1 + 1 + 1 + 1 → Blk W r t cs → Blk (w8.setCell ⟨w.heap.size + 1 + 1 + 1 + 1, 0, none⟩ (.slice A8 m8 c8)) r t cs := fun {r t cs} h1 h2 h =>
      ((h.ext H07.out).grown hgr (hoff h1)).far (p := ⟨w.heap.size + 1 + 1 + 1 + 1, 0, none⟩) h2 _
    have hah9 := step (by omega) (by omega) hah
    have hk9 := step (by omega) (by omega) HI.out.key
    have h09 := step (by omega) (by omega) HI.out.r0
    have h19 := step (by omega) (by omega) HI.out.r1
    have hnew : Blk (w8.setCell ⟨w.heap.size + 1 + 1 + 1 + 1, 0, none⟩ (.slice A8 m8 c8)) (w.heap.size + 1 + 1 + 1 + 1) 22 #[.slice A8 m8 c8] := ⟨hcb8.h.set 0 _⟩
    have ho9 := ho8.cellfar (p := ⟨w.heap.size + 1 + 1 + 1 + 1, 0, none⟩) hs4 (.slice A8 m8 c8)
    have hx9 := hx8.setCell (p := ⟨w.heap.size + 1 + 1 + 1 + 1, 0, none⟩) (show w.heap.size ≤ w.heap.size + 1 + 1 + 1 + 1 by omega) (.slice A8 m8 c8)
    have hkf9 := ((H07.out.keeps W0.heap.size).trans (keeps_cells _ hgr (fun r e => HCO.out.cells r e))).trans ((KeepsOthers.setCell w8 ⟨w.heap.size + 1 + 1 + 1 + 1, 0, none⟩ (.slice A8 m8 c8)).from _)
    have hkb9 : Kb gF w2.heap.size W (w8.setCell ⟨w.heap.size + 1 + 1 + 1 + 1, 0, none⟩ (.slice A8 m8 c8)) :=
      ((Kb.ext H07.out (by omega) (by omega)).trans (Kb.grown hgr (by omega) (by omega) (hoff hF) (hoff hBn))).trans (Kb.cell (p := ⟨w.heap.size + 1 + 1 + 1 + 1, 0, none⟩) (show w.heap.size + 1 + 1 + 1 + 1 ≠ gF by omega) (show w.heap.size + 1 + 1 + 1 + 1 ≠ w2.heap.size by omega) _)
    have hs9 : W.heap.size ≤ (w8.setCell ⟨w.heap.size + 1 + 1 + 1 + 1, 0, none⟩ (.slice A8 m8 c8)).heap.size := by simp; omega
    clear q1 q2 q3 hap8 hcb8 happ hgr step hcb hah ho8 hx8
    generalize w8.setCell ⟨w.heap.size + 1 + 1 + 1 + 1, 0, none⟩ (.slice A8 m8 c8) = W9 at *
    have HR9 := Kp.mk hr9
    have HAH9 := Kp.mk hah9
    have HREST := Kp.mk (And.intro hk9 (And.intro h09 (And.intro h19 (And.intro hnew (And.intro ho9 (And.intro hx9 (And.intro hkf9 (And.intro hkb9 hs9))))))))
    clear hr9 hah9 hk9 h09 h19 hnew ho9 hx9 hkf9 hkb9 hs9
    refine rgn_lit (by rintro ⟨_, _, h⟩; exact h) rfl ?_
    go_wp2_with (first | (with_reducible refine at_load_to 51 50 ?_; refine wpList_load_rge rfl cb (.tmp 50) rfl g7 0 y HR9.out rfl _ Tryd.underlying42 rfl (szC _ HYL.out) ?_) | (with_reducible refine at_store 8 51 ?_; refine wpList_store_blk rfl cb (.tmp 8) (.tmp 51) rfl (w.heap.size + 1 + 1 + 1) y ahd cb HAH9.out (HYL.out.trans HAL.out.symm) rfl rfl (szC _ HYL.out) ?_) | fail)
    obtain ⟨hk9, h09, h19, hnew, ho9, hx9, hkf9, hkb9, hs9⟩ := HREST.out
    refine ⟨hkf9.trans (keeps_cells _ (grown_row _ _ _) (fun r e => by cases e; exact ⟨_, _, _, HAH9.out.h⟩)), hkb9.trans (Kb.row (by omega) (by omega) _),
      hk9.rowfar (by omega) _, h09.rowfar (by omega) _, h19.rowfar (by omega) _, ?_, ⟨A8, c8, ?_, ?_⟩, hx9.setRow (by omega) _, ?_⟩
    · rw [vs_snoc, sst_snoc, ← HA.out, ← HY.out]
      exact HAH9.out.row _
    · rw [← HM8.out]
      exact hnew.rowfar (by omega) _
    · rw [← HM8.out, vs_snoc, sst_snoc, ← HA.out, ← HC.out, ← HY.out]
      exact ho9.rowfar (by omega) _
    · rw [show (W9.setRow (w.heap.size + 1 + 1 + 1) (bv y)).heap.size = W9.heap.size by simp]
      omega
  case done =>
    rintro D ys W hD hys hI hK
    obtain ⟨Ac, cc, hcb, hco⟩ := hI.cod
    have e2 : ys.length = n / 16 + 1 := by rw [← vs_len, hys, bls_len]
    have e1 : (sst (ks k) g (vs ys)).1 = sealL (ks k) g t := by rw [hys, sst_all]; unfold sealL; rw [HTL.out.len]
    rw [e1] at hco
    rw [e2] at hco hcb
    have q1 := hcb.h.cell 0
    have q2 := hI.r0.h.cell 0
    have q3 := hI.r0.h.frozen 0
    have q4 := (hI.r1.far (p := ⟨w.heap.size + 1, 0, none⟩) (show w.heap.size + 1 + 1 ≠ w.heap.size + 1 by omega) (.slice Ac (16 * (n / 16 + 1)) cc)).h.cell 0
    have q5 := (hI.r1.far (p := ⟨w.heap.size + 1, 0, none⟩) (show w.heap.size + 1 + 1 ≠ w.heap.size + 1 by omega) (.slice Ac (16 * (n / 16 + 1)) cc)).h.frozen 0
    have HI := Kp.mk hI
    have HCO := Kp.mk hco
    have HKD := Kp.mk hK
    clear hI hco hcb hK
    go_wp2_with fail
    have hD1 : w.heap.size + 1 + 1 < D := by omega
    have hg1 := grownBy_setCell' W (w.heap.size + 1) (.slice Ac (16 * (n / 16 + 1)) cc)
    have hb0 : Blk (W.setCell ⟨w.heap.size + 1, 0, none⟩ (.slice Ac (16 * (n / 16 + 1)) cc)) (w.heap.size + 1) 22 #[.slice Ac (16 * (n / 16 + 1)) cc] := ⟨HI.out.r0.h.set 0 _⟩
    have hb1 := HI.out.r1.far (p := ⟨w.heap.size + 1, 0, none⟩) (show w.heap.size + 1 + 1 ≠ w.heap.size + 1 by omega) (.slice Ac (16 * (n / 16 + 1)) cc)
    have ho1 := HCO.out.cellfar (p := ⟨w.heap.size + 1, 0, none⟩) (show w.heap.size + 1 < W0.heap.size by omega) (.slice Ac (16 * (n / 16 + 1)) cc)
    have hx1 := HI.out.x.setCell (p := ⟨w.heap.size + 1, 0, none⟩) (show w.heap.size ≤ w.heap.size + 1 by omega) (.slice Ac (16 * (n / 16 + 1)) cc)
    have hk1 : (W.setCell ⟨w.heap.size + 1, 0, none⟩ (.slice Ac (16 * (n / 16 + 1)) cc)).heap[D]? = some (.deferred (some [])) := (Below.heap_setCell _ _ _ D (show D ≠ w.heap.size + 1 by omega)).trans HKD.out
    have hb2 := hb0.far (p := ⟨w.heap.size + 1 + 1, 0, none⟩) (show w.heap.size + 1 ≠ w.heap.size + 1 + 1 by omega) .nilIface
    have hb3 : Blk ((W.setCell ⟨w.heap.size + 1, 0, none⟩ (.slice Ac (16 * (n / 16 + 1)) cc)).setCell ⟨w.heap.size + 1 + 1, 0, none⟩ .nilIface) (w.heap.size + 1 + 1) 26 #[.nilIface] := ⟨hb1.h.set 0 _⟩
    have ho2 := ho1.cellfar (p := ⟨w.heap.size + 1 + 1, 0, none⟩) (show w.heap.size + 1 + 1 < W0.heap.size by omega) .nilIface
    have hx2 := hx1.setCell (p := ⟨w.heap.size + 1 + 1, 0, none⟩) (show w.heap.size ≤ w.heap.size + 1 + 1 by omega) .nilIface
    have hk2 := (Below.heap_setCell (W.setCell ⟨w.heap.size + 1, 0, none⟩ (.slice Ac (16 * (n / 16 + 1)) cc)) ⟨w.heap.size + 1 + 1, 0, none⟩ .nilIface D (show D ≠ w.heap.size + 1 + 1 by omega)).trans hk1
    clear hg1 hb0 hb1 ho1 hx1 hk1 q1 q2 q3 q4 q5
    generalize (W.setCell ⟨w.heap.size + 1, 0, none⟩ (.slice Ac (16 * (n / 16 + 1)) cc)).setCell ⟨w.heap.size + 1 + 1, 0, none⟩ .nilIface = W4 at *
    have ht : Turn W4 (W4.putObj D (.deferred none)) (some D) := ⟨grownBy_putObj' W4 D _, fun r e => by cases e; exact ⟨_, hk2, rfl⟩⟩
    have c1 := (hb2.turn ht).h.cell 0
    have c2 := (hb3.turn ht).h.cell 0
    refine ⟨by simp, .inl ⟨_, _, rfl, run_takeDeferred hk2, ?_⟩⟩
    refine ⟨.tuple #[.slice Ac (16 * (n / 16 + 1)) cc, .nilIface], ?_, Ac, cc, rfl, (ho2.turn ht).bs, (ho2.turn ht).lower (by omega), hx2.turn ht.1 (B := W0.heap.size) (by omega) (fun r e => by cases e; exact hD)⟩
    simp [results, Tryd.f10, go_sem, c1, c2]
  case stop =>
    rintro D c pre W _ _ h _
    exact h.elim
end Go.Proofs.YtjjoghdlbnlicaaDoor
