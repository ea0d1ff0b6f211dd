/-
  The walk of the reference's Made.
-/
import Derived.Test.YtkjfhgbpiogigaaDoorRk
import Derived.Test.YtkjfhgbpiogigaaDoorPureg
namespace Go.Proofs.YtkjfhgbpiogigaaDoor
open Go Go.RowKit

/-- the reference's tables as a value: nine cells -/
def tab (A : Option Addr) (c : Nat) (H : List (BitVec 32)) : Array Value :=
  #[.slice A 64 c, .int .u32 (un (gw H 0)), .int .u32 (un (gw H 1)), .int .u32 (un (gw H 2)), .int .u32 (un (gw H 3)), .int .u32 (un (gw H 4)), .int .u32 (un (gw H 5)), .int .u32 (un (gw H 6)), .int .u32 (un (gw H 7))]
theorem own_rowfar {w : World} {base e n g : Nat} {v : Value} {xs : List Value} (h : w.ownsRow base e 1 v n xs) (hg : g < base) (cs : Array Value) : (w.setRow g cs).ownsRow base e 1 v n xs := by
  refine ⟨h.1, ?_⟩
  rcases h.2 with h2 | ⟨g', cap, cur, h1, h3, h4, h5⟩
  · exact .inl h2
  · exact .inr ⟨g', cap, cur, h1, h3, (setRow_other w g g' cs (by omega)).trans h4, h5⟩
theorem tab_one (A : Option Addr) (c : Nat) (H : List (BitVec 32)) : (tab A c H).all (·.oneCell') = true := by simp [tab, Value.oneCell']
theorem tab_size (A : Option Addr) (c : Nat) (H : List (BitVec 32)) : (Tryd.prog.info? 47).map (·.size) = some (tab A c H).size := by
  rw [show (tab A c H).size = 9 from rfl]; kernel_rfl
abbrev zero9 : Array Value := #[.slice none 0 0, .int .u32 0, .int .u32 0, .int .u32 0, .int .u32 0, .int .u32 0, .int .u32 0, .int .u32 0, .int .u32 0]

set_option maxHeartbeats 2000000 in
theorem Made_gen (K H : List (BitVec 32)) (hH : H.length = 8) (hC : ∀ w : World, Calls Tryd.prog 24 #[] w fun e w' => ∃ v, e = .returned v ∧ w'.ownsRow w.heap.size 24 1 v 64 (K.map vu) ∧ Below w.heap.size w w')
    (hB : ∀ w : World, Calls Tryd.prog 50 #[] w fun e w' => e = .returned (.agg (wv H)) ∧ Below w.heap.size w w') (w : World) :
    Calls Tryd.prog 29 #[] w fun e w' => ∃ A c, e = .returned (.agg (tab A c H)) ∧ Ow w' A 64 c (K.map vu) ∧ Below w.heap.size w w' := by
  have HC := Hd.mk hC
  have HB := Hd.mk hB
  have HW8 := Hd.mk (wv8 H hH)
  clear hC hB hH
  go_enter Tryd.func29, Tryd.ntmps29
  have h0 : Has (w.alloc (.cells zero9 47)) w.heap.size 47 zero9 := Has.new _ _ _ _ rfl
  have hb0 : Below w.heap.size w (w.alloc (.cells zero9 47)) := (Below.refl _ _).alloc (Nat.le_refl _) _
  go_wp2_with fail
  refine (HC.out _).mono ?_
  rintro e w1 ⟨v, rfl, hown, hb1⟩
  obtain ⟨A, c, rfl, _⟩ := Ow.of_own hown
  have h1 := h0.below hb1 h0.lt
  have hb01 := hb0.trans (hb1.mono hb0.size)
  clear h0 hb0 hb1
  go_wp2_with fail
  refine (HB.out _).mono ?_
  rintro e w2 ⟨rfl, hb2⟩
  have h2 := h1.below hb2 h1.lt
  have hb02 := hb01.trans (hb2.mono hb01.size)
  have hown2 := own_below hown hb2
  clear h1 hb01 hb2 hown
  rw [HW8.out]
  have HH2 := Hd.mk h2
  go_wp2_with (first | (refine wpList_store_row rfl 47 _ _ rfl w.heap.size (tab A c H) rfl rfl 47 zero9 HH2.out (tab_size A c H) rfl (tab_one A c H) ?_) | fail)
  refine bodyPost_ret (v := .agg (tab A c H)) ?_ rfl ⟨A, c, rfl, ?_, ?_⟩
  · exact results_cell_row rfl _ _ w.heap.size 47 _ (0, 0) _ rfl (h2.row _) Tryd.underlying47 rfl (tab_size A c H)
  · obtain ⟨A', c', e, how⟩ := Ow.of_own (own_rowfar (g := w.heap.size) hown2 (by simp) (tab A c H))
    cases e
    exact how
  · exact below_row hb02 (Nat.le_refl _) _
end Go.Proofs.YtkjfhgbpiogigaaDoor
