/-
  sort.Search by its contract; the closure of At.
-/
import Derived.Test.YtfipgmjaabggjaaDoorM20
import Derived.Shelf.SlSorted.Search
namespace Go.Proofs.YtfipgmjaabggjaaDoor
open Go Go.RowKit Go.Shelf
set_option maxRecDepth 4000

def SearchLaid_ren : Go.Shelf.Ren := ⟨fun | 16 => 57 | n => n, fun | 3 => 3 | 35 => 97 | 4 => 4 | 38 => 81 | n => n, fun | n => n⟩
theorem SearchLaid : Go.Proofs.SlLaysO.n16 Tryd.prog SearchLaid_ren := {
  mixed := by kernel_rfl
  f16 := Tryd.func57.trans (congrArg some (by kernel_rfl))
  t3 := Tryd.underlying3
  a3 := Tryd.isAgg3
  z3 := Tryd.sizeOf3
  v3 := Tryd.zeroValue3
  t4 := Tryd.underlying4
  a4 := Tryd.isAgg4
  z4 := Tryd.sizeOf4
  v4 := Tryd.zeroValue4
  t35 := Tryd.underlying97
  a35 := Tryd.isAgg97
  z35 := Tryd.sizeOf97
  v35 := Tryd.zeroValue97
  t38 := Tryd.underlying81
  a38 := Tryd.isAgg81
  z38 := Tryd.sizeOf81
  v38 := Tryd.zeroValue81 }
theorem Ext.grow (w : World) (q : Nat) (os : Array Obj) : Ext w (Sort.grow (w.drewN q) os) := ⟨below_grown_sl _ w q os (Nat.le_refl _)⟩
theorem count_below (n k : Nat) (h : k ≤ n) (p : Nat → Bool) (hp : ∀ i, i < n → (p i = true ↔ i < k)) : (List.range n).countP p = k := by
  have key : ∀ m, m ≤ n → (List.range m).countP p = min k m := by
    intro m
    induction m with
    | zero => intro _; simp
    | succ m ih =>
      intro hm
      rw [List.range_succ, List.countP_append, ih (by omega), List.countP_singleton]
      by_cases hk : m < k
      · rw [if_pos ((hp m (by omega)).2 hk)]; omega
      · rw [if_neg (fun e => hk ((hp m (by omega)).1 e))]; omega
  rw [key n (Nat.le_refl _)]
  omega
set_option maxHeartbeats 2000000 in
theorem At1_any (i D g : Nat) (hi : i < 9999) (w : World) (hc : w.cell? ⟨g, 0, none⟩ = some (.int .i64 (D : Int))) : Calls Tryd.prog 58 #[.int .i64 (i : Int), .pointer (some ⟨g, 0, none⟩)] w fun e w' => e = .returned (.bool (decide (D < ydN (i + 1)))) ∧ ∃ q, w' = w.drewN q := by
  have hA := fun W => daysAhead_any (i + 1) (by omega) W
  have e1 : IntKind.i64.wrap ((i : Int) + 2) = ((i + 1 + 1 : Nat) : Int) := by rw [IntKind.wrap_i64]; omega
  have e2 : decide (D < ydN (i + 1)) = decide ((D : Int) < (ydN (i + 1) : Int)) := by rw [Bool.eq_iff_iff]; simp
  rw [e2]
  generalize ydN (i + 1) = Y at *
  generalize i + 1 + 1 = z at *
  clear e2
  go_enter Tryd.func58, Tryd.ntmps58
  go_wp2_with fail
  go_quiet (first | (go_at_call 55; exact Calls.quiet_of_same (hA _)) | fail)
  go_wp2_with fail
  go_ret
  exact ⟨by first | rfl | simp, nq, rfl⟩
theorem Search_any (D Y g : Nat) (hY1 : 1 ≤ Y) (hY2 : Y ≤ 9999) (h1 : ydN (Y - 1) ≤ D) (h2 : D < ydN Y) (w : World) (hc : w.cell? ⟨g, 0, none⟩ = some (.int .i64 (D : Int))) :
    Calls Tryd.prog 57 #[.int .i64 9999, .func (.func 58) #[] #[.pointer (some ⟨g, 0, none⟩)]] w fun e w' => e = .returned (.int .i64 ((Y - 1 : Nat) : Int)) ∧ Ext w w' := by
  have h := Any.sort_Search SearchLaid 58 #[.pointer (some ⟨g, 0, none⟩)] 9999 (fun i => decide (D < ydN (i + 1))) w (enters_of Tryd.func58 (by kernel_rfl) rfl) (by decide)
    (fun m os i hi => (At1_any i D g hi _ ((Ext.grow w m os).b.cell (p := ⟨g, 0, none⟩) (World.block_lt_of_cell? _ _ hc) ▸ hc)).mono fun e w' hh => by
      obtain ⟨he, q, hq⟩ := hh
      exact ⟨he, q, #[], by rw [hq, Sort.grow_empty]⟩)
    (fun a b hab hb ha => by
      rw [decide_eq_true_eq] at ha ⊢
      exact Nat.lt_of_lt_of_le ha (ydN_mono (by omega)))
  rw [count_below 9999 (Y - 1) (by omega) _ (fun i hi => by
    rw [Bool.not_eq_true', decide_eq_false_iff_not]
    constructor
    · intro e
      rcases Nat.lt_or_ge i (Y - 1) with hlt | hge
      · exact hlt
      · exact absurd (Nat.lt_of_lt_of_le h2 (ydN_mono (by omega))) e
    · intro e
      have := ydN_mono (show i + 1 ≤ Y - 1 by omega)
      omega)] at h
  exact h.mono fun e w' hh => by
    obtain ⟨he, q, os, hq⟩ := hh
    exact ⟨he, by rw [hq]; exact Ext.grow w q os⟩
end Go.Proofs.YtfipgmjaabggjaaDoor
