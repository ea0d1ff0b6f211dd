/-
  What slices.Values hands back goes through a slice's elements, in order.
-/
import Derived.Test.YtfipgmjaabggjaaDoorVRf
namespace Go.Proofs.YtfipgmjaabggjaaDoor
open Go Go.RowKit
set_option maxRecDepth 4000
attribute [local go_sem] Oper.semAt_some

/-- a slice's three words -/
abbrev SA := Option Addr × Nat × Nat
def sv (x : SA) : Value := .slice x.1 x.2.1 x.2.2
/-- two blocks lie as they lay: the slice's row, and the box of the slice -/
structure Kb (g B : Nat) (w w' : World) : Prop where
  a : w'.heap[g]? = w.heap[g]?
  b : w'.heap[B]? = w.heap[B]?
theorem Kb.refl (g B : Nat) (w : World) : Kb g B w w := ⟨rfl, rfl⟩
theorem Kb.trans {g B : Nat} {w w' w'' : World} (h : Kb g B w w') (h' : Kb g B w' w'') : Kb g B w w'' := ⟨h'.a.trans h.a, h'.b.trans h.b⟩
theorem cell_same {w w' : World} {g : Nat} (h : w'.heap[g]? = w.heap[g]?) (i : Nat) : w'.cell? ⟨g, i, none⟩ = w.cell? ⟨g, i, none⟩ := by simp [World.cell?, h]
theorem kb_b {w : World} {g B : Nat} (hg : g < w.heap.size) (hB : B < w.heap.size) (W : World) (l : Nat) (o o' : Obj) (hl : w.heap.size ≤ l) (_ : W.heap[l]? = some o) (_ : o.isCells = false) (_ : o.isWalk = false) : Kb g B W (W.putObj l o') :=
  ⟨World.putObj_heap_other (by omega), World.putObj_heap_other (by omega)⟩
set_option maxHeartbeats 2000000 in
theorem vals_in (n : Nat) (hn : 1 ≤ n) (l Bn g o N c : Nat) (A : Option Addr) (vs : List SA) (hN : vs.length = N) (hTb : N ≤ 140737488350000) (hA : 0 < N → A = some ⟨g, o, none⟩) (J Jx : List SA → World → Prop)
    (hY : ∀ pre x W, J pre W → pre.length < N → YieldAt Fence.wide (n - 1) Tryd.prog l #[sv x] W fun e W' =>
      (e = .returned (.bool true) ∧ J (pre ++ [x]) W' ∧ Kb g Bn W W') ∨ (e = .returned (.bool false) ∧ Jx (pre ++ [x]) W'))
    (W : World) (hBn : W.cell? ⟨Bn, 0, none⟩ = some (.slice A N c)) (hs : ∀ k v, vs[k]? = some v → W.cell? ⟨g, o + k, none⟩ = some (sv v)) (h0 : J [] W) :
    CallsIn Fence.wide n Tryd.prog 79 #[.func (.yield l) #[] #[], .pointer (some ⟨Bn, 0, none⟩)] W fun e W' => (∃ v, e = .returned v) ∧
      ((∃ ys, ys = vs ∧ J ys W') ∨ (∃ pre, True ∧ Jx pre W')) := by
  refine callsIn_of_wp Tryd.func79 rfl trivial ?_ rfl
  simp only [Tryd.ntmps79, List.size_toArray, List.length_cons, List.length_nil, Nat.reduceAdd, Nat.reduceSub, Array.replicate_succ, Array.replicate_zero, List.push_toArray, List.append_toArray, List.nil_append, List.cons_append]
  have HS := Kp.mk hs
  clear hs
  gi_wp2
  gi_loopw [7] (fun v wr => ∃ k : Nat, k ≤ N ∧ v = .int .i64 (k : Int) ∧ J (vs.take k) wr ∧ Kb g Bn W wr) (fun v _ => N - (intOf v).toNat)
  case atStart => exact ⟨0, Nat.zero_le _, rfl, by simpa using h0, Kb.refl _ _ _⟩
  case round =>
    obtain ⟨k, hk, rfl, hJ, hkb⟩ := hrel
    by_cases hlt : k < N
    · obtain rfl := hA (by omega)
      obtain ⟨x, hx⟩ : ∃ x, vs[k]? = some x := ⟨_, List.getElem?_eq_getElem (by omega)⟩
      have c2 : wr.cell? ⟨g, o + k, none⟩ = some (sv x) := (cell_same hkb.a _).trans (HS.out k x hx)
      have htk : vs.take k ++ [x] = vs.take (k + 1) := by rw [List.take_add_one, hx]; rfl
      obtain ⟨fn, tmps, assign, body, hy, hR⟩ := hY (vs.take k) x wr hJ (by simp; omega)
      try dsimp only at hy
      have d1 : (k : Int) < N := by omega
      have d2 : (N : Int) ≤ 140737488350000 := by omega
      have HK := Kp.mk hkb
      have HT := Kp.mk htk
      clear hkb hJ htk
      gi_wp2
      refine hR.mono ?_
      rintro e W3 (⟨rfl, hJ3, hk3⟩ | ⟨rfl, hJx3⟩)
      · gi_wp2
        go_roundw
        case rel => exact ⟨k + 1, by omega, by go_num, by rw [← HT.out]; exact hJ3, HK.out.trans hk3⟩
        case measure => simp [intOf]; omega
      · gi_wp2
        refine bodyPost_ret (results_none rfl _ _ _) rfl ?_
        exact ⟨⟨_, rfl⟩, .inr ⟨_, trivial, hJx3⟩⟩
    · obtain rfl : k = N := by omega
      gi_wp2
      go_end0
      exact ⟨⟨_, rfl⟩, .inl ⟨_, rfl, by rwa [List.take_of_length_le (by omega)] at hJ⟩⟩
/-- what slices.Values hands back goes through all of them, in order -/
theorem vals_stops (n : Nat) (hn : 1 ≤ n) (Bn g o N c : Nat) (A : Option Addr) (vs : List SA) (hN : vs.length = N) (hTb : N ≤ 140737488350000) (hA : 0 < N → A = some ⟨g, o, none⟩) (w : World)
    (hg : g < w.heap.size) (hBl : Bn < w.heap.size) (hBn : w.cell? ⟨Bn, 0, none⟩ = some (.slice A N c)) (hs : ∀ k v, vs[k]? = some v → w.cell? ⟨g, o + k, none⟩ = some (sv v)) :
    SeqStopsK Fence.wide n Tryd.prog 79 #[.pointer (some ⟨Bn, 0, none⟩)] (fun x : SA => #[sv x]) (Kb g Bn) (fun ys => ys = vs) (fun _ => True) N w := fun l J Jx W hW _ _ hY h0 =>
  vals_in n hn l Bn g o N c A vs hN hTb hA J Jx hY W ((hW.cell (p := ⟨Bn, 0, none⟩) hBl).trans hBn) (fun k v h => (cell_same (hW.block g hg) _).trans (hs k v h)) h0
end Go.Proofs.YtfipgmjaabggjaaDoor
