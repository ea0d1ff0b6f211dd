/-
  nat: rows of limbs copied and cleared; sum and difference.
-/
import Derived.Test.YtpmoaccaknfodaaDoorNr
import Derived.Laws.CopyRow
import Derived.Lib.SliceRun
namespace Go.Proofs.YtpmoaccaknfodaaDoor
open Go Go.RowKit

theorem one_vL (l : List Nat) : ∀ v ∈ l.map vL, v.oneCell' = true := fun v hv => by
  obtain ⟨b, _, rfl⟩ := List.mem_map.1 hv
  rfl
theorem setRow_mds (w : World) (g : Nat) (cs : Array Value) : Mds [g] w (w.setRow g cs) :=
  ⟨rfl, rfl, rfl, by simp, fun k _ hk => setRow_other w g k cs (by simpa using hk)⟩
/-- copy(a, b), a a block whole -/
theorem run_copy_L (ty : TypeId) {w : World} {g n c N cd : Nat} {A : Option Addr} {L l K : List Nat} (hB : Lb w g L) (hN : L.length = N) (hl : Rd vL w A n c l) (hK : l.take N ++ L.drop n = K) :
    ∃ w' z, (Builtin.copy_ #[nt, nt] ty #[.slice (some ⟨g, 0, none⟩) N cd, .slice A n c]).run Tryd.prog w = .ok z w' ∧ Lb w' g K ∧ Mds [g] w w' := by
  have hlen := hl.len
  subst hK
  cases A with
  | none =>
    obtain ⟨rfl, rfl⟩ := hl.nul rfl
    have e : l = [] := List.eq_nil_of_length_eq_zero hlen
    subst e
    exact ⟨w, _, run_copy_none (P := Tryd.prog) w nt nt ty ut _ none N cd 0 0 Tryd.underlying25 szL (Nat.zero_min _), by simpa using hB, Mds.refl _ _⟩
  | some ad =>
    have hcs : ((l.take N).map vL).length = Nat.min n N := by rw [List.length_map, List.length_take, hlen, Nat.min_comm]
    have hr := run_copy_row (P := Tryd.prog) w nt nt ty ut g 0 N cd ad n c (lv L) ut ((l.take N).map vL) Tryd.underlying25 szL hB.h hcs
      (fun j v hj => by
        have hp : 0 < n := by
          have h6 := (List.getElem?_eq_some_iff.1 hj).1
          rw [hcs] at h6
          have : Nat.min n N ≤ n := Nat.min_le_left _ _
          omega
        obtain ⟨ad', e1, hc⟩ := hl.news hp
        cases e1
        refine hc j v ?_
        rw [List.getElem?_map, List.getElem?_take] at hj
        rw [List.getElem?_map]
        split at hj
        · exact hj
        · cases hj)
      (by
        have : Nat.min n N ≤ N := Nat.min_le_right _ _
        rw [hcs, lv_size, hN]
        omega) (one_vL _)
    refine ⟨_, _, hr, ?_, setRow_mds _ _ _⟩
    have e2 : ((lv L).toList.take 0 ++ (l.take N).map vL ++ (lv L).toList.drop (0 + ((l.take N).map vL).length)).toArray = lv (l.take N ++ L.drop n) := by
      unfold lv
      rw [List.map_append, List.take_zero, List.nil_append, Nat.zero_add, hcs, List.map_drop]
      congr 2
      by_cases h : n ≤ N
      · rw [show Nat.min n N = n from Nat.min_eq_left h]
      · rw [show Nat.min n N = N from Nat.min_eq_right (by omega), List.drop_eq_nil_of_le (by simp; omega), List.drop_eq_nil_of_le (by simp; omega)]
    rw [e2]
    exact hB.row _
theorem wp_copy_of {P : Program} {w w' : World} {o : Oper} {a : Act} {K : Act → World → Prop} {Q : Exit → Act → World → Prop} (d s : Operand) (dT sT : TypeId)
    (ho : o.op = .call { callee := .builtin .copy, args := #[d, s], argTypes := #[dT, sT] }) (u v z : Value) (hd : a.eval d = u) (hs : a.eval s = v)
    (hr : (Builtin.copy_ #[dT, sT] o.type #[u, v]).run P w = .ok z w') (h : K (a.put o.dst z) w') : o.wp P a w K Q := by
  unfold Oper.wp
  simp [execOp, ho, resolve, invoke, builtin, hs, hd, hr, Result.andThen]
  exact h
theorem wpList_copy_L {w : World} {ops : Array Oper} {rest : List Oper} {o : Oper} {a : Act} {Q : Exit → Act → World → Prop} (hgd : o.guard = none) (d s : Operand)
    (ho : o.op = .call { callee := .builtin .copy, args := #[d, s], argTypes := #[nt, nt] }) (g n c N cd : Nat) (A : Option Addr) (L l K : List Nat)
    (hd : a.eval d = .slice (some ⟨g, 0, none⟩) N cd) (hs : a.eval s = .slice A n c) (hB : Lb w g L) (hN : L.length = N) (hl : Rd vL w A n c l) (hK : l.take N ++ L.drop n = K)
    (h : ∀ z w', Lb w' g K → Mds [g] w w' → wpList Tryd.prog ops Q rest (a.put o.dst z) w') : wpList Tryd.prog ops Q (o :: rest) a w :=
  wpList_plain hgd fun _ hK' => by
    obtain ⟨w', z, hr, h1, h2⟩ := run_copy_L o.type hB hN hl hK
    exact wp_copy_of d s nt nt ho _ _ z hd hs hr (hK' _ _ (h z w' h1 h2))
theorem FreshL.of_counted {w w1 : World} {l : List Nat} {A : Option Addr} {n c v : Nat} (h : Rw ut vL w1 w.heap.size (.slice A n c) n l) (hd : Dg BB l) (hn : n ≤ 4611686018427387904) (hv : vl BB l = v) (hx : Ext w w1) :
    Calls Tryd.prog 19 #[.slice A n c] w1 (FreshL w v) := by
  subst hv
  refine (counted_own h hd hn).mono ?_
  rintro e w' ⟨rfl, _, h2, rfl⟩
  exact ⟨A, _, c, rfl, h2, hx⟩
theorem vl_append0 (l : List Nat) (k : Nat) : vl BB (l ++ zl k) = vl BB l := by rw [vl_append, zl, vl_zeros, Nat.mul_zero, Nat.add_zero]
set_option maxHeartbeats 1000000 in
theorem difference_any {a b : List Nat} {A B : Option Addr} {n c m d : Nat} {w : World} (ha : Rd vL w A n c a) (hb : Rd vL w B m d b) (da : Dg BB a) (db : Dg BB b) (hm : m ≤ n) (hlim : n ≤ 1000000000000) (hle : vl BB b ≤ vl BB a) :
    Calls Tryd.prog 24 #[.slice A n c, .slice B m d] w (FreshL w (vl BB a - vl BB b)) := by
  have hla := ha.len
  have hmk := run_makeL n (n : Int) rfl (by omega)
  have HA := Kp.mk ha
  have HB := Kp.mk hb
  have DA := Kp.mk da
  have DB := Kp.mk db
  have HM := Kp.mk (Lb.new w (zl n))
  have HXM := Kp.mk (show Ext w (w.alloc (.cells (lv (zl n)) ut)) from (by (repeat (first | assumption | exact Ext.refl _ | apply Ext.drew | apply Ext.drewN | apply Ext.alloc | refine Ext.trans ?_ (by assumption))); first | done | fail))
  have HZ := Kp.mk (zl_len n)
  have HO := Kp.mk (hb.outs (G := [w.heap.size]) (by simp))
  have HLE := Kp.mk hle
  clear ha hb da db hle
  generalize zl n = Z at *
  obtain ⟨w2, z, hcp, hL2, hm2⟩ := run_copy_L (K := a) (cd := n) 3 HM.out HZ.out (HA.out.ext HXM.out) (by rw [List.take_of_length_le (by omega), List.drop_eq_nil_of_le (by rw [HZ.out]; omega), List.append_nil])
  have hx2 : Ext w w2 := hm2.ext HXM.out (by simp)
  have HT := Kp.mk (takeFrom_any (pre := []) (post := []) (o := 0) (c := n) (k := 1) (by simpa using hL2) rfl hla (HB.out.ext hx2) HO.out DA.out DB.out hm hlim (by omega) (by omega))
  clear hL2
  go_enter Tryd.func24, Tryd.ntmps24
  go_wp2_with (first | (go_at_call 44; refine HT.out.mono ?_; rintro e w3 ⟨out, cr, rfl, hol, hod, hv, hL3, hm3⟩) | fail)
  have hx3 : Ext w w3 := hm3.ext hx2 (by simp)
  have hvv : vl BB out = vl BB a - vl BB b := by
    have h1 := vl_lt (by decide) hod
    rw [hol] at h1
    have h2 := HLE.out
    rcases Nat.eq_zero_or_pos cr with h | h
    · subst h
      omega
    · have h3 : BB ^ a.length * 1 ≤ BB ^ a.length * cr := Nat.mul_le_mul_left _ h
      omega
  have hown : Rw ut vL w3 w.heap.size (.slice (some ⟨w.heap.size, 0, none⟩) n n) n out := Lb.own (by simpa using hL3) (Nat.le_refl _) (by omega) (by unfold maxLen; omega)
  have HC := Kp.mk (FreshL.of_counted hown hod (by omega) hvv hx3)
  clear hm2 hx2 HT hv hL3 hm3 hod hown hvv hol
  go_wp2_with (first | (go_at_call 19; refine HC.out.mono ?_; rintro e w4 ⟨A4, n4, c4, rfl, ho4, hx4⟩) | fail)
  go_ret
  exact ⟨A4, n4, c4, rfl, ho4, hx4⟩
end Go.Proofs.YtpmoaccaknfodaaDoor
