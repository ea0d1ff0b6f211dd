/-
  rsa: what Sign and Hide answer, as values (for RsaStays).
-/
import Derived.Test.YticggkllfojgkaaDoorVUc
import Derived.Test.YticggkllfojgkaaDoorVGs
namespace Go.Proofs.YticggkllfojgkaaDoor
open Go Go.RowKit
set_option maxRecDepth 4000

/-- bytes of the call's own, and an error or none -/
def OutB (w : World) (E : Value) (L : List (BitVec 8)) (e : Ending) (w' : World) : Prop := ∃ A n c, e = .returned (.tuple #[.slice A n c, E]) ∧ Own w' w.heap.size (.slice A n c) n L ∧ Ext w w'
theorem OutB.ok {w : World} {n : Nat} {l : List (BitVec 8)} {e : Ending} {w' : World} (h : FreshE w n l e w') : OutB w .nilIface l e w' := by
  obtain ⟨A, c, h1, _, h3, h4⟩ := h
  exact ⟨A, n, c, h1, h3, h4⟩
theorem OutB.bad {w : World} {k : Int} {e : Ending} {w' : World} (h : BadB w k e w') : OutB w (err k) [] e w' := ⟨none, 0, 0, h.1, Own.nil _ _, h.2⟩
/-- an error, and whether it is none -/
structure Ern (E : Value) (b : Bool) : Prop where
  eq : ∀ w, (binOp .eql 32 E .nilIface).run Tryd.prog w = .ok (.bool b) w
  grd : ∀ (t : TypeId) (x : Operand) (v : Value) w, (eqGuard .eql t x (.const v) E .nilIface).run Tryd.prog w = .ok () w
theorem Ern.nil : Ern .nilIface true := ⟨eql_nil_nil, fun t x v w => by simp [eqGuard]⟩
theorem Ern.err (k : Int) : Ern (err k) false := ⟨eql_err_nil k, fun t x v w => by simp [eqGuard]⟩
/-- how Sign and Hide answer, wherever the same stands -/
structure Outs (lb lt lf : List (BitVec 8)) (vN vE vD : Nat) (ES EH : Value) (LX LC : List (BitVec 8)) (bS bH : Bool) : Prop where
  sign : ∀ {w : World} {A B D E : Option Addr} {n c m d k f p q : Nat}, Nv w A n c vN → Nv w B m d vE → Nv w D k f vD → Bs w E p q lb → p ≤ 1000000 → Lay w → Calls Tryd.prog 19 #[.agg #[.slice A n c, .slice B m d, .slice D k f], .slice E p q] w (OutB w ES LX)
  hide : ∀ {w : World} {A B E F : Option Addr} {n c m d p q y z : Nat}, Nv w A n c vN → Nv w B m d vE → Bs w E p q lt → Bs w F y z lf → p ≤ 1000000 → y ≤ 1000000 → Calls Tryd.prog 9 #[.agg #[.slice A n c, .slice B m d], .slice E p q, .slice F y z] w (OutB w EH LC)
  lx : LX.length ≤ 200
  lc : LC.length ≤ 200
  es : Ern ES bS
  eh : Ern EH bH
theorem outs_sign (lb : List (BitVec 8)) (vN vE vD : Nat) : ∃ ES LX bS, (∀ {w : World} {A B D E : Option Addr} {n c m d k f p q : Nat}, Nv w A n c vN → Nv w B m d vE → Nv w D k f vD → Bs w E p q lb → p ≤ 1000000 → Lay w → Calls Tryd.prog 19 #[.agg #[.slice A n c, .slice B m d, .slice D k f], .slice E p q] w (OutB w ES LX)) ∧ LX.length ≤ 200 ∧ Ern ES bS := by
  by_cases hp : SecOk vN vE vD
  · obtain ⟨r, hr⟩ := rs_laid (l := sgL (dgH lb) (nb vN)) (vn := vN) vD (sgL_len _ _ (dg_len _) (by have := hp.1.1; omega)) (sgL_head _ _)
    exact ⟨.nilIface, r, true, fun h1 h2 h3 h4 h5 h6 => (Sign_ok h1 h2 h3 h4 h6 h5 hp hr).mono fun _ _ => OutB.ok, by rw [rs_out hr]; have := hp.1.2.1; omega, Ern.nil⟩
  · exact ⟨_, [], false, fun h1 h2 h3 _ _ _ => (Sign_arg h1 h2 h3 hp).mono fun _ _ => OutB.bad, by simp, Ern.err 1⟩
theorem outs_hide (lt lf : List (BitVec 8)) (vN vE : Nat) : ∃ EH LC bH, (∀ {w : World} {A B E F : Option Addr} {n c m d p q y z : Nat}, Nv w A n c vN → Nv w B m d vE → Bs w E p q lt → Bs w F y z lf → p ≤ 1000000 → y ≤ 1000000 → Calls Tryd.prog 9 #[.agg #[.slice A n c, .slice B m d], .slice E p q, .slice F y z] w (OutB w EH LC)) ∧ LC.length ≤ 200 ∧ Ern EH bH := by
  by_cases hp : PubOk vN vE
  · by_cases g5 : nb vN < lt.length + 11
    · exact ⟨_, [], false, fun h1 h2 h3 h4 h5 h6 => (Hide_long h1 h2 h3 h4 h5 h6 hp (by rw [← h3.len]; exact g5)).mono fun _ _ => OutB.bad, by simp, Ern.err 4⟩
    · have hge := Nat.le_of_not_lt g5
      by_cases hbad : lf.length ≠ nb vN - 3 - lt.length ∨ fz lf < lf.length
      · exact ⟨_, [], false, fun h1 h2 h3 h4 h5 h6 => (Hide_fill h1 h2 h3 h4 h5 h6 hp (by rw [← h3.len]; exact hge) (by rw [← h3.len, ← h4.len]; exact hbad)).mono fun _ _ => OutB.bad, by simp, Ern.err 1⟩
      · have hy2 : lf.length = nb vN - 3 - lt.length := by
          rcases Nat.lt_trichotomy lf.length (nb vN - 3 - lt.length) with h | h | h
          · exact absurd (.inl (by omega)) hbad
          · exact h
          · exact absurd (.inl (by omega)) hbad
        have hz : fz lf = lf.length := by
          have h1 := fz_le lf
          rcases Nat.lt_or_ge (fz lf) lf.length with h | h
          · exact absurd (.inr h) hbad
          · omega
        obtain ⟨r, hr⟩ := rs_laid (l := hdL lf lt) (vn := vN) vE (by rw [hdL_len]; omega) (hdL_head _ _)
        exact ⟨_, r, true, fun h1 h2 h3 h4 h5 h6 => (Hide_ok h1 h2 h3 h4 h5 h6 hp (by rw [← h3.len]; exact hge) (by rw [← h3.len, ← h4.len]; exact hy2) hz hr).mono fun _ _ => OutB.ok, by rw [rs_out hr]; have := hp.2.1; omega, Ern.nil⟩
  · exact ⟨_, [], false, fun h1 h2 h3 h4 h5 h6 => (Hide_arg h1 h2 h3 h4 h5 h6 hp).mono fun _ _ => OutB.bad, by simp, Ern.err 1⟩
theorem outs (lb lt lf : List (BitVec 8)) (vN vE vD : Nat) : ∃ ES EH LX LC bS bH, Outs lb lt lf vN vE vD ES EH LX LC bS bH := by
  obtain ⟨ES, LX, bS, h1, h2, h3⟩ := outs_sign lb vN vE vD
  obtain ⟨EH, LC, bH, h4, h5, h6⟩ := outs_hide lt lf vN vE
  exact ⟨ES, EH, LX, LC, bS, bH, h1, h4, h2, h5, h3, h6⟩
end Go.Proofs.YticggkllfojgkaaDoor
