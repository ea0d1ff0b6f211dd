/-
  Long division digit by digit: what each round leaves; numbers told by slices of ints. No condition on the program.
-/
import Derived.Test.YtpmoaccaknfodaaQa
namespace Go.Proofs.Ytpmoaccaknfodaa
open Go Go.RowKit

/-- i digits are still to come -/
structure DivS (B : Nat) (a : List Nat) (vb i : Nat) (q : List Nat) (R : Nat) : Prop where
  len : q.length = a.length
  d : Dg B q
  z : ∀ j, j < i → dg q j = 0
  lt : R < vb
  v : vl B a = vl B q * vb + B ^ i * R + vl B (a.take i)
/-- while a digit is found -/
structure DivT (B : Nat) (a : List Nat) (vb k : Nat) (q : List Nat) (r d : Nat) : Prop where
  len : q.length = a.length
  dq : Dg B q
  z : ∀ j, j < k → dg q j = 0
  dk : dg q k = d
  lt : d * vb + r < B * vb
  v : vl B a = vl B q * vb + B ^ k * r + vl B (a.take k)
theorem DivS.start {B : Nat} (hB : 0 < B) (a : List Nat) {vb : Nat} (hb : 0 < vb) : DivS B a vb a.length (List.replicate a.length 0) 0 :=
  ⟨by simp, fun d hd => by rw [List.eq_of_mem_replicate hd]; exact hB, fun j _ => dg_zeros _ _, hb, by rw [vl_zeros, List.take_length]; simp⟩
theorem DivS.enter {B : Nat} {a q : List Nat} {vb k R : Nat} (ha : Dg B a) (hB : 0 < B) (h : DivS B a vb (k + 1) q R) : DivT B a vb k q (dg a k + B * R) 0 := by
  refine ⟨h.len, h.d, fun j hj => h.z j (by omega), h.z k (by omega), ?_, ?_⟩
  · have h1 := ha.at hB k
    have h2 : B * (R + 1) ≤ B * vb := Nat.mul_le_mul_left _ h.lt
    rw [Nat.mul_succ] at h2
    omega
  · have h1 := h.v
    rw [vl_take_succ, Nat.pow_succ, Nat.mul_assoc] at h1
    rw [h1, Nat.mul_add]
    omega
theorem DivT.next {B : Nat} {a q : List Nat} {vb k r d e : Nat} (hb : 0 < vb) (hk : k < a.length) (h : DivT B a vb k q r d) (he : e * vb ≤ r) : DivT B a vb k (q.set k (d + e)) (r - vb * e) (d + e) ∧ d + e < B := by
  have hlt : d + e < B := by
    have h1 : (d + e) * vb < B * vb := by rw [Nat.add_mul]; have := h.lt; omega
    exact Nat.lt_of_mul_lt_mul_right h1
  have hkq : k < q.length := by rw [h.len]; exact hk
  refine ⟨⟨by rw [List.length_set, h.len], h.dq.set k _ hlt, fun j hj => ?_, ?_, ?_, ?_⟩, hlt⟩
  · rw [dg_set _ _ _ _ hkq, if_neg (by omega)]
    exact h.z j hj
  · rw [dg_set _ _ _ _ hkq, if_pos rfl]
  · rw [Nat.add_mul]
    have h1 := h.lt
    rw [Nat.mul_comm e vb] at he ⊢
    omega
  · have h1 := vl_set B q k (d + e) hkq
    rw [h.dk, Nat.mul_add] at h1
    have h2 : vl B (q.set k (d + e)) = vl B q + B ^ k * e := by omega
    have h3 : B ^ k * r = B ^ k * (r - vb * e) + B ^ k * e * vb := by
      rw [Nat.mul_comm e vb] at he
      rw [Nat.mul_assoc, Nat.mul_comm e vb, ← Nat.mul_add, Nat.sub_add_cancel he]
    rw [h.v, h2, Nat.add_mul, h3]
    omega
theorem DivT.leave {B : Nat} {a q : List Nat} {vb k r d : Nat} (h : DivT B a vb k q r d) (hr : r < vb) : DivS B a vb k q r := ⟨h.len, h.dq, h.z, hr, h.v⟩
theorem DivS.done {B : Nat} {a q : List Nat} {vb R : Nat} (h : DivS B a vb 0 q R) : vl B q = vl B a / vb ∧ R = vl B a % vb := by
  have h1 := h.v
  rw [List.take_zero, Nat.pow_zero, Nat.one_mul] at h1
  simp only [vl, Nat.add_zero] at h1
  have h2 := (Nat.div_mod_unique (Nat.lt_of_le_of_lt (Nat.zero_le _) h.lt)).2 ⟨show R + vb * vl B q = vl B a by rw [h1, Nat.mul_comm]; omega, h.lt⟩
  exact ⟨h2.1.symm, h2.2.symm⟩
/-- two lists of digits that one slice reads as are one -/
theorem vI_inj {x y : Nat} (h : vI x = vI y) : x = y := by
  unfold vI at h
  injection h with _ h2
  omega
theorem Rd.uniqI {w : World} {A : Option Addr} {n c : Nat} {l l' : List Nat} (h : Rd vI w A n c l) (h' : Rd vI w A n c l') : l = l' := by
  refine List.ext_getElem? fun j => ?_
  by_cases hj : j < n
  · obtain ⟨g, o, ea, hc⟩ := h.at_ (by omega)
    obtain ⟨g', o', ea', hc'⟩ := h'.at_ (by omega)
    rw [ea] at ea'
    cases ea'
    have e1 := dg_in l j (by rw [h.len]; exact hj)
    have e2 := dg_in l' j (by rw [h'.len]; exact hj)
    have h1 := hc j _ e1
    rw [hc' j _ e2] at h1
    rw [e1, e2, vI_inj (Option.some.inj h1)]
  · rw [List.getElem?_eq_none (by rw [h.len]; omega), List.getElem?_eq_none (by rw [h'.len]; omega)]
/-- the number that a slice of ints reads as -/
noncomputable def rdI (w : World) (v : Value) : Nat := by
  classical
  exact if h : ∃ y : Nat, ∃ A n c, v = .slice A n c ∧ Rd vI w A n c (dgs 65536 y) then Classical.choose h else 0
theorem rdI_eq {w : World} {A : Option Addr} {n c y : Nat} (h : Rd vI w A n c (dgs 65536 y)) : rdI w (.slice A n c) = y := by
  have hh : ∃ y : Nat, ∃ A' n' c', Value.slice A n c = .slice A' n' c' ∧ Rd vI w A' n' c' (dgs 65536 y) := ⟨y, A, n, c, rfl, h⟩
  unfold rdI
  rw [dif_pos hh]
  obtain ⟨A', n', c', e, h'⟩ := Classical.choose_spec hh
  cases e
  have e2 := congrArg (vl 65536) (h'.uniqI h)
  rwa [vl_dgs (by decide), vl_dgs (by decide)] at e2
end Go.Proofs.Ytpmoaccaknfodaa
