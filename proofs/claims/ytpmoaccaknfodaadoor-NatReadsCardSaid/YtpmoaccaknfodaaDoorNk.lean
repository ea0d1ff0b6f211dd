/-
  A digit of a quotient, guessed from the first digits (Knuth, D): never too small, at most one too great. No condition.
-/
import Derived.Test.YtpmoaccaknfodaaDoorNq
namespace Go.Proofs.YtpmoaccaknfodaaDoor
open Go

section
variable {B M u v h1 v1 v2 vr u2 ur qh rh : Nat}
/-- what is asked: v = (v1 B + v2) M + vr, u = (h1 B + u2) M + ur, h1 being u's two first digits; u below B times v -/
structure Kn (B M u v h1 v1 v2 vr u2 ur : Nat) : Prop where
  hv : v = (v1 * B + v2) * M + vr
  hr : vr < M
  hu : u = (h1 * B + u2) * M + ur
  hur : ur < M
  h2 : v2 < B
  hu2 : u2 < B
  h1 : 1 ≤ v1
theorem Kn.pos (k : Kn B M u v h1 v1 v2 vr u2 ur) : 0 < v := by
  have h := k.h1
  have hB : 0 < B := by have := k.h2; omega
  have hM : 0 < M := by have := k.hr; omega
  have h3 : 0 < (v1 * B + v2) * M := Nat.mul_pos (by have := Nat.mul_pos h hB; omega) hM
  rw [k.hv]; omega
/-- the guess by two digits over one is not too small -/
theorem Kn.lo (k : Kn B M u v h1 v1 v2 vr u2 ur) : u / v ≤ h1 / v1 := by
  have hB : 0 < B := by have := k.h2; omega
  have hM : 0 < M := by have := k.hr; omega
  refine (Nat.le_div_iff_mul_le k.h1).2 ?_
  have hq : u / v * v ≤ u := Nat.div_mul_le_self u v
  have a1 : u / v * (v1 * B * M) ≤ u / v * v := Nat.mul_le_mul_left _ (by rw [k.hv, Nat.add_mul]; omega)
  have a2 : u < (h1 + 1) * B * M := by
    have e : (h1 * B + u2 + 1) * M ≤ (h1 + 1) * B * M := Nat.mul_le_mul_right M (by rw [Nat.add_mul, Nat.one_mul]; have := k.hu2; omega)
    rw [Nat.add_mul, Nat.one_mul] at e
    have := k.hur
    rw [k.hu]; omega
  have a3 : u / v * v1 * (B * M) < (h1 + 1) * (B * M) := by
    rw [← Nat.mul_assoc (h1 + 1), Nat.mul_assoc (u / v), ← Nat.mul_assoc v1]
    omega
  have a4 := Nat.lt_of_mul_lt_mul_right a3
  omega
/-- a guess that fails the test is too great -/
theorem Kn.over (k : Kn B M u v h1 v1 v2 vr u2 ur) (hh : qh * v1 + rh = h1) (ht : B * rh + u2 < qh * v2) : u / v < qh := by
  refine (Nat.div_lt_iff_lt_mul k.pos).2 ?_
  have a1 : h1 * B + u2 + 1 ≤ qh * (v1 * B + v2) := by
    rw [← hh, Nat.add_mul, Nat.mul_add, Nat.mul_comm rh B, Nat.mul_assoc]
    omega
  have a2 := Nat.mul_le_mul_right M a1
  rw [Nat.add_mul, Nat.one_mul, Nat.mul_assoc] at a2
  have a3 : qh * ((v1 * B + v2) * M) ≤ qh * v := Nat.mul_le_mul_left qh (by rw [k.hv]; omega)
  have := k.hur
  rw [k.hu]
  omega
/-- a guess that passes it is at most one too great -/
theorem Kn.hi (k : Kn B M u v h1 v1 v2 vr u2 ur) (hh : qh * v1 + rh = h1) (ht : qh * v2 ≤ B * rh + u2) (hq : qh ≤ B) : qh ≤ u / v + 1 := by
  by_cases h0 : qh = 0
  · rw [h0]; exact Nat.zero_le _
  · obtain ⟨p, rfl⟩ : ∃ p, qh = p + 1 := ⟨qh - 1, by omega⟩
    have a1 : (p + 1) * (v1 * B + v2) ≤ h1 * B + u2 := by
      rw [← hh, Nat.add_mul ((p + 1) * v1), Nat.mul_add, Nat.mul_comm rh B, Nat.mul_assoc]
      omega
    have a2 := Nat.mul_le_mul_right M a1
    rw [Nat.add_mul p, Nat.one_mul, Nat.add_mul] at a2
    have a3 : p * vr ≤ (v1 * B + v2) * M := by
      have b1 : p ≤ v1 * B + v2 := by
        have b2 : 1 * B ≤ v1 * B := Nat.mul_le_mul_right B k.h1
        omega
      exact Nat.mul_le_mul b1 (Nat.le_of_lt k.hr)
    have a4 : p ≤ u / v := by
      refine (Nat.le_div_iff_mul_le k.pos).2 ?_
      rw [k.hv, Nat.mul_add, k.hu, ← Nat.mul_assoc]
      omega
    exact Nat.succ_le_succ a4
/-- .. and so is one whose rest has grown beyond a digit -/
theorem Kn.far (k : Kn B M u v h1 v1 v2 vr u2 ur) (hq : qh ≤ B) (hr : B ≤ rh) : qh * v2 ≤ B * rh + u2 := by
  have h := k.h2
  have a1 : qh * v2 ≤ B * B := Nat.mul_le_mul hq (Nat.le_of_lt h)
  have a2 : B * B ≤ B * rh := Nat.mul_le_mul_left B hr
  omega
end
end Go.Proofs.YtpmoaccaknfodaaDoor
