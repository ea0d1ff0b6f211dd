/-
  rsa: sizeOf, isOdd.
  rsa: publicMay, secretMay, factorMay, Check.
  The reference's fit.
  Long division digit by digit: what each round leaves; numbers told by slices of ints. No condition on the program.
-/
import Derived.Test.YtfipgmjaabggjaaDoorM12
import Derived.Test.YtfipgmjaabggjaaDoorM10
import Derived.Test.YtfipgmjaabggjaaDoorM11
namespace Go.Proofs.YtfipgmjaabggjaaDoor
open Go Go.RowKit
set_option maxRecDepth 4000

theorem nb_top {l : List Nat} {q : Nat} (hc : Cn BB l) (hl : l.length = q + 1) : nb (vl BB l) = 4 * q + (Lib.bitLen (dg l q) + 7) / 8 ∧ Lib.bitLen (dg l q) ≤ 32 ∧ dg l q < 4294967296 := by
  have h1 := hc.d.at32 q
  have hb := bitLen_hi (dg l q) h1
  have htop : dg l q ≠ 0 := by
    have h9 := top_dgs (V := vl BB l) (fun e => by
      have := cn_zero (B := BB) (by decide) hc e
      rw [this] at hl
      cases hl)
    unfold nl at h9
    rwa [dgs_vl (by decide) hc, hl, Nat.add_sub_cancel] at h9
  have hlo := bitLen_lo (dg l q) h1 htop
  have hs := vl_split BB l q (by omega)
  rw [List.drop_eq_nil_of_le (by omega)] at hs
  simp only [vl, Nat.mul_zero, Nat.add_zero] at hs
  have hv : nb (vl BB l) = (32 * q + Lib.bitLen (dg l q) + 7) / 8 := by
    refine nb_bits ?_ (fun _ => ?_) (fun e0 => ?_)
    · have h3 := vl_lt (by decide) (hc.d.take q)
      rw [List.length_take, Nat.min_eq_left (by omega)] at h3
      have h4 : BB ^ q * (dg l q + 1) ≤ BB ^ q * 2 ^ Lib.bitLen (dg l q) := Nat.mul_le_mul_left _ hb.1
      rw [Nat.mul_succ] at h4
      rw [Nat.pow_add, Nat.pow_mul, show (2 : Nat) ^ 32 = BB from rfl, hs]
      omega
    · rw [show 32 * q + Lib.bitLen (dg l q) - 1 = 32 * q + (Lib.bitLen (dg l q) - 1) by have := hlo.2; omega, Nat.pow_add, Nat.pow_mul, show (2 : Nat) ^ 32 = BB from rfl]
      have h4 : BB ^ q * 2 ^ (Lib.bitLen (dg l q) - 1) ≤ BB ^ q * dg l q := Nat.mul_le_mul_left _ hlo.1
      rw [hs]
      omega
    · exfalso
      have h4 : BB ^ q * 1 ≤ BB ^ q * dg l q := Nat.mul_le_mul_left _ (Nat.pos_of_ne_zero htop)
      have h5 : 0 < BB ^ q := Nat.pow_pos (by decide)
      omega
  exact ⟨by omega, hb.2, h1⟩
theorem nb_zero : nb 0 = 0 := rfl
/-- the limbs that count, and how many bytes they have -/
theorem nb_cut {l : List Nat} (hd : Dg BB l) {k : Nat} (hk : k + 1 ≤ l.length) (hz : ∀ i, k + 1 ≤ i → dg l i = 0) (ht : dg l k ≠ 0) :
    nb (vl BB l) = 4 * k + (Lib.bitLen (dg l k) + 7) / 8 ∧ Lib.bitLen (dg l k) ≤ 32 ∧ dg l k < 4294967296 := by
  have e := cut_cn (by decide) hd (k + 1) hk hz (.inr ht)
  have h := nb_top (l := l.take (k + 1)) (q := k) (by rw [e]; exact cn_dgs (by decide) _) (by rw [List.length_take]; omega)
  rw [dg_take l (k + 1) k (by omega), e, vl_dgs (by decide)] at h
  exact h
end Go.Proofs.YtfipgmjaabggjaaDoor
namespace Go.Proofs.YtfipgmjaabggjaaDoor
open Go Go.RowKit
set_option maxRecDepth 4000

theorem Nv.lit (w : World) (x : Nat) (a : Int) (ha : a = (x : Int)) (hx : x < 4294967296) (g : Nat) (hg : g = w.heap.size) : Nv (w.alloc (.cells #[.int .u32 a] ut)) (some ⟨g, 0, none⟩) 1 1 x := ⟨[x], In1.lit w x a ha hx g hg, vl_one x⟩
theorem cmpI_up {a b : Nat} (h : b ≤ a) : ∃ z, cmpI a b = z ∧ 0 ≤ z := ⟨_, rfl, by
  unfold cmpI
  rw [if_neg (by omega)]
  split <;> decide⟩
theorem cmpI_no {a b : Nat} (h : b ≤ a) : ∃ z, cmpI a b = z ∧ decide (z < 0) = false := by
  obtain ⟨z, h1, h2⟩ := cmpI_up h
  exact ⟨z, h1, decide_eq_false (by omega)⟩
/-- a struct's cells in a block -/
theorem box2 {w w' : World} {g t : Nat} {u v : Value} (h : Blk w g t #[u, v]) (hx : Ext w w') : w'.cell? ⟨g, 0, none⟩ = some u ∧ w'.cell? ⟨g, 1, none⟩ = some v := ⟨(h.ext hx).h.cell 0, (h.ext hx).h.cell 1⟩
theorem box3 {w w' : World} {g t : Nat} {u v y : Value} (h : Blk w g t #[u, v, y]) (hx : Ext w w') : w'.cell? ⟨g, 0, none⟩ = some u ∧ w'.cell? ⟨g, 1, none⟩ = some v ∧ w'.cell? ⟨g, 2, none⟩ = some y := ⟨(h.ext hx).h.cell 0, (h.ext hx).h.cell 1, (h.ext hx).h.cell 2⟩
/-- what a key says of itself, one behind the other -/
theorem pub_cases (vn ve : Nat) : (PubOk vn ve ∧ vn % 2 = 1 ∧ 62 ≤ nb vn ∧ nb vn ≤ 128 ∧ ve % 2 = 1 ∧ 3 ≤ ve ∧ ve < vn) ∨ (¬ PubOk vn ve ∧ vn % 2 ≠ 1) ∨ (¬ PubOk vn ve ∧ vn % 2 = 1 ∧ nb vn < 62) ∨ (¬ PubOk vn ve ∧ vn % 2 = 1 ∧ 62 ≤ nb vn ∧ 128 < nb vn) ∨
    (¬ PubOk vn ve ∧ vn % 2 = 1 ∧ 62 ≤ nb vn ∧ nb vn ≤ 128 ∧ ve % 2 ≠ 1) ∨ (¬ PubOk vn ve ∧ vn % 2 = 1 ∧ 62 ≤ nb vn ∧ nb vn ≤ 128 ∧ ve % 2 = 1 ∧ ve < 3) ∨ (¬ PubOk vn ve ∧ vn % 2 = 1 ∧ 62 ≤ nb vn ∧ nb vn ≤ 128 ∧ ve % 2 = 1 ∧ 3 ≤ ve ∧ vn ≤ ve) := by
  unfold PubOk
  omega
end Go.Proofs.YtfipgmjaabggjaaDoor
namespace Go.Proofs.YtfipgmjaabggjaaDoor
open Go Go.RowKit
set_option maxRecDepth 4000

/-- what fit tells: how often at least -/
def Fitted (w : World) (va vb : Nat) (e : Ending) (w' : World) : Prop := ∃ d : Nat, e = .returned (.int .i64 (d : Int)) ∧ 1 ≤ d ∧ d * vb ≤ va ∧ d < 65536 ∧ Ext w w'
theorem fit_lt {d va vb : Nat} (h : d * vb ≤ va) (hlt : va < 65536 * vb) : d < 65536 := by
  have h2 : d * vb < 65536 * vb := Nat.lt_of_le_of_lt h hlt
  exact Nat.lt_of_mul_lt_mul_right h2
/-- three digits over two, and one more -/
theorem fit_math {a b : List Nat} {q : Nat} (ca : Dg 65536 a) (hlb : b.length = q + 2) (db : Dg 65536 b) (hlt : vl 65536 a < 65536 * vl 65536 b) :
    ((dg a (q + 2) * 65536 + dg a (q + 1)) * 65536 + dg a q) / (dg b (q + 1) * 65536 + dg b q + 1) * vl 65536 b ≤ vl 65536 a := by
  have hb := vl_lt (by decide) (db.take q)
  rw [List.length_take, Nat.min_eq_left (by omega)] at hb
  have t0 : ∀ x, 65536 ^ (q + 1) * x = 65536 ^ q * x * 65536 := fun x => by rw [Nat.pow_succ, Nat.mul_right_comm]
  have t1 : ∀ x, 65536 ^ (q + 1 + 1) * x = 65536 ^ q * x * 65536 * 65536 := fun x => by rw [Nat.pow_succ, Nat.mul_assoc, Nat.mul_comm 65536 x, ← Nat.mul_assoc, t0]
  have e2 : vl 65536 b = vl 65536 (b.take q) + 65536 ^ q * (dg b (q + 1) * 65536 + dg b q) := by
    rw [← vl_take_all 65536 b (q + 2) (by omega), show q + 2 = q + 1 + 1 by omega, vl_take_succ, vl_take_succ, t0, Nat.mul_add, ← Nat.mul_assoc]
    omega
  refine fit_le (B := 65536) (hi := dg b (q + 1) * 65536 + dg b q) (rh := (dg a (q + 2) * 65536 + dg a (q + 1)) * 65536 + dg a q) q ?_ ?_ rfl
  · rw [e2, Nat.add_mul, Nat.one_mul, Nat.mul_comm (65536 ^ q)]
    omega
  · have e3 : vl 65536 (a.take (q + 3)) = vl 65536 (a.take q) + 65536 ^ q * ((dg a (q + 2) * 65536 + dg a (q + 1)) * 65536 + dg a q) := by
      rw [show q + 3 = q + 1 + 1 + 1 by omega, vl_take_succ, vl_take_succ, vl_take_succ, t1, t0, Nat.mul_add, ← Nat.mul_assoc, Nat.mul_add, ← Nat.mul_assoc, show q + 1 + 1 = q + 2 by omega]
      omega
    have e4 := congrArg (vl 65536) (List.take_append_drop (q + 3) a)
    rw [vl_append] at e4
    rw [Nat.mul_comm]
    omega
end Go.Proofs.YtfipgmjaabggjaaDoor
namespace Go.Proofs.YtfipgmjaabggjaaDoor
open Go Go.RowKit
set_option maxRecDepth 4000

/-- i digits are still to come -/
structure DivS (B : Nat) (a : List Nat) (vb i : Nat) (q : List Nat) (R : Nat) : Prop where
  len : q.length = a.length
  d : Dg B q
  z : ∀ j, j < i → dg q j = 0
  lt : R < vb
  v : vl B a = vl B q * vb + B ^ i * R + vl B (a.take i)
/-- while a digit is found -/
structure DivT (B : Nat) (a : List Nat) (vb k : Nat) (q : List Nat) (r d : Nat) : Prop where
  len : q.length = a.length
  dq : Dg B q
  z : ∀ j, j < k → dg q j = 0
  dk : dg q k = d
  lt : d * vb + r < B * vb
  v : vl B a = vl B q * vb + B ^ k * r + vl B (a.take k)
theorem DivS.start {B : Nat} (hB : 0 < B) (a : List Nat) {vb : Nat} (hb : 0 < vb) : DivS B a vb a.length (List.replicate a.length 0) 0 :=
  ⟨by simp, fun d hd => by rw [List.eq_of_mem_replicate hd]; exact hB, fun j _ => dg_zeros _ _, hb, by rw [vl_zeros, List.take_length]; simp⟩
theorem DivS.enter {B : Nat} {a q : List Nat} {vb k R : Nat} (ha : Dg B a) (hB : 0 < B) (h : DivS B a vb (k + 1) q R) : DivT B a vb k q (dg a k + B * R) 0 := by
  refine ⟨h.len, h.d, fun j hj => h.z j (by omega), h.z k (by omega), ?_, ?_⟩
  · have h1 := ha.at hB k
    have h2 : B * (R + 1) ≤ B * vb := Nat.mul_le_mul_left _ h.lt
    rw [Nat.mul_succ] at h2
    omega
  · have h1 := h.v
    rw [vl_take_succ, Nat.pow_succ, Nat.mul_assoc] at h1
    rw [h1, Nat.mul_add]
    omega
theorem DivT.next {B : Nat} {a q : List Nat} {vb k r d e : Nat} (hb : 0 < vb) (hk : k < a.length) (h : DivT B a vb k q r d) (he : e * vb ≤ r) : DivT B a vb k (q.set k (d + e)) (r - vb * e) (d + e) ∧ d + e < B := by
  have hlt : d + e < B := by
    have h1 : (d + e) * vb < B * vb := by rw [Nat.add_mul]; have := h.lt; omega
    exact Nat.lt_of_mul_lt_mul_right h1
  have hkq : k < q.length := by rw [h.len]; exact hk
  refine ⟨⟨by rw [List.length_set, h.len], h.dq.set k _ hlt, fun j hj => ?_, ?_, ?_, ?_⟩, hlt⟩
  · rw [dg_set _ _ _ _ hkq, if_neg (by omega)]
    exact h.z j hj
  · rw [dg_set _ _ _ _ hkq, if_pos rfl]
  · rw [Nat.add_mul]
    have h1 := h.lt
    rw [Nat.mul_comm e vb] at he ⊢
    omega
  · have h1 := vl_set B q k (d + e) hkq
    rw [h.dk, Nat.mul_add] at h1
    have h2 : vl B (q.set k (d + e)) = vl B q + B ^ k * e := by omega
    have h3 : B ^ k * r = B ^ k * (r - vb * e) + B ^ k * e * vb := by
      rw [Nat.mul_comm e vb] at he
      rw [Nat.mul_assoc, Nat.mul_comm e vb, ← Nat.mul_add, Nat.sub_add_cancel he]
    rw [h.v, h2, Nat.add_mul, h3]
    omega
theorem DivT.leave {B : Nat} {a q : List Nat} {vb k r d : Nat} (h : DivT B a vb k q r d) (hr : r < vb) : DivS B a vb k q r := ⟨h.len, h.dq, h.z, hr, h.v⟩
theorem DivS.done {B : Nat} {a q : List Nat} {vb R : Nat} (h : DivS B a vb 0 q R) : vl B q = vl B a / vb ∧ R = vl B a % vb := by
  have h1 := h.v
  rw [List.take_zero, Nat.pow_zero, Nat.one_mul] at h1
  simp only [vl, Nat.add_zero] at h1
  have h2 := (Nat.div_mod_unique (Nat.lt_of_le_of_lt (Nat.zero_le _) h.lt)).2 ⟨show R + vb * vl B q = vl B a by rw [h1, Nat.mul_comm]; omega, h.lt⟩
  exact ⟨h2.1.symm, h2.2.symm⟩
/-- two lists of digits that one slice reads as are one -/
theorem vI_inj {x y : Nat} (h : vI x = vI y) : x = y := by
  unfold vI at h
  injection h with _ h2
  omega
theorem Rd.uniqI {w : World} {A : Option Addr} {n c : Nat} {l l' : List Nat} (h : Rd vI w A n c l) (h' : Rd vI w A n c l') : l = l' := by
  refine List.ext_getElem? fun j => ?_
  by_cases hj : j < n
  · obtain ⟨g, o, ea, hc⟩ := h.at_ (by omega)
    obtain ⟨g', o', ea', hc'⟩ := h'.at_ (by omega)
    rw [ea] at ea'
    cases ea'
    have e1 := dg_in l j (by rw [h.len]; exact hj)
    have e2 := dg_in l' j (by rw [h'.len]; exact hj)
    have h1 := hc j _ e1
    rw [hc' j _ e2] at h1
    rw [e1, e2, vI_inj (Option.some.inj h1)]
  · rw [List.getElem?_eq_none (by rw [h.len]; omega), List.getElem?_eq_none (by rw [h'.len]; omega)]
/-- the number that a slice of ints reads as -/
noncomputable def rdI (w : World) (v : Value) : Nat := by
  classical
  exact if h : ∃ y : Nat, ∃ A n c, v = .slice A n c ∧ Rd vI w A n c (dgs 65536 y) then Classical.choose h else 0
theorem rdI_eq {w : World} {A : Option Addr} {n c y : Nat} (h : Rd vI w A n c (dgs 65536 y)) : rdI w (.slice A n c) = y := by
  have hh : ∃ y : Nat, ∃ A' n' c', Value.slice A n c = .slice A' n' c' ∧ Rd vI w A' n' c' (dgs 65536 y) := ⟨y, A, n, c, rfl, h⟩
  unfold rdI
  rw [dif_pos hh]
  obtain ⟨A', n', c', e, h'⟩ := Classical.choose_spec hh
  cases e
  have e2 := congrArg (vl 65536) (h'.uniqI h)
  rwa [vl_dgs (by decide), vl_dgs (by decide)] at e2
end Go.Proofs.YtfipgmjaabggjaaDoor
