/-
  Numbers that are handed on, by their values; what the rows' readings give.
-/
import Derived.Test.YtpmoaccaknfodaaDoorOk
import Derived.Test.YtpmoaccaknfodaaDoorOpg
namespace Go.Proofs.YtpmoaccaknfodaaDoor
open Go Go.ChangeShapes Go.WideShapes Go.ChangeAt Go.RowKit

/-- a slice of limbs that reads as a number -/
def Nv (w : World) (A : Option Addr) (n c v : Nat) : Prop := ∃ a, In1 w A n c a ∧ vl BB a = v
theorem Nv.ext {w w' : World} {A : Option Addr} {n c v : Nat} (h : Nv w A n c v) (hx : Ext w w') : Nv w' A n c v := by
  obtain ⟨a, ha, e⟩ := h
  exact ⟨a, ha.ext hx, e⟩
theorem Nv.nil (w : World) : Nv w none 0 0 0 := ⟨[], ⟨Rd.nil w, Dg.nil _, by omega⟩, rfl⟩
theorem nl_le {v k : Nat} (h : v < BB ^ k) : nl v ≤ k := by
  by_cases h0 : v = 0
  · subst h0; exact Nat.zero_le _
  · have hc := cn_dgs (B := BB) (by decide) v
    have h1 := cn_lo (by decide) hc (fun e => h0 ((dgs_nil (by decide) v).1 e))
    rw [vl_dgs (by decide)] at h1
    show (dgs BB v).length ≤ k
    rcases Nat.lt_or_ge k (dgs BB v).length with h2 | h2
    · have h3 := Nat.pow_le_pow_right (n := BB) (by decide) (show k ≤ (dgs BB v).length - 1 by omega)
      omega
    · exact h2
theorem short_of {v k : Nat} (h : v < BB ^ k) (hk : k ≤ 64) : ¬ lng v := by
  have := nl_le h
  unfold lng
  omega
theorem Nv.of {w : World} {B n c v : Nat} {A : Option Addr} (h : Rw ut vL w B (.slice A n c) n (dgs BB v)) (hs : ¬ lng v) : Nv w A n c v := by
  refine ⟨dgs BB v, ⟨h.rd, (cn_dgs (by decide) v).d, ?_⟩, vl_dgs (by decide) v⟩
  have h1 := h.len
  have h2 : nl v ≤ 64 := Nat.le_of_not_lt hs
  unfold nl at h2
  omega
theorem Nv.small {w : World} {A : Option Addr} {n c : Nat} {a : List Nat} (h : Rd vL w A n c a) (hd : Dg BB a) (hn : n ≤ 1000000) : Nv w A n c (vl BB a) := ⟨a, ⟨h, hd, hn⟩, rfl⟩
theorem vl_len {w : World} {A : Option Addr} {n c : Nat} {a : List Nat} (h : Rd vL w A n c a) (hd : Dg BB a) : vl BB a < BB ^ n := by
  have := vl_lt (by decide) hd
  rwa [h.len] at this
theorem lt_add {x y j k m : Nat} (hx : x < BB ^ j) (hy : y < BB ^ k) (hj : j < m) (hk : k < m) : x + y < BB ^ m := by
  obtain ⟨q, rfl⟩ : ∃ q, m = q + 1 := ⟨m - 1, by omega⟩
  have h1 : BB ^ j ≤ BB ^ q := Nat.pow_le_pow_right (by decide) (by omega)
  have h2 : BB ^ k ≤ BB ^ q := Nat.pow_le_pow_right (by decide) (by omega)
  have h3 : BB ^ q * 2 ≤ BB ^ q * BB := Nat.mul_le_mul_left _ (by decide)
  rw [Nat.pow_succ]
  omega
theorem lt_mul {x y j k m : Nat} (hx : x < BB ^ j) (hy : y < BB ^ k) (hm : j + k ≤ m) : x * y < BB ^ m := by
  have h1 : x * y < BB ^ j * BB ^ k := Nat.mul_lt_mul_of_lt_of_le hx (Nat.le_of_lt hy) (Nat.pow_pos (by decide))
  rw [← Nat.pow_add] at h1
  exact Nat.lt_of_lt_of_le h1 (Nat.pow_le_pow_right (by decide) hm)
theorem cmpI_same {a b : Nat} (h : a = b) : cmpI a b = 0 := by rw [h, cmpI_eq]
section
variable {w : World} {A B E : Option Addr} {n c m d k ec va vb ve : Nat}
theorem SubV (ha : Nv w A n c va) (hb : Nv w B m d vb) (h1 : ¬ lng va) (h2 : ¬ lng vb) (h : vb ≤ va) : Calls Tryd.prog 12 #[.slice A n c, .slice B m d] w (Ok1 w (va - vb)) := by
  obtain ⟨a, ha, rfl⟩ := ha
  obtain ⟨b, hb, rfl⟩ := hb
  exact Sub_ok ha hb h1 h2 h
theorem SubVlow (ha : Nv w A n c va) (hb : Nv w B m d vb) (h1 : ¬ lng va) (h2 : ¬ lng vb) (h : va < vb) : Calls Tryd.prog 12 #[.slice A n c, .slice B m d] w (Bad1 w 1) := by
  obtain ⟨a, ha, rfl⟩ := ha
  obtain ⟨b, hb, rfl⟩ := hb
  exact Sub_low ha hb h1 h2 h
theorem DivV (ha : Nv w A n c va) (hb : Nv w B m d vb) (h1 : ¬ lng va) (h2 : ¬ lng vb) (h : vb ≠ 0) : Calls Tryd.prog 9 #[.slice A n c, .slice B m d] w (Ok2 w (va / vb) (va % vb)) := by
  obtain ⟨a, ha, rfl⟩ := ha
  obtain ⟨b, hb, rfl⟩ := hb
  exact Div_ok ha hb h1 h2 h
theorem DivV0 (ha : Nv w A n c va) (hb : Nv w B m d 0) (h1 : ¬ lng va) : Calls Tryd.prog 9 #[.slice A n c, .slice B m d] w (Bad2 w 1) := by
  obtain ⟨a, ha, rfl⟩ := ha
  obtain ⟨b, hb, h⟩ := hb
  exact Div_zero ha hb h1 h
theorem ExpV (ha : Nv w A n c va) (he : Nv w E k ec ve) (hb : Nv w B m d vb) (h1 : ¬ lng va) (h2 : ¬ lng ve) (h3 : ¬ lng vb) (h : vb ≠ 0) : Calls Tryd.prog 10 #[.slice A n c, .slice E k ec, .slice B m d] w (Ok1 w (va ^ ve % vb)) := by
  obtain ⟨a, ha, rfl⟩ := ha
  obtain ⟨b, hb, rfl⟩ := hb
  obtain ⟨x, he, rfl⟩ := he
  exact Exp_ok ha he hb h1 h2 h3 h
theorem ExpV0 (ha : Nv w A n c va) (he : Nv w E k ec ve) (hb : Nv w B m d 0) (h1 : ¬ lng va) (h2 : ¬ lng ve) : Calls Tryd.prog 10 #[.slice A n c, .slice E k ec, .slice B m d] w (Bad1 w 1) := by
  obtain ⟨a, ha, rfl⟩ := ha
  obtain ⟨b, hb, h⟩ := hb
  obtain ⟨x, he, rfl⟩ := he
  exact Exp_zero ha he hb h1 h2 h
theorem InvV (ha : Nv w A n c va) (hb : Nv w B m d vb) (h1 : ¬ lng va) (h2 : ¬ lng vb) (h : 2 ≤ vb) : Calls Tryd.prog 11 #[.slice A n c, .slice B m d] w (InvR w va vb) := by
  obtain ⟨a, ha, rfl⟩ := ha
  obtain ⟨b, hb, rfl⟩ := hb
  exact Inv_ok ha hb h1 h2 h
theorem InvVlow (ha : Nv w A n c va) (hb : Nv w B m d vb) (h1 : ¬ lng va) (h2 : ¬ lng vb) (h : vb < 2) : Calls Tryd.prog 11 #[.slice A n c, .slice B m d] w (Bad1 w 1) := by
  obtain ⟨a, ha, rfl⟩ := ha
  obtain ⟨b, hb, rfl⟩ := hb
  exact Inv_low ha hb h1 h2 h
theorem CmpV (ha : Nv w A n c va) (hb : Nv w B m d vb) (z : Int) (hz : cmpI va vb = z) : Calls Tryd.prog 22 #[.slice A n c, .slice B m d] w fun e w' => e = .returned (.int .i64 z) ∧ Ext w w' := by
  obtain ⟨a, ha, rfl⟩ := ha
  obtain ⟨b, hb, rfl⟩ := hb
  subst hz
  exact CmpN_any ha.r hb.r ha.d hb.d (by have := ha.n; omega) (by have := hb.n; omega)
end
/-- a slice of limbs that came in -/
theorem open_nat {H : Type} {enc : TypeId × Value → H} {P : Program} {w : World} {held : Bool} {t e base' : Nat} {v : Value} {d : DataW H} {p : List MemPlace} (ht : P.underlying t = some (.slice e)) (he : P.underlying e = some (.int .u32)) (hce : P.cellsOf e = 1)
    (hv : Value.okWide P w .any base' t v) (h : DataW.Trod enc P w 0 (fun _ => true) held t v d p) : ∃ A n c l, v = .slice A n c ∧ Rd vL w A n c l ∧ Dg BB l ∧ c ≤ maxLen := by
  obtain ⟨a0, len, cap, rfl⟩ := okWide_slice ht hv
  obtain ⟨fuel, hf⟩ := h
  rcases open_ints ht he hce hf with ⟨hcs, _⟩ | ⟨a, len', cap', zs, hcs, _, hl, hm, hz, _, hcell, hwz⟩
  · simp [Value.cells] at hcs
    obtain ⟨rfl, rfl, rfl⟩ := hcs
    exact ⟨none, 0, 0, [], rfl, Rd.nil _, Dg.nil _, Nat.zero_le _⟩
  · simp [Value.cells] at hcs
    obtain ⟨rfl, rfl, rfl⟩ := hcs
    simp only [if_true] at hz
    refine ⟨some a, len, cap, (zs.map Int.toNat).take len, rfl, ⟨by rw [List.length_take, List.length_map]; omega, hl, (fun e => by cases e), fun hn => ?_⟩, fun x hx => ?_, hm⟩
    · obtain ⟨b, off, rfl, hc⟩ := ints_at hcell (by omega)
      refine ⟨b, off, rfl, fun j x hj => ?_⟩
      have hjn : j < len := by have := (List.getElem?_eq_some_iff.1 hj).1; rw [List.length_take] at this; omega
      rw [hc j (by omega)]
      rw [List.getElem?_take, if_pos hjn, List.getElem?_map, List.getElem?_eq_getElem (by omega)] at hj
      have hb := bounds_u32 (hwz zs[j] (List.getElem_mem (by omega)))
      cases hj
      simp only [List.getD_eq_getElem?_getD, List.getElem?_eq_getElem (show j < zs.length by omega), Option.getD_some, vL]
      congr 2
      omega
    · obtain ⟨y, hy, rfl⟩ := List.mem_map.1 (List.mem_of_mem_take hx)
      have hb := bounds_u32 (hwz y hy)
      show y.toNat < 4294967296
      omega
end Go.Proofs.YtpmoaccaknfodaaDoor
