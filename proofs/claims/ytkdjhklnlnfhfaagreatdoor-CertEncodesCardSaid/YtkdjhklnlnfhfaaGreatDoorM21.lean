/-
  nat: Inv; Write of what doesn't fit.
  The laws' head: up, one, light.
  What the rows' readings give the walks: arrays of words and of bytes, slices of bytes.
  Numbers that are handed on, by their values; what the rows' readings give.
-/
import Derived.Test.YtkdjhklnlnfhfaaGreatDoorM20
import Derived.Test.YtkdjhklnlnfhfaaGreatDoorRows
import Derived.Test.YtkdjhklnlnfhfaaGreatDoorM0
import Derived.ProofKit
import Derived.LaidMore
import Derived.OpenShut
import Derived.Lay
import Derived.MakeChecks
import Derived.ChangeOld
import Derived.Stop.Joined
import Derived.SizedLaws
namespace Go.Proofs.YtkdjhklnlnfhfaaGreatDoor
open Go Go.RowKit
set_option maxRecDepth 4000

section
variable {w : World} {A B : Option Addr} {n c m d : Nat} {a b : List Nat}
/-- what is told of what makes 1 -/
def InvR (w : World) (va vm : Nat) (e : Ending) (w' : World) : Prop :=
  (Nat.gcd vm va = 1 ∧ Ok1 w (invN va vm) e w') ∨ (Nat.gcd vm va ≠ 1 ∧ Bad1 w 13 e w')
/-- a number that has more bits than fit into 1 byte -/
theorem bitsOf_lo {l : List Nat} (h : 256 ≤ vl BB l) {k : Nat} (hk : vl BB l < 2 ^ k) : 9 ≤ k := by
  rcases Nat.lt_or_ge k 9 with h1 | h1
  · have := Nat.pow_le_pow_right (n := 2) (by decide) (show k ≤ 8 by omega)
    omega
  · exact h1
theorem Write_low (ha : In1 w A n c a) (h1 : ¬ lng (vl BB a)) (hv : 256 ≤ vl BB a) : Calls Tryz.prog 124 #[.slice A n c, .int .i64 1] w fun e w' => e = .returned (.tuple #[.slice none 0 0, err 1]) ∧ Ext w w' := by
  have C := Kp.mk (anyLong_at w nt [⟨A, n, c, a⟩] #[.slice A n c] rfl 1 rfl (by omega) (by simp [ha.ok]) false (by simp [h1]))
  have hx : Ext w (w.alloc (.cells #[.slice A n c] nt)) := (by (repeat (first | assumption | exact Ext.refl _ | apply Ext.drew | apply Ext.drewN | apply Ext.alloc | refine Ext.trans ?_ (by assumption))); first | done | fail)
  have C1 := Kp.mk (ha.ext hx).counted
  have HL := Kp.mk (show nl (vl BB a) ≤ 64 from Nat.le_of_not_lt h1)
  have HX := Kp.mk hx
  have HV := Kp.mk hv
  generalize vl BB a = va at *
  clear ha h1 hx hv
  go_enter Tryz.func124, Tryz.ntmps124
  go_wp2_with fail
  refine C.out.mono ?_
  rintro e w1 ⟨rfl, hw1⟩
  rw [← hw1] at C1 HX
  clear hw1
  go_wp2_with fail
  refine C1.out.mono ?_
  rintro e w2 ⟨rfl, _, r1, rfl⟩
  have C2 := Kp.mk (bitsOf_any r1 (cn_dgs (by decide) va).d (by have := HL.out; omega))
  clear r1 C1
  go_wp2_with fail
  refine C2.out.mono ?_
  rintro e w3 ⟨k, rfl, hk, hk2, rfl⟩
  have hk9 := bitsOf_lo (by rw [vl_dgs (by decide)]; exact HV.out) hk
  have b1 : (1 : Int) < ((k : Int) + 7) / 8 := by omega
  have b2 : (k : Int) < 100000 := by have := HL.out; omega
  clear hk hk2 hk9
  go_wp2_with fail
  go_ret2
  exact ⟨rfl, HX.out⟩
end
end Go.Proofs.YtkdjhklnlnfhfaaGreatDoor
namespace Go.Proofs.YtkdjhklnlnfhfaaGreatDoor
open Go Go.RowKit
set_option maxRecDepth 4000

theorem nl_small {x : Nat} (h : x < 4294967296) : nl x ≤ 1 := by
  by_cases h0 : x = 0
  · subst h0; exact Nat.zero_le _
  · rw [nl_eq (L := 0) (by rw [Nat.pow_zero]; omega) (by rw [Nat.zero_add, Nat.pow_one]; exact h)]
    exact Nat.le_refl _
theorem In1.lit (w : World) (x : Nat) (a : Int) (ha : a = (x : Int)) (hx : x < 4294967296) (g : Nat) (hg : g = w.heap.size) : In1 (w.alloc (.cells #[.int .u32 a] ut)) (some ⟨g, 0, none⟩) 1 1 [x] := by
  subst hg ha
  exact ⟨(lit_lb w [x] w.heap.size rfl).whole 1 1 rfl (Nat.le_refl _), Dg.one hx, by omega⟩
theorem lit_short {x : Nat} (hx : x < 4294967296) : ¬ lng (vl BB [x]) := by
  rw [show vl BB [x] = x by simp [vl]]
  unfold lng
  have := nl_small hx
  omega
theorem vl_one (x : Nat) : vl BB [x] = x := by simp [vl]
end Go.Proofs.YtkdjhklnlnfhfaaGreatDoor
namespace Go.Proofs.YtkdjhklnlnfhfaaGreatDoor
open Go Go.ChangeShapes Go.WideShapes Go.ChangeAt Go.RowKit
set_option maxRecDepth 4000

theorem ownKnob_none : ownKnob Tryz.prog.godebug = none := by kernel_rfl
theorem laidOut : laidOutB Tryz.prog = true := by kernel_rfl

section
variable {H : Type} {enc : TypeId × Value → H} {P : Program} {w : World} {base : Nat} {spare : Nat → Bool} {held : Bool}
theorem wf_u32 {n : Int} (h : (Lit.int .u32 n).wf = true) : ∃ x : BitVec 32, n = un x := by
  have hb := bounds_u32 h
  refine ⟨BitVec.ofNat 32 n.toNat, ?_⟩
  rw [un_ofNat _ (by omega)]; omega
theorem wf_u8 {n : Int} (h : (Lit.int .u8 n).wf = true) : ∃ x : BitVec 8, n = ub x := by
  have hb := bounds_u8 h
  refine ⟨BitVec.ofNat 8 n.toNat, ?_⟩
  rw [ub_ofNat]; omega
/-- cells that read as integers -/
theorem list_of_cells {α : Type} (f : α → Value) : ∀ (n : Nat) (cs : List Value), cs.length = n → (∀ i, i < n → ∃ x, cs[i]? = some (f x)) → ∃ l : List α, cs = l.map f ∧ l.length = n
  | 0, [], _, _ => ⟨[], rfl, rfl⟩
  | n + 1, c :: cs, hl, h => by
    obtain ⟨x, hx⟩ := h 0 (by omega)
    obtain ⟨l, rfl, hl2⟩ := list_of_cells f n cs (by simpa using hl) (fun i hi => by
      obtain ⟨y, hy⟩ := h (i + 1) (by omega)
      exact ⟨y, by simpa using hy⟩)
    have e : c = f x := by simpa using hx
    exact ⟨x :: l, by rw [e]; rfl, by simp [hl2]⟩
  | 0, _ :: _, hl, _ => by simp at hl
  | _ + 1, [], hl, _ => by simp at hl
theorem words_of_trod {t e n fuel : Nat} {cs : List Value} {x : DataW H × List MemPlace} (ht : P.underlying t = some (.array n e)) (he : P.underlying e = some (.int .u32)) (hce : P.cellsOf e = 1) (hct : P.cellsOf t = n)
    (h : DataW.trod enc P w base spare held fuel t cs = some x) : ∃ l : List (BitVec 32), cs = l.map vu ∧ l.length = n := by
  obtain ⟨xs, m, _, _, hl, hn, hel⟩ := DataW.trod_array ht h
  refine list_of_cells vu n cs (hl.trans hct) fun i hi => ?_
  have hE := hel i hi
  rw [hce, Nat.mul_one, List.getElem?_eq_getElem (by omega)] at hE
  obtain ⟨z, e1, _, hw⟩ := DataW.trod_int he hE
  obtain ⟨y, rfl⟩ := wf_u32 hw
  refine ⟨y, ?_⟩
  have := congrArg (fun q : List Value => q[0]?) e1
  simpa [List.getElem?_take, List.getElem?_drop] using this
theorem bytes_of_trod {t e n fuel : Nat} {cs : List Value} {x : DataW H × List MemPlace} (ht : P.underlying t = some (.array n e)) (he : P.underlying e = some (.int .u8)) (hce : P.cellsOf e = 1) (hct : P.cellsOf t = n)
    (h : DataW.trod enc P w base spare held fuel t cs = some x) : ∃ l : List (BitVec 8), cs = l.map vb ∧ l.length = n := by
  obtain ⟨xs, m, _, _, hl, hn, hel⟩ := DataW.trod_array ht h
  refine list_of_cells vb n cs (hl.trans hct) fun i hi => ?_
  have hE := hel i hi
  rw [hce, Nat.mul_one, List.getElem?_eq_getElem (by omega)] at hE
  obtain ⟨z, e1, _, hw⟩ := DataW.trod_int he hE
  obtain ⟨y, rfl⟩ := wf_u8 hw
  refine ⟨y, ?_⟩
  have := congrArg (fun q : List Value => q[0]?) e1
  simpa [List.getElem?_take, List.getElem?_drop] using this
/-- an array of words by value -/
theorem open_words {t e n base' : Nat} {v : Value} {d : DataW H} {p : List MemPlace} (ht : P.underlying t = some (.array n e)) (he : P.underlying e = some (.int .u32)) (hce : P.cellsOf e = 1) (hct : P.cellsOf t = n)
    (hv : Value.okWide P w .any base' t v) (h : DataW.Trod enc P w base spare held t v d p) : ∃ l : List (BitVec 32), v = .agg (wv l) ∧ l.length = n := by
  obtain ⟨cs, rfl, _, _⟩ : ∃ cs, v = .agg cs ∧ cs.size = P.cellsOf t ∧ Row.okWide P w .any base' t cs := by
    simpa [Value.okWide, ht] using hv
  obtain ⟨fuel, hf⟩ := h
  obtain ⟨l, e1, hl⟩ := words_of_trod ht he hce hct hf
  refine ⟨l, ?_, hl⟩
  congr 1
  apply Array.ext'
  simpa [wv, Value.cells] using e1
/-- an array of bytes by value -/
theorem open_block {t e n base' : Nat} {v : Value} {d : DataW H} {p : List MemPlace} (ht : P.underlying t = some (.array n e)) (he : P.underlying e = some (.int .u8)) (hce : P.cellsOf e = 1) (hct : P.cellsOf t = n)
    (hv : Value.okWide P w .any base' t v) (h : DataW.Trod enc P w base spare held t v d p) : ∃ l : List (BitVec 8), v = .agg (bv l) ∧ l.length = n := by
  obtain ⟨cs, rfl, _, _⟩ : ∃ cs, v = .agg cs ∧ cs.size = P.cellsOf t ∧ Row.okWide P w .any base' t cs := by
    simpa [Value.okWide, ht] using hv
  obtain ⟨fuel, hf⟩ := h
  obtain ⟨l, e1, hl⟩ := bytes_of_trod ht he hce hct hf
  refine ⟨l, ?_, hl⟩
  congr 1
  apply Array.ext'
  simpa [bv, Value.cells] using e1
/-- a slice of bytes that came in -/
theorem open_bytes {t e base' : Nat} {v : Value} {d : DataW H} {p : List MemPlace} (ht : P.underlying t = some (.slice e)) (he : P.underlying e = some (.int .u8)) (hce : P.cellsOf e = 1)
    (hv : Value.okWide P w .any base' t v) (h : DataW.Trod enc P w 0 (fun _ => true) held t v d p) : ∃ A n c l, v = .slice A n c ∧ Sl w A n c l ∧ c ≤ maxLen := by
  obtain ⟨a0, len, cap, rfl⟩ := okWide_slice ht hv
  obtain ⟨fuel, hf⟩ := h
  rcases open_ints ht he hce hf with ⟨hcs, _⟩ | ⟨a, len', cap', zs, hcs, _, hl, hm, hz, _, hcell, hwz⟩
  · simp [Value.cells] at hcs
    obtain ⟨rfl, rfl, rfl⟩ := hcs
    exact ⟨none, 0, 0, [], rfl, Sl.nil _, Nat.zero_le _⟩
  · simp [Value.cells] at hcs
    obtain ⟨rfl, rfl, rfl⟩ := hcs
    simp only [if_true] at hz
    have hx : ∀ i, i < zs.length → ∃ x : BitVec 8, (zs.map (Value.int .u8))[i]? = some (vb x) := fun i hi => by
      obtain ⟨y, hy⟩ := wf_u8 (hwz _ (List.getElem_mem hi))
      exact ⟨y, by simp [hi, hy]⟩
    obtain ⟨l, hl1, hl2⟩ := list_of_cells vb zs.length (zs.map (Value.int .u8)) (by simp) hx
    refine ⟨some a, len, cap, l.take len, rfl, ⟨by rw [List.length_take]; omega, hl, (fun e => by cases e), fun hn => ?_⟩, hm⟩
    obtain ⟨b, off, rfl, hc⟩ := ints_at hcell (by omega)
    refine ⟨b, off, rfl, fun j hj => ?_⟩
    rw [gb_take _ _ _ hj, hc j (by omega)]
    have e1 := congrArg (fun q : List Value => q[j]?) hl1
    have hjz : j < zs.length := by omega
    have hjl : j < l.length := by omega
    simp only [List.getElem?_map, List.getElem?_eq_getElem hjz, List.getElem?_eq_getElem hjl, Option.map_some] at e1
    simp only [List.getD_eq_getElem?_getD, List.getElem?_eq_getElem hjz, Option.getD_some, e1]
    simp [gb, hjl]
/-- a slice of bytes that came in, with what its data weighs -/
theorem open_bytes_z {t e base' : Nat} {v : Value} {d : DataW H} {p : List MemPlace} (ht : P.underlying t = some (.slice e)) (he : P.underlying e = some (.int .u8)) (hce : P.cellsOf e = 1)
    (hv : Value.okWide P w .any base' t v) (h : DataW.Trod enc P w 0 (fun _ => true) held t v d p) : ∃ A n c l, v = .slice A n c ∧ Sl w A n c l ∧ c ≤ maxLen ∧ (n = 0 ∨ ∃ es ss, d = .slice es ss ∧ n ≤ es.length + ss.length) := by
  obtain ⟨A, n, c, l, rfl, hs, hm⟩ := open_bytes ht he hce hv h
  refine ⟨A, n, c, l, rfl, hs, hm, ?_⟩
  obtain ⟨fuel, hf⟩ := h
  rcases open_ints ht he hce hf with ⟨hcs, _⟩ | ⟨a, len', cap', zs, hcs, _, hl, _, hz, hx, _, _⟩
  · simp [Value.cells] at hcs
    exact .inl hcs.2.1
  · simp [Value.cells] at hcs
    obtain ⟨rfl, rfl, rfl⟩ := hcs
    simp only [if_true] at hz
    refine .inr ⟨_, _, (congrArg Prod.fst hx), ?_⟩
    simp only [lits, List.length_map, List.length_take, List.length_drop]
    omega
theorem sized_bytes {ts : List TypeId} {ds : List (DataW H)} (h : (DataW.weightsEach P ts ds).all (· ≤ reachBytes) = true) {j t e n : Nat} {d : DataW H} (ht : ts[j]? = some t) (hd : ds[j]? = some d) (hu : P.underlying t = some (.slice e)) (hb : P.bytesOf e = 1)
    (hq : n = 0 ∨ ∃ es ss, d = .slice es ss ∧ n ≤ es.length + ss.length) : n ≤ 140737488355328 := by
  rcases hq with rfl | ⟨es, ss, rfl, hn⟩
  · omega
  · have h1 := sized_slice h ht hd hu
    have h2 := reachBytes_lt
    rw [hb] at h1
    omega
end
end Go.Proofs.YtkdjhklnlnfhfaaGreatDoor
namespace Go.Proofs.YtkdjhklnlnfhfaaGreatDoor
open Go Go.ChangeShapes Go.WideShapes Go.ChangeAt Go.RowKit
set_option maxRecDepth 4000

/-- a slice of limbs that reads as a number -/
def Nv (w : World) (A : Option Addr) (n c v : Nat) : Prop := ∃ a, In1 w A n c a ∧ vl BB a = v
theorem Nv.ext {w w' : World} {A : Option Addr} {n c v : Nat} (h : Nv w A n c v) (hx : Ext w w') : Nv w' A n c v := by
  obtain ⟨a, ha, e⟩ := h
  exact ⟨a, ha.ext hx, e⟩
theorem Nv.nil (w : World) : Nv w none 0 0 0 := ⟨[], ⟨Rd.nil w, Dg.nil _, by omega⟩, rfl⟩
theorem nl_le {v k : Nat} (h : v < BB ^ k) : nl v ≤ k := by
  by_cases h0 : v = 0
  · subst h0; exact Nat.zero_le _
  · have hc := cn_dgs (B := BB) (by decide) v
    have h1 := cn_lo (by decide) hc (fun e => h0 ((dgs_nil (by decide) v).1 e))
    rw [vl_dgs (by decide)] at h1
    show (dgs BB v).length ≤ k
    rcases Nat.lt_or_ge k (dgs BB v).length with h2 | h2
    · have h3 := Nat.pow_le_pow_right (n := BB) (by decide) (show k ≤ (dgs BB v).length - 1 by omega)
      omega
    · exact h2
theorem short_of {v k : Nat} (h : v < BB ^ k) (hk : k ≤ 64) : ¬ lng v := by
  have := nl_le h
  unfold lng
  omega
theorem Nv.of {w : World} {B n c v : Nat} {A : Option Addr} (h : Rw ut vL w B (.slice A n c) n (dgs BB v)) (hs : ¬ lng v) : Nv w A n c v := by
  refine ⟨dgs BB v, ⟨h.rd, (cn_dgs (by decide) v).d, ?_⟩, vl_dgs (by decide) v⟩
  have h1 := h.len
  have h2 : nl v ≤ 64 := Nat.le_of_not_lt hs
  unfold nl at h2
  omega
theorem Nv.small {w : World} {A : Option Addr} {n c : Nat} {a : List Nat} (h : Rd vL w A n c a) (hd : Dg BB a) (hn : n ≤ 1000000) : Nv w A n c (vl BB a) := ⟨a, ⟨h, hd, hn⟩, rfl⟩
theorem vl_len {w : World} {A : Option Addr} {n c : Nat} {a : List Nat} (h : Rd vL w A n c a) (hd : Dg BB a) : vl BB a < BB ^ n := by
  have := vl_lt (by decide) hd
  rwa [h.len] at this
theorem lt_add {x y j k m : Nat} (hx : x < BB ^ j) (hy : y < BB ^ k) (hj : j < m) (hk : k < m) : x + y < BB ^ m := by
  obtain ⟨q, rfl⟩ : ∃ q, m = q + 1 := ⟨m - 1, by omega⟩
  have h1 : BB ^ j ≤ BB ^ q := Nat.pow_le_pow_right (by decide) (by omega)
  have h2 : BB ^ k ≤ BB ^ q := Nat.pow_le_pow_right (by decide) (by omega)
  have h3 : BB ^ q * 2 ≤ BB ^ q * BB := Nat.mul_le_mul_left _ (by decide)
  rw [Nat.pow_succ]
  omega
theorem lt_mul {x y j k m : Nat} (hx : x < BB ^ j) (hy : y < BB ^ k) (hm : j + k ≤ m) : x * y < BB ^ m := by
  have h1 : x * y < BB ^ j * BB ^ k := Nat.mul_lt_mul_of_lt_of_le hx (Nat.le_of_lt hy) (Nat.pow_pos (by decide))
  rw [← Nat.pow_add] at h1
  exact Nat.lt_of_lt_of_le h1 (Nat.pow_le_pow_right (by decide) hm)
theorem cmpI_same {a b : Nat} (h : a = b) : cmpI a b = 0 := by rw [h, cmpI_eq]
section
variable {w : World} {A B E : Option Addr} {n c m d k ec va vb ve : Nat}
theorem ExpV (ha : Nv w A n c va) (he : Nv w E k ec ve) (hb : Nv w B m d vb) (h1 : ¬ lng va) (h2 : ¬ lng ve) (h3 : ¬ lng vb) (h : vb ≠ 0) : Calls Tryz.prog 123 #[.slice A n c, .slice E k ec, .slice B m d] w (Ok1 w (va ^ ve % vb)) := by
  obtain ⟨a, ha, rfl⟩ := ha
  obtain ⟨b, hb, rfl⟩ := hb
  obtain ⟨x, he, rfl⟩ := he
  exact Exp_ok ha he hb h1 h2 h3 h
theorem ExpV0 (ha : Nv w A n c va) (he : Nv w E k ec ve) (hb : Nv w B m d 0) (h1 : ¬ lng va) (h2 : ¬ lng ve) : Calls Tryz.prog 123 #[.slice A n c, .slice E k ec, .slice B m d] w (Bad1 w 1) := by
  obtain ⟨a, ha, rfl⟩ := ha
  obtain ⟨b, hb, h⟩ := hb
  obtain ⟨x, he, rfl⟩ := he
  exact Exp_zero ha he hb h1 h2 h
theorem CmpV (ha : Nv w A n c va) (hb : Nv w B m d vb) (z : Int) (hz : cmpI va vb = z) : Calls Tryz.prog 121 #[.slice A n c, .slice B m d] w fun e w' => e = .returned (.int .i64 z) ∧ Ext w w' := by
  obtain ⟨a, ha, rfl⟩ := ha
  obtain ⟨b, hb, rfl⟩ := hb
  subst hz
  exact CmpN_any ha.r hb.r ha.d hb.d (by have := ha.n; omega) (by have := hb.n; omega)
end
/-- a slice of limbs that came in -/
theorem open_nat {H : Type} {enc : TypeId × Value → H} {P : Program} {w : World} {held : Bool} {t e base' : Nat} {v : Value} {d : DataW H} {p : List MemPlace} (ht : P.underlying t = some (.slice e)) (he : P.underlying e = some (.int .u32)) (hce : P.cellsOf e = 1)
    (hv : Value.okWide P w .any base' t v) (h : DataW.Trod enc P w 0 (fun _ => true) held t v d p) : ∃ A n c l, v = .slice A n c ∧ Rd vL w A n c l ∧ Dg BB l ∧ c ≤ maxLen := by
  obtain ⟨a0, len, cap, rfl⟩ := okWide_slice ht hv
  obtain ⟨fuel, hf⟩ := h
  rcases open_ints ht he hce hf with ⟨hcs, _⟩ | ⟨a, len', cap', zs, hcs, _, hl, hm, hz, _, hcell, hwz⟩
  · simp [Value.cells] at hcs
    obtain ⟨rfl, rfl, rfl⟩ := hcs
    exact ⟨none, 0, 0, [], rfl, Rd.nil _, Dg.nil _, Nat.zero_le _⟩
  · simp [Value.cells] at hcs
    obtain ⟨rfl, rfl, rfl⟩ := hcs
    simp only [if_true] at hz
    refine ⟨some a, len, cap, (zs.map Int.toNat).take len, rfl, ⟨by rw [List.length_take, List.length_map]; omega, hl, (fun e => by cases e), fun hn => ?_⟩, fun x hx => ?_, hm⟩
    · obtain ⟨b, off, rfl, hc⟩ := ints_at hcell (by omega)
      refine ⟨b, off, rfl, fun j x hj => ?_⟩
      have hjn : j < len := by have := (List.getElem?_eq_some_iff.1 hj).1; rw [List.length_take] at this; omega
      rw [hc j (by omega)]
      rw [List.getElem?_take, if_pos hjn, List.getElem?_map, List.getElem?_eq_getElem (by omega)] at hj
      have hb := bounds_u32 (hwz zs[j] (List.getElem_mem (by omega)))
      cases hj
      simp only [List.getD_eq_getElem?_getD, List.getElem?_eq_getElem (show j < zs.length by omega), Option.getD_some, vL]
      congr 2
      omega
    · obtain ⟨y, hy, rfl⟩ := List.mem_map.1 (List.mem_of_mem_take hx)
      have hb := bounds_u32 (hwz y hy)
      show y.toNat < 4294967296
      omega
end Go.Proofs.YtkdjhklnlnfhfaaGreatDoor
