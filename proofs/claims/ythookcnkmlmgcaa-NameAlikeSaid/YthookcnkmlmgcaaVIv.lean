/-
  name: stepsAlike, slices.EqualFunc at names, Alike, Within.
-/
import Derived.Test.YthookcnkmlmgcaaVIu
import Derived.Test.YthookcnkmlmgcaaVIm
namespace Go.Proofs.Ythookcnkmlmgcaa
open Go Go.RowKit Go.Sort
set_option maxRecDepth 4000

set_option maxHeartbeats 4000000 in
theorem stepsAlike_any {w : World} {A B : Option Addr} {n c m d : Nat} {s t : List Atr} (h : Stp w A n c s) (h' : Stp w B m d t) (hs : ∀ a ∈ s, a.tx.length ≤ 1000000 ∧ a.ty.length ≤ 1000000) (ht : ∀ a ∈ t, a.tx.length ≤ 1000000 ∧ a.ty.length ≤ 1000000) (hn : n ≤ 1000000) (hm : m ≤ 1000000) :
    Calls Try.prog 16 #[.slice A n c, .slice B m d] w fun e w' => e = .returned (.bool (alS s t)) ∧ Ext w w' := by
  have H1 := Kp.mk (sensesOf_any h hs hn)
  have H2 := Kp.mk (fun (W : World) (hW : Ext w W) => sensesOf_any (h'.ext hW) ht hm)
  have HN : Kp (s.length ≤ 1000000) := ⟨by rw [h.len]; exact hn⟩
  clear h h' hs ht hn hm
  go_enter Try.func16, Try.ntmps16
  go_wp2_with fail
  refine H1.out.mono ?_
  rintro e w1 ⟨A1, n1, c1, qs, rfl, hl1, hn1, hr1, hm1, x1⟩
  have L1 := Kp.mk hl1
  have N1 := Kp.mk hn1
  have R1 := Kp.mk hr1
  have M1 := Kp.mk hm1
  have X1 := Kp.mk x1
  clear hl1 hn1 hr1 hm1 x1
  go_wp2_with fail
  refine (H2.out _ X1.out).mono ?_
  rintro e w2 ⟨A2, n2, c2, ks, rfl, hl2, hn2, hr2, hm2, x2⟩
  have L2 := Kp.mk hl2
  have R2 := Kp.mk hr2
  have M2 := Kp.mk hm2
  have X2 := Kp.mk x2
  clear hl2 hn2 hr2 hm2 x2
  have HE := Kp.mk (EqSense_any (c := c1) (d := c2) (L1.out.ext X2.out) L2.out (Nat.le_trans N1.out HN.out))
  have HA := Kp.mk (alS_ris R1.out R2.out M1.out M2.out)
  rw [← HA.out] at HE
  clear HA
  go_wp2_with fail
  refine HE.out.mono ?_
  rintro e w3 ⟨rfl, x3⟩
  go_wp2_with fail
  go_ret
  exact ⟨rfl, (X1.out.trans X2.out).trans x3⟩
/-- a name whose parts are not too long -/
structure FitN (x : List (List Atr)) : Prop where
  hi : x.length ≤ 1000000
  all : ∀ s ∈ x, s.length ≤ 1000000 ∧ ∀ a ∈ s, a.tx.length ≤ 1000000 ∧ a.ty.length ≤ 1000000
theorem LightP.fit {x : List (List Atr)} (h : LightP x) : FitN x := by
  refine ⟨by have := h.hi; omega, fun s hs => ?_⟩
  obtain ⟨i, hi⟩ := List.getElem?_of_mem hs
  obtain ⟨h1, h2⟩ := h.all i s hi
  refine ⟨by omega, fun a ha => ?_⟩
  obtain ⟨j, hj⟩ := List.getElem?_of_mem ha
  have := h2 j a hj
  omega
theorem FitN.take {x : List (List Atr)} (h : FitN x) (k : Nat) : FitN (x.take k) := by
  refine ⟨?_, fun s hs => h.all s (List.mem_of_mem_take hs)⟩
  rw [List.length_take]
  have := h.hi
  omega
set_option maxHeartbeats 8000000 in
theorem EqName_any {w : World} {A B : Option Addr} {n c m d : Nat} {x y : List (List Atr)} (h : Nam w A n c x) (h' : Nam w B m d y) (hx : FitN x) (hy : FitN y) :
    Calls Try.prog 15 #[.slice A n c, .slice B m d, .func (.func 16) #[] #[]] w fun e w' => e = .returned (.bool (alN x y)) ∧ Ext w w' := by
  have hl := h.len
  have hl' := h'.len
  obtain ⟨D, hD⟩ : ∃ D, alN x y = D := ⟨_, rfl⟩
  rw [hD]
  by_cases hnm : n = m
  · subst hnm
    have HD := Kp.mk hD
    have H1 := Kp.mk h
    have H2 := Kp.mk h'
    have HL := Kp.mk hl
    have HL' := Kp.mk hl'
    have FX := Kp.mk hx
    have FY := Kp.mk hy
    have hn1 : n ≤ 1000000 := by have := hx.hi; omega
    clear h h' hl hl' hD hx hy
    go_enter Try.func15, Try.ntmps15
    go_wp2_with fail
    go_loopw [17] (fun iv wr => ∃ j : Nat, j ≤ n ∧ iv = .int .i64 (j : Int) ∧ (∀ i, i < j → alS (x.getD i []) (y.getD i []) = true) ∧ Ext w wr) (fun iv _ => n - (intOf iv).toNat)
    case atStart => exact ⟨0, Nat.zero_le _, rfl, (fun i hi => absurd hi (Nat.not_lt_zero _)), Ext.refl _⟩
    case round =>
      obtain ⟨j, hj, rfl, hq, hxw⟩ := hrel
      have HQ := Kp.mk hq
      have HX := Kp.mk hxw
      clear hq
      by_cases hlt : j < n
      · have b1 : (j : Int) < (n : Int) := by omega
        obtain ⟨g, o, B1, m1, d1, s, rfl, hs, k1, hst⟩ := H1.out.get j hlt
        obtain ⟨g', o', B2, m2, d2, t, rfl, ht, k2, htt⟩ := H2.out.get j hlt
        have c1 := cell_fwd k1 hxw
        have c2 := cell_fwd k2 hxw
        have fs := FX.out.all s (List.mem_of_getElem? hs)
        have ft := FY.out.all t (List.mem_of_getElem? ht)
        have HC := Kp.mk (stepsAlike_any (hst.ext hxw) (htt.ext hxw) fs.2 ft.2 (by have := hst.len; omega) (by have := htt.len; omega))
        have es : x.getD j [] = s := by rw [List.getD_eq_getElem?_getD, hs]; rfl
        have et : y.getD j [] = t := by rw [List.getD_eq_getElem?_getD, ht]; rfl
        have ES := Kp.mk es
        have ET := Kp.mk et
        clear hst htt hs ht k1 k2 fs ft es et hxw
        by_cases he : alS s t = true
        · have HE := Kp.mk he
          rw [he] at HC
          clear he
          go_wp2_with (first | (go_at_call 16; refine HC.out.mono ?_; rintro e w2 ⟨rfl, hx2⟩) | fail)
          go_roundw
          case rel =>
            refine ⟨j + 1, by omega, by go_num, fun i hi => ?_, HX.out.trans hx2⟩
            by_cases e : i = j
            · subst e
              rw [ES.out, ET.out]
              exact HE.out
            · exact HQ.out i (by omega)
          case measure => simp [intOf]; omega
        · have he' : alS s t = false := by cases h : alS s t <;> simp_all
          have HE : Kp (D = false) := ⟨by
            rw [← HD.out]
            cases h : alN x y with
            | false => rfl
            | true =>
              have := (alN_iff.1 h).2 j (by rw [HL.out]; exact hlt)
              rw [ES.out, ET.out, he'] at this
              exact this.symm⟩
          rw [he'] at HC
          clear he he'
          go_wp2_with (first | (go_at_call 16; refine HC.out.mono ?_; rintro e w2 ⟨rfl, hx2⟩) | fail)
          go_ret
          exact ⟨by rw [HE.out]; rfl, HX.out.trans hx2⟩
      · obtain rfl : j = n := by omega
        have b1 : ¬ (j : Int) < (j : Int) := by omega
        have HE : Kp (D = true) := ⟨by
          rw [← HD.out, alN_iff]
          exact ⟨by rw [HL.out, HL'.out], fun i hi => HQ.out i (by have := HL.out; omega)⟩⟩
        clear hxw
        go_wp2_with fail
        go_ret
        exact ⟨by rw [HE.out]; rfl, HX.out⟩
  · have hd : D = false := by
      rw [← hD]
      cases h : alN x y with
      | false => rfl
      | true => exact absurd (alN_len h) (by omega)
    subst hd
    have b1 : ((n : Int) == (m : Int)) = false := beq_eq_false_iff_ne.2 (by omega)
    have b2 : ((n : Int) != (m : Int)) = true := by rw [bne, b1]; rfl
    clear h h' hl hl' hD hx hy
    go_enter Try.func15, Try.ntmps15
    go_wp2_with fail
    go_ret
    exact ⟨rfl, Ext.refl _⟩
theorem Alike_any {w : World} {A B : Option Addr} {n c m d : Nat} {x y : List (List Atr)} (h : Nam w A n c x) (h' : Nam w B m d y) (hx : FitN x) (hy : FitN y) :
    Calls Try.prog 10 #[.slice A n c, .slice B m d] w fun e w' => e = .returned (.bool (alN x y)) ∧ Ext w w' := by
  have HC := Kp.mk (EqName_any h h' hx hy)
  clear h h' hx hy
  generalize alN x y = D at *
  go_enter Try.func10, Try.ntmps10
  go_wp2_with (first | (go_at_call 15; refine HC.out.mono ?_; rintro e w2 ⟨rfl, hx2⟩) | fail)
  go_ret
  exact ⟨rfl, hx2⟩
theorem Within_any {w : World} {A B : Option Addr} {n c m d : Nat} {x y : List (List Atr)} (h : Nam w A n c x) (h' : Nam w B m d y) (hx : FitN x) (hy : FitN y) :
    Calls Try.prog 12 #[.slice A n c, .slice B m d] w fun e w' => e = .returned (.bool (wiN x y)) ∧ Ext w w' := by
  have hl := h.len
  have hl' := h'.len
  have hcap := h.cap
  by_cases hmn : m ≤ n
  · have b1 : (m : Int) ≤ (n : Int) := by omega
    have e : wiN x y = alN (x.take m) y := by unfold wiN; rw [hl, hl', decide_eq_true hmn, Bool.true_and]
    rw [e]
    have hup := fun W => run_upto (P := Try.prog) A n c 27 34 Try.underlying27 szSt m (m : Int) rfl (by omega) W
    have HC := Kp.mk (Alike_any (h.take m hmn) h' (hx.take m) hy)
    clear h h' hx hy hl hl' e hcap
    generalize alN (x.take m) y = D at *
    go_enter Try.func12, Try.ntmps12
    go_wp2_with (first | (go_at_call 10; refine HC.out.mono ?_; rintro e w2 ⟨rfl, hx2⟩) | fail)
    go_ret
    exact ⟨rfl, hx2⟩
  · have b1 : ¬ (m : Int) ≤ (n : Int) := by omega
    have e : wiN x y = false := by unfold wiN; rw [hl, hl', decide_eq_false hmn, Bool.false_and]
    rw [e]
    clear h h' hx hy hl hl' e hcap
    go_enter Try.func12, Try.ntmps12
    go_wp2_with fail
    go_ret
    exact ⟨rfl, Ext.refl _⟩
end Go.Proofs.Ythookcnkmlmgcaa
