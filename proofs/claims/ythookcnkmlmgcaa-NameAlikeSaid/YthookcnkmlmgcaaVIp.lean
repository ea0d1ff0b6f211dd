/-
  slices.EqualFunc at what attributes that are alike have in common.
-/
import Derived.Test.YthookcnkmlmgcaaVIo
namespace Go.Proofs.Ythookcnkmlmgcaa
open Go Go.RowKit Go.Sort
set_option maxRecDepth 4000

abbrev SSn := SV × Sns
/-- a slice of them of the call's own, from its block's first cell on -/
structure SnL (w : World) (A : Option Addr) (n : Nat) (ps : List SSn) : Prop where
  len : ps.length = n
  at_ : 0 < n → ∃ g, A = some ⟨g, 0, none⟩ ∧ ∀ (k : Nat) (p : SSn), ps[k]? = some p → w.cell? ⟨g, k * 2, none⟩ = some (kdV p.1) ∧ w.cell? ⟨g, k * 2 + 1, none⟩ = some (txV p.1)
  rd : ∀ p ∈ ps, SnR w p.1 p.2
theorem SnL.ext {w w' : World} {A : Option Addr} {n : Nat} {ps : List SSn} (h : SnL w A n ps) (hx : Ext w w') : SnL w' A n ps := by
  refine ⟨h.len, fun hn => ?_, fun p hp => (h.rd p hp).ext hx⟩
  obtain ⟨g, e, hc⟩ := h.at_ hn
  exact ⟨g, e, fun k p hk => ⟨cell_fwd (hc k p hk).1 hx, cell_fwd (hc k p hk).2 hx⟩⟩
theorem snd_ne {ps qs : List SSn} {j : Nat} {p q : SSn} (hp : ps[j]? = some p) (hq : qs[j]? = some q) (h : p.2 ≠ q.2) : ps.map Prod.snd ≠ qs.map Prod.snd := fun e => by
  have := congrArg (fun l : List Sns => l[j]?) e
  simp only [List.getElem?_map, hp, hq, Option.map_some, Option.some.injEq] at this
  exact h this
theorem snd_eq {ps qs : List SSn} (hl : ps.length = qs.length) (h : ∀ (j : Nat) (p q : SSn), ps[j]? = some p → qs[j]? = some q → p.2 = q.2) : ps.map Prod.snd = qs.map Prod.snd := by
  apply List.ext_getElem?
  intro j
  rw [List.getElem?_map, List.getElem?_map]
  by_cases hj : j < ps.length
  · obtain ⟨p, hp⟩ : ∃ p, ps[j]? = some p := ⟨_, List.getElem?_eq_getElem hj⟩
    obtain ⟨q, hq⟩ : ∃ q, qs[j]? = some q := ⟨_, List.getElem?_eq_getElem (by omega)⟩
    rw [hp, hq]
    simp [h j p q hp hq]
  · rw [List.getElem?_eq_none (by omega), List.getElem?_eq_none (by omega)]
set_option maxHeartbeats 8000000 in
theorem EqSense_any {w : World} {A B : Option Addr} {n c m d : Nat} {ps qs : List SSn} (h : SnL w A n ps) (h' : SnL w B m qs) (hn : n ≤ 1000000) :
    Calls Try.prog 18 #[.slice A n c, .slice B m d, .func (.func 20) #[] #[]] w fun e w' => e = .returned (.bool (decide (ps.map Prod.snd = qs.map Prod.snd))) ∧ Ext w w' := by
  have hl := h.len
  have hl' := h'.len
  by_cases hnm : n = m
  · subst hnm
    obtain ⟨D, hD⟩ : ∃ D, decide (ps.map Prod.snd = qs.map Prod.snd) = D := ⟨_, rfl⟩
    rw [hD]
    have HD := Kp.mk hD
    have H1 := Kp.mk h
    have H2 := Kp.mk h'
    have HL := Kp.mk hl
    have HL' := Kp.mk hl'
    clear h h' hl hl' hD
    go_enter Try.func18, Try.ntmps18
    go_wp2_with fail
    go_loopw [17] (fun iv wr => ∃ j : Nat, j ≤ n ∧ iv = .int .i64 (j : Int) ∧ (∀ (i : Nat) (p q : SSn), i < j → ps[i]? = some p → qs[i]? = some q → p.2 = q.2) ∧ Ext w wr) (fun iv _ => n - (intOf iv).toNat)
    case atStart => exact ⟨0, Nat.zero_le _, rfl, (fun i p q hi => absurd hi (Nat.not_lt_zero _)), Ext.refl _⟩
    case round =>
      obtain ⟨j, hj, rfl, hq, hx⟩ := hrel
      have HQ := Kp.mk hq
      have HX := Kp.mk hx
      clear hq
      by_cases hlt : j < n
      · have b1 : (j : Int) < (n : Int) := by omega
        obtain ⟨g, rfl, hc⟩ := H1.out.at_ (by omega)
        obtain ⟨g', rfl, hc'⟩ := H2.out.at_ (by omega)
        obtain ⟨p, hp⟩ : ∃ p, ps[j]? = some p := ⟨_, List.getElem?_eq_getElem (by have := HL.out; omega)⟩
        obtain ⟨q, hq⟩ : ∃ q, qs[j]? = some q := ⟨_, List.getElem?_eq_getElem (by have := HL'.out; omega)⟩
        have c1 : ∀ w', Ext wr w' → w'.cell? ⟨g, j * 2, none⟩ = some (kdV p.1) := fun w' h => cell_fwd (hc j p hp).1 (hx.trans h)
        have c2 : ∀ w', Ext wr w' → w'.cell? ⟨g, j * 2 + 1, none⟩ = some (txV p.1) := fun w' h => cell_fwd (hc j p hp).2 (hx.trans h)
        have c3 : ∀ w', Ext wr w' → w'.cell? ⟨g', j * 2, none⟩ = some (kdV q.1) := fun w' h => cell_fwd (hc' j q hq).1 (hx.trans h)
        have c4 : ∀ w', Ext wr w' → w'.cell? ⟨g', j * 2 + 1, none⟩ = some (txV q.1) := fun w' h => cell_fwd (hc' j q hq).2 (hx.trans h)
        have k1 := c1 wr (Ext.refl _)
        have k2 := c2 wr (Ext.refl _)
        have HC := Kp.mk (fun (W : World) (h : Ext wr W) => sameSense_any ((H1.out.rd p (List.mem_of_getElem? hp)).ext (hx.trans h)) ((H2.out.rd q (List.mem_of_getElem? hq)).ext (hx.trans h)))
        have HP := Kp.mk hp
        have HQq := Kp.mk hq
        clear hc hc' hp hq hx
        unfold kdV txV at *
        by_cases he : p.2 = q.2
        · have hd : decide (p.2 = q.2) = true := decide_eq_true he
          rw [hd] at HC
          have HE := Kp.mk he
          clear he hd
          go_wp2_with (first | (go_at_call 20; refine (HC.out _ (by (repeat (first | assumption | exact Ext.refl _ | apply Ext.drew | apply Ext.drewN | apply Ext.alloc | refine Ext.trans ?_ (by assumption))); first | done | fail)).mono ?_; rintro e w2 ⟨rfl, hx2⟩) | fail)
          go_roundw
          case rel =>
            refine ⟨j + 1, by omega, by go_num, fun i p' q' hi hp' hq' => ?_, HX.out.trans (by (repeat (first | assumption | exact Ext.refl _ | apply Ext.drew | apply Ext.drewN | apply Ext.alloc | refine Ext.trans ?_ (by assumption))); first | done | fail)⟩
            by_cases e : i = j
            · subst e
              rw [HP.out] at hp'
              rw [HQq.out] at hq'
              cases hp'
              cases hq'
              exact HE.out
            · exact HQ.out i p' q' (by omega) hp' hq'
          case measure => simp [intOf]; omega
        · have hd : decide (p.2 = q.2) = false := decide_eq_false he
          rw [hd] at HC
          have HE : Kp (D = false) := ⟨by rw [← HD.out]; exact decide_eq_false (snd_ne HP.out HQq.out he)⟩
          clear he hd
          go_wp2_with (first | (go_at_call 20; refine (HC.out _ (by (repeat (first | assumption | exact Ext.refl _ | apply Ext.drew | apply Ext.drewN | apply Ext.alloc | refine Ext.trans ?_ (by assumption))); first | done | fail)).mono ?_; rintro e w2 ⟨rfl, hx2⟩) | fail)
          go_ret
          exact ⟨by rw [HE.out]; rfl, HX.out.trans (by (repeat (first | assumption | exact Ext.refl _ | apply Ext.drew | apply Ext.drewN | apply Ext.alloc | refine Ext.trans ?_ (by assumption))); first | done | fail)⟩
      · obtain rfl : j = n := by omega
        have b1 : ¬ (j : Int) < (j : Int) := by omega
        have HE : Kp (D = true) := ⟨by
          rw [← HD.out]
          refine decide_eq_true (snd_eq (by rw [HL.out, HL'.out]) fun i p q hp hq => HQ.out i p q ?_ hp hq)
          have := (List.getElem?_eq_some_iff.1 hp).1
          have := HL.out
          omega⟩
        go_wp2_with fail
        go_ret
        exact ⟨by rw [HE.out]; rfl, HX.out⟩
  · have hd : decide (ps.map Prod.snd = qs.map Prod.snd) = false := decide_eq_false fun e => by
      have := congrArg List.length e
      simp at this
      omega
    rw [hd]
    have b1 : ((n : Int) == (m : Int)) = false := beq_eq_false_iff_ne.2 (by omega)
    have b2 : ((n : Int) != (m : Int)) = true := by rw [bne, b1]; rfl
    clear h h' hl hl' hd
    go_enter Try.func18, Try.ntmps18
    go_wp2_with fail
    go_ret
    exact ⟨rfl, Ext.refl _⟩
end Go.Proofs.Ythookcnkmlmgcaa
