/-
  tlv: elementOf; an error's number.
-/
import Derived.Test.YtadndhenfoppiaaVHn
namespace Go.Proofs.Ytadndhenfoppiaa
open Go Go.RowKit
set_option maxRecDepth 4000

abbrev elt : TypeId := 70
theorem szEl : (Try.prog.info? elt).map (·.size) = some 3 := by kernel_rfl
/-- what elementOf tells where none begins -/
def ElN (w : World) (k : Int) (e : Ending) (w' : World) : Prop := e = .returned (.tuple #[.agg #[.slice none 0 0, .slice none 0 0, .slice none 0 0], err k]) ∧ Ext w w'
theorem results_el {fn : Func} {p u : Tmp} (h : fn.results = #[.cell p elt, .tmp u]) (tmps : Array Value) (w : World) (g : Nat) (a b d v : Value)
    (hp : tmps.getD p undef = .pointer (some ⟨g, 0, none⟩)) (hv : tmps.getD u undef = v) (hg : Blk w g elt #[a, b, d]) :
    (results fn tmps).run Try.prog w = .ok (.tuple #[.agg #[a, b, d], v]) w :=
  results_cell_row2 h tmps w g elt #[a, b, d] v _ hp hv hg Try.underlying70 rfl szEl
set_option maxHeartbeats 1000000 in
theorem elementOf_none {A : Option Addr} {c : Nat} {w : World} : Calls Try.prog 45 #[.slice A 0 c] w (ElN w 13) := by
  have HB := Kp.mk (Blk.new w elt #[.slice none 0 0, .slice none 0 0, .slice none 0 0])
  have HX := Kp.mk (Ext.setRow ((by (repeat (first | assumption | exact Ext.refl _ | apply Ext.drew | apply Ext.drewN | apply Ext.alloc | refine Ext.trans ?_ (by assumption))); first | done | fail) : Ext w (w.alloc (.cells #[.slice none 0 0, .slice none 0 0, .slice none 0 0] elt))) (Nat.le_refl _) #[.slice none 0 0, .slice none 0 0, .slice none 0 0])
  go_enter Try.func45, Try.ntmps45
  go_wp2_with (first | ((with_reducible refine at_store 2 11 ?_); refine wpList_store_row rfl elt _ _ rfl w.heap.size #[.slice none 0 0, .slice none 0 0, .slice none 0 0] rfl rfl elt _ HB.out.h szEl rfl (one_three _ _ _ _ _ _ _ _ _) ?_) | fail)
  refine bodyPost_ret (results_el rfl _ _ w.heap.size _ _ _ _ rfl rfl (HB.out.row _)) rfl ?_
  exact ⟨rfl, HX.out⟩
/-- where no element begins -/
theorem el_no {b : List (BitVec 8)} (h : ¬ ∃ m x r, El b m x r) (hm : mkB (gb b 0) = true) : b.take (hdn (lnOf b)) ≠ hdr (gb b 0) (lnOf b) ∨ (b.take (hdn (lnOf b)) = hdr (gb b 0) (lnOf b) ∧ b.length < hdn (lnOf b) + lnOf b) := by
  by_cases hp : b.take (hdn (lnOf b)) = hdr (gb b 0) (lnOf b)
  · by_cases hr : hdn (lnOf b) + lnOf b ≤ b.length
    · exact absurd ⟨_, _, _, el_of hm (lnOf_hi b) hp hr⟩ h
    · exact .inr ⟨hp, by omega⟩
  · exact .inl hp
set_option maxHeartbeats 4000000 in
theorem elementOf_form {b : List (BitVec 8)} {A : Option Addr} {n c : Nat} {w : World} (hb : Bs w A n c b) (hn : 0 < n) (hn2 : n ≤ 1000000000000) (h : ¬ ∃ m x r, El b m x r) : Calls Try.prog 45 #[.slice A n c] w (ElN w 2) := by
  have hl := hb.len
  have hx0 : Ext w (w.alloc (.cells #[.slice none 0 0, .slice none 0 0, .slice none 0 0] elt)) := (by (repeat (first | assumption | exact Ext.refl _ | apply Ext.drew | apply Ext.drewN | apply Ext.alloc | refine Ext.trans ?_ (by assumption))); first | done | fail)
  have hB0 := Blk.new w elt #[.slice none 0 0, .slice none 0 0, .slice none 0 0]
  have b0 : ((n : Int) == 0) = false := beq_eq_false_iff_ne.2 (by omega)
  have b0' : ¬ n = 0 := by omega
  have b1 : 0 < (n : Int) := by omega
  obtain ⟨g, o, rfl, hc⟩ := hb.s.2.2.2 hn
  have k0 : ∀ (w' : World), Ext w w' → w'.cell? ⟨g, o, none⟩ = some (.int .u8 (ub (gb b 0))) := fun w' hx => by
    obtain ⟨g', o', e, hc'⟩ := (hb.ext hx).s.2.2.2 hn
    cases e
    have h1 := hc' 0 hn
    rwa [Nat.add_zero] at h1
  have LO := Kp.mk (lengthOf_any (hb.ext hx0))
  have HB0 := Kp.mk hB0
  have HX0 := Kp.mk hx0
  have hk0 := k0 _ hx0
  have HBB := Kp.mk hb
  cases hm : mkB (gb b 0) with
  | false =>
    have C := Kp.mk (fun u => Head_arg (gb b 0) ((lnOf b : Nat) : Int) (.inl hm) u)
    generalize gb b 0 = x0 at *
    generalize lnOf b = N at *
    clear h hl hb hc hB0 hx0 hm
    go_enter Try.func45, Try.ntmps45
    go_wp2_with (first | (go_at_call 47; refine LO.out.mono ?_; rintro e w1 ⟨rfl, hx1⟩; have HX1 := Kp.mk (HX0.out.trans hx1); have k01 := k0 w1 HX1.out; have HB1 := Kp.mk (HB0.out.ext hx1); clear hx1) | (go_at_call 9; refine (C.out _).mono ?_; rintro e w2 ⟨rfl, hx2⟩; have HX2 := Kp.mk (HX1.out.trans hx2); have HB2 := Kp.mk (HB1.out.ext hx2); clear hx2) | ((with_reducible refine at_store 2 40 ?_); refine wpList_store_row rfl elt _ _ rfl w.heap.size #[.slice none 0 0, .slice none 0 0, .slice none 0 0] rfl rfl elt _ HB2.out.h szEl rfl (one_three _ _ _ _ _ _ _ _ _) ?_) | fail)
    refine bodyPost_ret (results_el rfl _ _ w.heap.size _ _ _ _ rfl rfl (HB2.out.row _)) rfl ?_
    exact ⟨rfl, HX2.out.setRow (Nat.le_refl _) _⟩
  | true =>
    have hhi := hdn_hi (lnOf b)
    have hlo := hdn_lo (lnOf b)
    have C := Kp.mk (fun u => Head_ok (gb b 0) (lnOf b) (lnOf_hi b) hm u)
    rcases el_no h hm with hp | ⟨hp, hr⟩
    · have HP := Kp.mk hp
      obtain ⟨D, hD⟩ : ∃ D, hdr (gb b 0) (lnOf b) = D := ⟨_, rfl⟩
      obtain ⟨k, hk⟩ : ∃ k, hdn (lnOf b) = k := ⟨_, rfl⟩
      rw [hD, hk] at C HP
      rw [hk] at hhi hlo
      generalize gb b 0 = x0 at *
      generalize lnOf b = N at *
      have HK : Kp (k ≤ 4611686018427387904) := ⟨by omega⟩
      have HN : Kp (n ≤ 4611686018427387904) := ⟨by omega⟩
      clear h hl hb hc hB0 hx0 hm hhi hlo hp hn2
      go_enter Try.func45, Try.ntmps45
      go_wp2_with (first | (go_at_call 47; refine LO.out.mono ?_; rintro e w1 ⟨rfl, hx1⟩; have HX1 := Kp.mk (HX0.out.trans hx1); have k01 := k0 w1 HX1.out; have HB1 := Kp.mk (HB0.out.ext hx1); clear hx1) | (go_at_call 9; refine (C.out _).mono ?_; rintro e w2 ⟨A2, c2, rfl, hs2, ho2, hx2⟩; have HX2 := Kp.mk (HX1.out.trans hx2); have HB2 := Kp.mk (HB1.out.ext hx2); have HS2 := Kp.mk hs2; clear hx2 hs2 ho2) | (go_at_call 48; refine (HasPrefix_any (HBB.out.ext HX2.out) HS2.out HN.out HK.out false (by simp [HP.out])).mono ?_; rintro e w3 ⟨rfl, rfl⟩) | ((with_reducible refine at_store 2 40 ?_); refine wpList_store_row rfl elt _ _ rfl w.heap.size #[.slice none 0 0, .slice none 0 0, .slice none 0 0] rfl rfl elt _ HB2.out.h szEl rfl (one_three _ _ _ _ _ _ _ _ _) ?_) | fail)
      refine bodyPost_ret (results_el rfl _ _ w.heap.size _ _ _ _ rfl rfl (HB2.out.row _)) rfl ?_
      exact ⟨rfl, HX2.out.setRow (Nat.le_refl _) _⟩
    · have HP := Kp.mk hp
      have hnl := lnOf_hi b
      have hkn : hdn (lnOf b) ≤ b.length := by
        have := congrArg List.length hp
        rw [List.length_take, hdr_len] at this
        omega
      obtain ⟨D, hD⟩ : ∃ D, hdr (gb b 0) (lnOf b) = D := ⟨_, rfl⟩
      obtain ⟨k, hk⟩ : ∃ k, hdn (lnOf b) = k := ⟨_, rfl⟩
      rw [hD, hk] at C HP
      rw [hk] at hhi hlo hr hkn
      rw [hl] at hr hkn
      generalize gb b 0 = x0 at *
      generalize lnOf b = N at *
      have HK : Kp (k ≤ 4611686018427387904) := ⟨by omega⟩
      have HN : Kp (n ≤ 4611686018427387904) := ⟨by omega⟩
      obtain ⟨z, hz⟩ : ∃ z : Nat, n - k = z := ⟨_, rfl⟩
      have b2 : IntKind.i64.wrap ((n : Int) - (k : Int)) = (z : Int) := by rw [IntKind.wrap_i64]; omega
      have b3 : (z : Int) < (N : Int) := by omega
      clear h hl hb hc hB0 hx0 hm hhi hlo hp hn2 hr hkn hz hnl
      go_enter Try.func45, Try.ntmps45
      go_wp2_with (first | (go_at_call 47; refine LO.out.mono ?_; rintro e w1 ⟨rfl, hx1⟩; have HX1 := Kp.mk (HX0.out.trans hx1); have k01 := k0 w1 HX1.out; have HB1 := Kp.mk (HB0.out.ext hx1); clear hx1) | (go_at_call 9; refine (C.out _).mono ?_; rintro e w2 ⟨A2, c2, rfl, hs2, ho2, hx2⟩; have HX2 := Kp.mk (HX1.out.trans hx2); have HB2 := Kp.mk (HB1.out.ext hx2); have HS2 := Kp.mk hs2; clear hx2 hs2 ho2) | (go_at_call 48; refine (HasPrefix_any (HBB.out.ext HX2.out) HS2.out HN.out HK.out true (by simp [HP.out])).mono ?_; rintro e w3 ⟨rfl, rfl⟩) | ((with_reducible refine at_store 2 40 ?_); refine wpList_store_row rfl elt _ _ rfl w.heap.size #[.slice none 0 0, .slice none 0 0, .slice none 0 0] rfl rfl elt _ HB2.out.h szEl rfl (one_three _ _ _ _ _ _ _ _ _) ?_) | fail)
      refine bodyPost_ret (results_el rfl _ _ w.heap.size _ _ _ _ rfl rfl (HB2.out.row _)) rfl ?_
      exact ⟨rfl, HX2.out.setRow (Nat.le_refl _) _⟩
end Go.Proofs.Ytadndhenfoppiaa
