/-
  The walk of the law RsaStays.
-/
import Derived.Test.YticggkllfojgkaaDoorVUf
import Derived.Test.YticggkllfojgkaaDoorM21
import Derived.Test.YticggkllfojgkaaDoorM14
namespace Go.Proofs.YticggkllfojgkaaDoor
open Go Go.RowKit
set_option maxRecDepth 4000

/-- the slots that the making of the own key writes, one behind the other -/
def dsO (i : Nat) : Nat := [49, 50, 51, 52, 53, 54, 55, 56, 57, 58, 59, 60, 61, 11].getD i 0
/-- what each of them holds -/
def PrO (g B : Nat) (AN AE AD : Option Addr) (nN nE nD cN cE cD : Nat) (lN lE lD : List Nat) (i : Nat) (v : Value) (w : World) : Prop :=
  match i with
  | 0 => ∃ b, v = .slice (some b) 0 0
  | 1 => v = .pointer (some ⟨g, 0, none⟩)
  | 2 => v = .slice AN nN cN
  | 3 => ∃ A c, v = .slice A nN c ∧ Rd vL w A nN c lN
  | 4 => ∃ b, v = .slice (some b) 0 0
  | 5 => v = .pointer (some ⟨g, 1, none⟩)
  | 6 => v = .slice AE nE cE
  | 7 => ∃ A c, v = .slice A nE c ∧ Rd vL w A nE c lE
  | 8 => ∃ b, v = .slice (some b) 0 0
  | 9 => v = .pointer (some ⟨g, 2, none⟩)
  | 10 => v = .slice AD nD cD
  | 11 => ∃ A c, v = .slice A nD c ∧ Rd vL w A nD c lD
  | 12 => ∃ A c A' c' A'' c'', v = .agg #[.slice A nN c, .slice A' nE c', .slice A'' nD c''] ∧ Rd vL w A nN c lN ∧ Rd vL w A' nE c' lE ∧ Rd vL w A'' nD c'' lD
  | 13 => ∃ k, v = .pointer (some ⟨k, 0, none⟩) ∧ B ≤ k ∧ Blk w k 30 #[.slice none 0 0, .slice none 0 0, .slice none 0 0]
  | _ => True
theorem Own.lies {w : World} {B n c : Nat} {A : Option Addr} {l : List (BitVec 8)} (h : Own w B (.slice A n c) n l) : ∃ G : List Nat, (∀ k, k ∈ G → B ≤ k ∧ k < w.heap.size) ∧ (0 < n → ∃ g, A = some ⟨g, 0, none⟩ ∧ g ∈ G) := by
  by_cases hn : 0 < n
  · obtain ⟨g, e, h1, h2⟩ := h.some_ hn
    exact ⟨[g], fun k hk => by rw [List.mem_singleton.1 hk]; exact ⟨h1, h2⟩, fun _ => ⟨g, e, by simp⟩⟩
  · exact ⟨[], fun k hk => by simp at hk, fun h => absurd h hn⟩
theorem ub_up (x : BitVec 8) : IntKind.u8.wrap (ub x + 1) = ub (x + 1) := by
  rw [IntKind.wrap_u8]
  unfold ub
  rw [BitVec.toNat_add]
  have := x.isLt
  simp
theorem Mds.drewN {G : List Nat} {w w' w'' : World} (h : Mds G w w') (hx : ∃ k, w'' = w'.drewN k) : Mds G w w'' := by
  obtain ⟨k, rfl⟩ := hx
  exact ⟨h.os, h.tape, h.output, h.size, h.block⟩
theorem drewN_up {w w' : World} (h : ∃ k, w' = w.drewN k) : Ext w w' := by
  obtain ⟨k, rfl⟩ := h
  exact (by (repeat (first | assumption | exact Ext.refl _ | apply Ext.drew | apply Ext.drewN | apply Ext.alloc | refine Ext.trans ?_ (by assumption))); first | done | fail)
theorem dsO_inj : ∀ i, i < 14 → ∀ j, j < 14 → dsO i = dsO j → i = j := by decide
/-- numbers don't lie where a key is laid -/
theorem Rd.off {w : World} {A : Option Addr} {n c g t : Nat} {l : List Nat} (h : Rd vL w A n c l) (hb : Blk w g t #[.slice none 0 0, .slice none 0 0, .slice none 0 0]) (cs : Array Value) : Rd vL (w.setRow g cs) A n c l := by
  refine ⟨h.len, h.cap, h.nul, fun hn => ?_⟩
  obtain ⟨b, o, e, hc⟩ := h.at_ hn
  refine ⟨b, o, e, fun j x hj => ?_⟩
  have h1 := hc j x hj
  have hne : b ≠ g := by
    rintro rfl
    have h2 := hb.h.cell (o + j)
    rw [h1] at h2
    rcases (show o + j = 0 ∨ o + j = 1 ∨ o + j = 2 ∨ 3 ≤ o + j by omega) with h3 | h3 | h3 | h3
    · rw [h3] at h2; simp [vL] at h2
    · rw [h3] at h2; simp [vL] at h2
    · rw [h3] at h2; simp [vL] at h2
    · rw [Array.getElem?_eq_none (by simpa using h3)] at h2; cases h2
  rw [← h1]
  exact World.cell?_of_block (a := ⟨b, o + j, none⟩) (setRow_other w g b cs hne)
theorem PrO.keep {g B : Nat} {AN AE AD : Option Addr} {nN nE nD cN cE cD : Nat} {lN lE lD : List Nat} (i : Nat) (v : Value) (w w' : World) (h : PrO g B AN AE AD nN nE nD cN cE cD lN lE lD i v w) (hx : Ext w w') : PrO g B AN AE AD nN nE nD cN cE cD lN lE lD i v w' := by
  unfold PrO at h ⊢
  split at h
  all_goals first | exact h | skip
  · obtain ⟨A, c, e, h⟩ := h; exact ⟨A, c, e, h.ext hx⟩
  · obtain ⟨A, c, e, h⟩ := h; exact ⟨A, c, e, h.ext hx⟩
  · obtain ⟨A, c, e, h⟩ := h; exact ⟨A, c, e, h.ext hx⟩
  · obtain ⟨A, c, A', c', A'', c'', e, h1, h2, h3⟩ := h; exact ⟨A, c, A', c', A'', c'', e, h1.ext hx, h2.ext hx, h3.ext hx⟩
  · obtain ⟨k, e, h1, h2⟩ := h; exact ⟨k, e, h1, h2.ext hx⟩

set_option maxHeartbeats 8000000 in
set_option maxRecDepth 100000 in
theorem RsaStays_any {w : World} {AN AE AD Ab At Af : Option Addr} {nN nE nD nb_ nt nf cN cE cD cb ct cf : Nat} {lN lE lD : List Nat} {lb lt lf : List (BitVec 8)} (hN : Nk w AN nN cN lN) (hE : Nk w AE nE cE lE) (hD : Nk w AD nD cD lD) (hb : Bs w Ab nb_ cb lb) (ht : Bs w At nt ct lt) (hf : Bs w Af nf cf lf) (hw : Lay w) :
    Calls Tryd.prog 6 #[.agg #[.slice AN nN cN, .slice AE nE cE, .slice AD nD cD], .slice Ab nb_ cb, .slice At nt ct, .slice Af nf cf] w fun e w' => e = .returned (.bool true) ∧ Below w.heap.size w w' := by
  have HU := Kp.mk (fun u => up6_any u)
  have HB := Kp.mk (Blk.new w 30 #[.slice AN nN cN, .slice AE nE cE, .slice AD nD cD])
  have hways : ¬ (nN ≤ 70 ∧ nE ≤ 70 ∧ nD ≤ 70) ∨ ((nN ≤ 70 ∧ nE ≤ 70 ∧ nD ≤ 70) ∧ 2 < nE) ∨ ((nN ≤ 70 ∧ nE ≤ 70 ∧ nD ≤ 70) ∧ ¬ 2 < nE ∧ 300 < nt) ∨ ((nN ≤ 70 ∧ nE ≤ 70 ∧ nD ≤ 70) ∧ ¬ 2 < nE ∧ ¬ 300 < nt ∧ 300 < nf) ∨ ((nN ≤ 70 ∧ nE ≤ 70 ∧ nD ≤ 70) ∧ ¬ 2 < nE ∧ ¬ 300 < nt ∧ ¬ 300 < nf) := by omega
  rcases hways with hl | ⟨hl, h1⟩ | ⟨hl, h1, h2⟩ | ⟨hl, h1, h2, h3⟩ | ⟨hl, h1, h2, h3⟩
  · have HL := Kp.mk hl
    clear hl hN hE hD hb ht hf hw 
    go_enter Tryd.func6, Tryd.ntmps6
    go_wp2_with fail
    refine (HU.out _).mono ?_
    rintro e w1 ⟨rfl, x⟩
    have x1 := x
    clear x
    obtain ⟨c0, c1, c2⟩ := box3 HB.out (show Ext (w.alloc (.cells #[.slice AN nN cN, .slice AE nE cE, .slice AD nD cD] 30)) w1 from (by (repeat (first | assumption | exact Ext.refl _ | apply Ext.drew | apply Ext.drewN | apply Ext.alloc | refine Ext.trans ?_ (by assumption))); first | done | fail))
    go_wp2_with (first | ((with_reducible refine at_load_to 26 4 ?_); refine wpList_load_row rfl 30 _ rfl w.heap.size rfl 30 _ (0, 0) _ (HB.out.ext (show Ext (w.alloc (.cells #[.slice AN nN cN, .slice AE nE cE, .slice AD nD cD] 30)) w1 from (by (repeat (first | assumption | exact Ext.refl _ | apply Ext.drew | apply Ext.drewN | apply Ext.alloc | refine Ext.trans ?_ (by assumption))); first | done | fail))).h Tryd.underlying30 rfl szS ?_) | fail)
    refine (light6_any false ⟨(fun h => nomatch h), fun h => absurd h HL.out⟩).mono ?_
    rintro e w2 ⟨rfl, x⟩
    have x2 := Ext.trans (show Ext w1 _ from (by (repeat (first | assumption | exact Ext.refl _ | apply Ext.drew | apply Ext.drewN | apply Ext.alloc | refine Ext.trans ?_ (by assumption))); first | done | fail)) x
    clear x
    obtain ⟨c0, c1, c2⟩ := box3 HB.out (show Ext (w.alloc (.cells #[.slice AN nN cN, .slice AE nE cE, .slice AD nD cD] 30)) w2 from (by (repeat (first | assumption | exact Ext.refl _ | apply Ext.drew | apply Ext.drewN | apply Ext.alloc | refine Ext.trans ?_ (by assumption))); first | done | fail))
    have HX := Kp.mk (show Ext w w2 from (by (repeat (first | assumption | exact Ext.refl _ | apply Ext.drew | apply Ext.drewN | apply Ext.alloc | refine Ext.trans ?_ (by assumption))); first | done | fail))
    clear x1 x2
    go_wp2_with fail
    go_ret
    exact ⟨rfl, HX.out.b⟩
  · have HL := Kp.mk hl
    have g0 : (2 : Int) < (nE : Int) := by omega
    have g0' : 2 < nE := by omega
    clear hl hN hE hD hb ht hf hw h1
    go_enter Tryd.func6, Tryd.ntmps6
    go_wp2_with fail
    refine (HU.out _).mono ?_
    rintro e w1 ⟨rfl, x⟩
    have x1 := x
    clear x
    obtain ⟨c0, c1, c2⟩ := box3 HB.out (show Ext (w.alloc (.cells #[.slice AN nN cN, .slice AE nE cE, .slice AD nD cD] 30)) w1 from (by (repeat (first | assumption | exact Ext.refl _ | apply Ext.drew | apply Ext.drewN | apply Ext.alloc | refine Ext.trans ?_ (by assumption))); first | done | fail))
    go_wp2_with (first | ((with_reducible refine at_load_to 26 4 ?_); refine wpList_load_row rfl 30 _ rfl w.heap.size rfl 30 _ (0, 0) _ (HB.out.ext (show Ext (w.alloc (.cells #[.slice AN nN cN, .slice AE nE cE, .slice AD nD cD] 30)) w1 from (by (repeat (first | assumption | exact Ext.refl _ | apply Ext.drew | apply Ext.drewN | apply Ext.alloc | refine Ext.trans ?_ (by assumption))); first | done | fail))).h Tryd.underlying30 rfl szS ?_) | fail)
    refine (light6_any true ⟨fun _ => HL.out, fun _ => rfl⟩).mono ?_
    rintro e w2 ⟨rfl, x⟩
    have x2 := Ext.trans (show Ext w1 _ from (by (repeat (first | assumption | exact Ext.refl _ | apply Ext.drew | apply Ext.drewN | apply Ext.alloc | refine Ext.trans ?_ (by assumption))); first | done | fail)) x
    clear x
    obtain ⟨c0, c1, c2⟩ := box3 HB.out (show Ext (w.alloc (.cells #[.slice AN nN cN, .slice AE nE cE, .slice AD nD cD] 30)) w2 from (by (repeat (first | assumption | exact Ext.refl _ | apply Ext.drew | apply Ext.drewN | apply Ext.alloc | refine Ext.trans ?_ (by assumption))); first | done | fail))
    have HX := Kp.mk (show Ext w w2 from (by (repeat (first | assumption | exact Ext.refl _ | apply Ext.drew | apply Ext.drewN | apply Ext.alloc | refine Ext.trans ?_ (by assumption))); first | done | fail))
    clear x1 x2
    go_wp2_with fail
    go_ret
    exact ⟨rfl, HX.out.b⟩
  · have HL := Kp.mk hl
    have g0 : decide ((2 : Int) < (nE : Int)) = false := decide_eq_false (by omega)
    have g0' : decide (2 < nE) = false := decide_eq_false (by omega)
    have g1 : (300 : Int) < (nt : Int) := by omega
    have g1' : 300 < nt := by omega
    clear hl hN hE hD hb ht hf hw h1 h2
    go_enter Tryd.func6, Tryd.ntmps6
    go_wp2_with fail
    refine (HU.out _).mono ?_
    rintro e w1 ⟨rfl, x⟩
    have x1 := x
    clear x
    obtain ⟨c0, c1, c2⟩ := box3 HB.out (show Ext (w.alloc (.cells #[.slice AN nN cN, .slice AE nE cE, .slice AD nD cD] 30)) w1 from (by (repeat (first | assumption | exact Ext.refl _ | apply Ext.drew | apply Ext.drewN | apply Ext.alloc | refine Ext.trans ?_ (by assumption))); first | done | fail))
    go_wp2_with (first | ((with_reducible refine at_load_to 26 4 ?_); refine wpList_load_row rfl 30 _ rfl w.heap.size rfl 30 _ (0, 0) _ (HB.out.ext (show Ext (w.alloc (.cells #[.slice AN nN cN, .slice AE nE cE, .slice AD nD cD] 30)) w1 from (by (repeat (first | assumption | exact Ext.refl _ | apply Ext.drew | apply Ext.drewN | apply Ext.alloc | refine Ext.trans ?_ (by assumption))); first | done | fail))).h Tryd.underlying30 rfl szS ?_) | fail)
    refine (light6_any true ⟨fun _ => HL.out, fun _ => rfl⟩).mono ?_
    rintro e w2 ⟨rfl, x⟩
    have x2 := Ext.trans (show Ext w1 _ from (by (repeat (first | assumption | exact Ext.refl _ | apply Ext.drew | apply Ext.drewN | apply Ext.alloc | refine Ext.trans ?_ (by assumption))); first | done | fail)) x
    clear x
    obtain ⟨c0, c1, c2⟩ := box3 HB.out (show Ext (w.alloc (.cells #[.slice AN nN cN, .slice AE nE cE, .slice AD nD cD] 30)) w2 from (by (repeat (first | assumption | exact Ext.refl _ | apply Ext.drew | apply Ext.drewN | apply Ext.alloc | refine Ext.trans ?_ (by assumption))); first | done | fail))
    have HX := Kp.mk (show Ext w w2 from (by (repeat (first | assumption | exact Ext.refl _ | apply Ext.drew | apply Ext.drewN | apply Ext.alloc | refine Ext.trans ?_ (by assumption))); first | done | fail))
    clear x1 x2
    go_wp2_with fail
    go_ret
    exact ⟨rfl, HX.out.b⟩
  · have HL := Kp.mk hl
    have g0 : decide ((2 : Int) < (nE : Int)) = false := decide_eq_false (by omega)
    have g0' : decide (2 < nE) = false := decide_eq_false (by omega)
    have g1 : decide ((300 : Int) < (nt : Int)) = false := decide_eq_false (by omega)
    have g1' : decide (300 < nt) = false := decide_eq_false (by omega)
    have g2 : (300 : Int) < (nf : Int) := by omega
    have g2' : 300 < nf := by omega
    clear hl hN hE hD hb ht hf hw h1 h2 h3
    go_enter Tryd.func6, Tryd.ntmps6
    go_wp2_with fail
    refine (HU.out _).mono ?_
    rintro e w1 ⟨rfl, x⟩
    have x1 := x
    clear x
    obtain ⟨c0, c1, c2⟩ := box3 HB.out (show Ext (w.alloc (.cells #[.slice AN nN cN, .slice AE nE cE, .slice AD nD cD] 30)) w1 from (by (repeat (first | assumption | exact Ext.refl _ | apply Ext.drew | apply Ext.drewN | apply Ext.alloc | refine Ext.trans ?_ (by assumption))); first | done | fail))
    go_wp2_with (first | ((with_reducible refine at_load_to 26 4 ?_); refine wpList_load_row rfl 30 _ rfl w.heap.size rfl 30 _ (0, 0) _ (HB.out.ext (show Ext (w.alloc (.cells #[.slice AN nN cN, .slice AE nE cE, .slice AD nD cD] 30)) w1 from (by (repeat (first | assumption | exact Ext.refl _ | apply Ext.drew | apply Ext.drewN | apply Ext.alloc | refine Ext.trans ?_ (by assumption))); first | done | fail))).h Tryd.underlying30 rfl szS ?_) | fail)
    refine (light6_any true ⟨fun _ => HL.out, fun _ => rfl⟩).mono ?_
    rintro e w2 ⟨rfl, x⟩
    have x2 := Ext.trans (show Ext w1 _ from (by (repeat (first | assumption | exact Ext.refl _ | apply Ext.drew | apply Ext.drewN | apply Ext.alloc | refine Ext.trans ?_ (by assumption))); first | done | fail)) x
    clear x
    obtain ⟨c0, c1, c2⟩ := box3 HB.out (show Ext (w.alloc (.cells #[.slice AN nN cN, .slice AE nE cE, .slice AD nD cD] 30)) w2 from (by (repeat (first | assumption | exact Ext.refl _ | apply Ext.drew | apply Ext.drewN | apply Ext.alloc | refine Ext.trans ?_ (by assumption))); first | done | fail))
    have HX := Kp.mk (show Ext w w2 from (by (repeat (first | assumption | exact Ext.refl _ | apply Ext.drew | apply Ext.drewN | apply Ext.alloc | refine Ext.trans ?_ (by assumption))); first | done | fail))
    clear x1 x2
    go_wp2_with fail
    go_ret
    exact ⟨rfl, HX.out.b⟩
  · have HL := Kp.mk hl
    have g0 : decide ((2 : Int) < (nE : Int)) = false := decide_eq_false (by omega)
    have g0' : decide (2 < nE) = false := decide_eq_false (by omega)
    have g1 : decide ((300 : Int) < (nt : Int)) = false := decide_eq_false (by omega)
    have g1' : decide (300 < nt) = false := decide_eq_false (by omega)
    have g2 : decide ((300 : Int) < (nf : Int)) = false := decide_eq_false (by omega)
    have g2' : decide (300 < nf) = false := decide_eq_false (by omega)
    have KN := Kp.mk hN
    have KE := Kp.mk hE
    have KD := Kp.mk hD
    have hn1 : nN ≤ 70 := hl.1
    have hn2 : nE ≤ 70 := hl.2.1
    have hn3 : nD ≤ 70 := hl.2.2
    have NN := Kp.mk (Nv.small hN.r hN.d (by omega))
    have bN := Kp.mk (Nat.lt_of_lt_of_le (vl_len hN.r hN.d) (Nat.pow_le_pow_right (n := BB) (by decide) (show nN ≤ 70 by omega)))
    obtain ⟨vN, hvN⟩ : ∃ v, vl BB lN = v := ⟨_, rfl⟩
    rw [hvN] at NN bN
    have HVN := Kp.mk hvN
    clear hN hvN
    have NE := Kp.mk (Nv.small hE.r hE.d (by omega))
    have bE := Kp.mk (Nat.lt_of_lt_of_le (vl_len hE.r hE.d) (Nat.pow_le_pow_right (n := BB) (by decide) (show nE ≤ 70 by omega)))
    obtain ⟨vE, hvE⟩ : ∃ v, vl BB lE = v := ⟨_, rfl⟩
    rw [hvE] at NE bE
    have HVE := Kp.mk hvE
    clear hE hvE
    have ND := Kp.mk (Nv.small hD.r hD.d (by omega))
    have bD := Kp.mk (Nat.lt_of_lt_of_le (vl_len hD.r hD.d) (Nat.pow_le_pow_right (n := BB) (by decide) (show nD ≤ 70 by omega)))
    obtain ⟨vD, hvD⟩ : ∃ v, vl BB lD = v := ⟨_, rfl⟩
    rw [hvD] at ND bD
    have HVD := Kp.mk hvD
    clear hD hvD
    have HT := Kp.mk ht
    have HF := Kp.mk hf
    have hlt := ht.len
    have hlf := hf.len
    have ht3 : nt ≤ 300 := by omega
    have hf3 : nf ≤ 300 := by omega
    have HBb := Kp.mk (hb.take (min nb_ 300) (Nat.min_le_left _ _))
    have HBo := Kp.mk hb
    have hb3 : min nb_ 300 ≤ 300 := Nat.min_le_right _ _
    have HW := Kp.mk hw
    clear hl h1 h2 h3 hb ht hf hw
    obtain ⟨lq, hlq⟩ : ∃ lq, lb.take (min nb_ 300) = lq := ⟨_, rfl⟩
    have HQ := Kp.mk hlq
    rw [hlq] at HBb
    clear hlq
    obtain ⟨ES, EH, LX, LC, bS, bH, ho⟩ := outs lq lt lf vN vE vD
    have HO := Kp.mk ho
    clear ho
    go_enter Tryd.func6, Tryd.ntmps6
    go_wp2_with fail
    refine (HU.out _).mono ?_
    rintro e w1 ⟨rfl, x⟩
    have x1 := x
    clear x
    obtain ⟨c0, c1, c2⟩ := box3 HB.out (show Ext (w.alloc (.cells #[.slice AN nN cN, .slice AE nE cE, .slice AD nD cD] 30)) w1 from (by (repeat (first | assumption | exact Ext.refl _ | apply Ext.drew | apply Ext.drewN | apply Ext.alloc | refine Ext.trans ?_ (by assumption))); first | done | fail))
    go_wp2_with (first | ((with_reducible refine at_load_to 26 4 ?_); refine wpList_load_row rfl 30 _ rfl w.heap.size rfl 30 _ (0, 0) _ (HB.out.ext (show Ext (w.alloc (.cells #[.slice AN nN cN, .slice AE nE cE, .slice AD nD cD] 30)) w1 from (by (repeat (first | assumption | exact Ext.refl _ | apply Ext.drew | apply Ext.drewN | apply Ext.alloc | refine Ext.trans ?_ (by assumption))); first | done | fail))).h Tryd.underlying30 rfl szS ?_) | fail)
    refine (light6_any true ⟨fun _ => HL.out, fun _ => rfl⟩).mono ?_
    rintro e w2 ⟨rfl, x⟩
    have x2 := Ext.trans (show Ext w1 _ from (by (repeat (first | assumption | exact Ext.refl _ | apply Ext.drew | apply Ext.drewN | apply Ext.alloc | refine Ext.trans ?_ (by assumption))); first | done | fail)) x
    clear x
    obtain ⟨c0, c1, c2⟩ := box3 HB.out (show Ext (w.alloc (.cells #[.slice AN nN cN, .slice AE nE cE, .slice AD nD cD] 30)) w2 from (by (repeat (first | assumption | exact Ext.refl _ | apply Ext.drew | apply Ext.drewN | apply Ext.alloc | refine Ext.trans ?_ (by assumption))); first | done | fail))
    go_wp2_with fail
    refine (cut6_any (HBo.out.ext (show Ext w w2 from (by (repeat (first | assumption | exact Ext.refl _ | apply Ext.drew | apply Ext.drewN | apply Ext.alloc | refine Ext.trans ?_ (by assumption))); first | done | fail))) 300 rfl).mono ?_
    rintro e w3 ⟨rfl, _, hw⟩
    subst hw
    generalize min nb_ 300 = nq at *
    obtain ⟨c0, c1, c2⟩ := box3 HB.out (show Ext (w.alloc (.cells #[.slice AN nN cN, .slice AE nE cE, .slice AD nD cD] 30)) w3 from (by (repeat (first | assumption | exact Ext.refl _ | apply Ext.drew | apply Ext.drewN | apply Ext.alloc | refine Ext.trans ?_ (by assumption))); first | done | fail))
    go_wp2_with fail
    have HBv := Kp.mk (HB.out.ext (show Ext (w.alloc (.cells #[.slice AN nN cN, .slice AE nE cE, .slice AD nD cD] 30)) w3 from (by (repeat (first | assumption | exact Ext.refl _ | apply Ext.drew | apply Ext.drewN | apply Ext.alloc | refine Ext.trans ?_ (by assumption))); first | done | fail)))
    have hx0 : Ext w w3 := (by (repeat (first | assumption | exact Ext.refl _ | apply Ext.drew | apply Ext.drewN | apply Ext.alloc | refine Ext.trans ?_ (by assumption))); first | done | fail)
    refine wp_region_held_drew (S := fun w' => Ext w3.drew w') (by kernel_rfl) (Ext.refl _) (fun _ => ?_)
    refine grow_region (ds := dsO) (L := 14) (w0 := w3.drew) (Pr := (PrO w.heap.size w3.drew.heap.size AN AE AD nN nE nD cN cE cD lN lE lD)) (Grs.of (n := 180) (by kernel_rfl) rfl PrO.keep) ?step ?fin 15 _ _ _ (Grw.start (Ext.refl _)) (count_start 14)
    case step =>
      intro i o hi ho a wz hxz hold hdep
      have hxv : Ext w3 wz := (Ext.refl w3).drew.trans hxz
      obtain ⟨c0, c1, c2⟩ := box3 HBv.out hxv
      have h4 : a.tmps[4]? = some (.pointer (some ⟨w.heap.size, 0, none⟩)) := (hold 4 (by decide)).trans rfl
      have hk0 : (Instr.fieldAt 30 (.pointer (some ⟨w.heap.size, 0, none⟩)) 0).run Tryd.prog wz = .ok (.pointer (some ⟨w.heap.size, 0, none⟩)) wz := by go_simp
      have hk1 : (Instr.fieldAt 30 (.pointer (some ⟨w.heap.size, 0, none⟩)) 1).run Tryd.prog wz = .ok (.pointer (some ⟨w.heap.size, 1, none⟩)) wz := by go_simp
      have hk2 : (Instr.fieldAt 30 (.pointer (some ⟨w.heap.size, 0, none⟩)) 2).run Tryd.prog wz = .ok (.pointer (some ⟨w.heap.size, 2, none⟩)) wz := by go_simp
      have hi14 : i = 0 ∨ i = 1 ∨ i = 2 ∨ i = 3 ∨ i = 4 ∨ i = 5 ∨ i = 6 ∨ i = 7 ∨ i = 8 ∨ i = 9 ∨ i = 10 ∨ i = 11 ∨ i = 12 ∨ i = 13 := by omega
      rcases hi14 with rfl | rfl | rfl | rfl | rfl | rfl | rfl | rfl | rfl | rfl | rfl | rfl | rfl | rfl <;> cases ho
      · exact wp_build0 rfl ⟨_, rfl, (Ext.refl wz).alloc _, (show ∃ b, _ = Value.slice (some b) 0 0 from ⟨_, rfl⟩)⟩
      · exact wp_field 30 4 0 w.heap.size rfl h4 hk0 ⟨_, rfl, Ext.refl _, rfl⟩
      · obtain ⟨v, hv, hp⟩ := hdep ⟨1, .data⟩ (by simp) rfl
        obtain rfl : v = .pointer (some ⟨w.heap.size, 0, none⟩) := hp
        exact wp_load_nat 50 w.heap.size 0 _ rfl hv c0 ⟨_, rfl, Ext.refl _, rfl⟩
      · obtain ⟨v, hv, hp⟩ := hdep ⟨0, .data⟩ (by simp) rfl
        obtain ⟨b, rfl⟩ : ∃ b, v = Value.slice (some b) 0 0 := hp
        obtain ⟨u, hu, hq⟩ := hdep ⟨2, .data⟩ (by simp) rfl
        obtain rfl : u = .slice AN nN cN := hq
        exact wp_append_clear 49 51 b rfl hv hu (KN.out.r.ext (hx0.trans hxv)) (by omega) fun A' c' w' hr hx => ⟨_, rfl, hx, (show ∃ A c, Value.slice A' nN c' = .slice A nN c ∧ Rd vL w' A nN c lN from ⟨A', c', rfl, hr⟩)⟩
      · exact wp_build0 rfl ⟨_, rfl, (Ext.refl wz).alloc _, (show ∃ b, _ = Value.slice (some b) 0 0 from ⟨_, rfl⟩)⟩
      · exact wp_field 30 4 1 w.heap.size rfl h4 hk1 ⟨_, rfl, Ext.refl _, rfl⟩
      · obtain ⟨v, hv, hp⟩ := hdep ⟨5, .data⟩ (by simp) rfl
        obtain rfl : v = .pointer (some ⟨w.heap.size, 1, none⟩) := hp
        exact wp_load_nat 54 w.heap.size 1 _ rfl hv c1 ⟨_, rfl, Ext.refl _, rfl⟩
      · obtain ⟨v, hv, hp⟩ := hdep ⟨4, .data⟩ (by simp) rfl
        obtain ⟨b, rfl⟩ : ∃ b, v = Value.slice (some b) 0 0 := hp
        obtain ⟨u, hu, hq⟩ := hdep ⟨6, .data⟩ (by simp) rfl
        obtain rfl : u = .slice AE nE cE := hq
        exact wp_append_clear 53 55 b rfl hv hu (KE.out.r.ext (hx0.trans hxv)) (by omega) fun A' c' w' hr hx => ⟨_, rfl, hx, (show ∃ A c, Value.slice A' nE c' = .slice A nE c ∧ Rd vL w' A nE c lE from ⟨A', c', rfl, hr⟩)⟩
      · exact wp_build0 rfl ⟨_, rfl, (Ext.refl wz).alloc _, (show ∃ b, _ = Value.slice (some b) 0 0 from ⟨_, rfl⟩)⟩
      · exact wp_field 30 4 2 w.heap.size rfl h4 hk2 ⟨_, rfl, Ext.refl _, rfl⟩
      · obtain ⟨v, hv, hp⟩ := hdep ⟨9, .data⟩ (by simp) rfl
        obtain rfl : v = .pointer (some ⟨w.heap.size, 2, none⟩) := hp
        exact wp_load_nat 58 w.heap.size 2 _ rfl hv c2 ⟨_, rfl, Ext.refl _, rfl⟩
      · obtain ⟨v, hv, hp⟩ := hdep ⟨8, .data⟩ (by simp) rfl
        obtain ⟨b, rfl⟩ : ∃ b, v = Value.slice (some b) 0 0 := hp
        obtain ⟨u, hu, hq⟩ := hdep ⟨10, .data⟩ (by simp) rfl
        obtain rfl : u = .slice AD nD cD := hq
        exact wp_append_clear 57 59 b rfl hv hu (KD.out.r.ext (hx0.trans hxv)) (by omega) fun A' c' w' hr hx => ⟨_, rfl, hx, (show ∃ A c, Value.slice A' nD c' = .slice A nD c ∧ Rd vL w' A nD c lD from ⟨A', c', rfl, hr⟩)⟩
      · obtain ⟨v1, u1, p1⟩ := hdep ⟨3, .data⟩ (by simp) rfl
        obtain ⟨A1, c1', rfl, r1⟩ : ∃ A c, v1 = Value.slice A nN c ∧ Rd vL wz A nN c lN := p1
        obtain ⟨v2, u2, p2⟩ := hdep ⟨7, .data⟩ (by simp) rfl
        obtain ⟨A2, c2', rfl, r2⟩ : ∃ A c, v2 = Value.slice A nE c ∧ Rd vL wz A nE c lE := p2
        obtain ⟨v3, u3, p3⟩ := hdep ⟨11, .data⟩ (by simp) rfl
        obtain ⟨A3, c3', rfl, r3⟩ : ∃ A c, v3 = Value.slice A nD c ∧ Rd vL wz A nD c lD := p3
        exact wp_build3 30 52 56 60 _ _ _ rfl u1 u2 u3 (by have e1 : a.tmps[52]? = _ := u1; have e2 : a.tmps[56]? = _ := u2; have e3 : a.tmps[60]? = _ := u3; go_simp) ⟨_, rfl, Ext.refl _, (show ∃ A c A' c' A'' c'', _ = Value.agg #[.slice A nN c, .slice A' nE c', .slice A'' nD c''] ∧ Rd vL wz A nN c lN ∧ Rd vL wz A' nE c' lE ∧ Rd vL wz A'' nD c'' lD from ⟨A1, c1', A2, c2', A3, c3', rfl, r1, r2, r3⟩)⟩
      · exact wp_alloc3 rfl ⟨_, rfl, (Ext.refl wz).alloc _, (show ∃ k, _ = Value.pointer (some ⟨k, 0, none⟩) ∧ w3.drew.heap.size ≤ k ∧ Blk _ k 30 #[.slice none 0 0, .slice none 0 0, .slice none 0 0] from ⟨_, rfl, hxz.size, Blk.new wz _ _⟩)⟩
    case fin =>
      intro o ho a wz hxz htm hdf hold hpr
      cases ho
      obtain ⟨v12, u12, p12⟩ := hpr 12 (by decide)
      obtain ⟨A1, c1, A2, c2, A3, c3, rfl, r1, r2, r3⟩ : ∃ A c A' c' A'' c'', v12 = Value.agg #[.slice A nN c, .slice A' nE c', .slice A'' nD c''] ∧ Rd vL wz A nN c lN ∧ Rd vL wz A' nE c' lE ∧ Rd vL wz A'' nD c'' lD := p12
      obtain ⟨v13, u13, p13⟩ := hpr 13 (by decide)
      obtain ⟨g, rfl, hg, hbk⟩ : ∃ k, v13 = Value.pointer (some ⟨k, 0, none⟩) ∧ w3.drew.heap.size ≤ k ∧ Blk wz k 30 #[.slice none 0 0, .slice none 0 0, .slice none 0 0] := p13
      have e11 : a.eval (.tmp 11) = .pointer (some ⟨g, 0, none⟩) := by have e : a.tmps[11]? = _ := u13; simp [Act.eval, e]
      have e61 : a.eval (.tmp 61) = .agg #[.slice A1 nN c1, .slice A2 nE c2, .slice A3 nD c3] := by have e : a.tmps[61]? = _ := u12; simp [Act.eval, e]
      refine wp_store_row 30 _ _ rfl g #[.slice A1 nN c1, .slice A2 nE c2, .slice A3 nD c3] e11 e61 30 _ hbk.h szS rfl (one_three _ _ _ _ _ _ _ _ _) ?_
      refine ⟨hxz.setRow hg _, ?_⟩
      have ea := act_puts htm hdf hold (fun i j hi hj e => dsO_inj i hi j hj e)
      have e13 : a.tmps.getD (dsO 13) undef = .pointer (some ⟨g, 0, none⟩) := by rw [Array.getD_eq_getD_getElem?, u13]; rfl
      have R1 := Kp.mk (r1.off hbk #[.slice A1 nN c1, .slice A2 nE c2, .slice A3 nD c3])
      have R2 := Kp.mk (r2.off hbk #[.slice A1 nN c1, .slice A2 nE c2, .slice A3 nD c3])
      have R3 := Kp.mk (r3.off hbk #[.slice A1 nN c1, .slice A2 nE c2, .slice A3 nD c3])
      have HG6 := Kp.mk (hbk.row #[.slice A1 nN c1, .slice A2 nE c2, .slice A3 nD c3])
      have X6 := Kp.mk (Ext.setRow ((Ext.refl w3).drew.trans hxz) (Nat.le_trans ((Ext.refl w3).drew).size hg) #[.slice A1 nN c1, .slice A2 nE c2, .slice A3 nD c3])
      generalize hvv : (fun i => a.tmps.getD (dsO i) undef) = vv at ea
      have e13b : vv 13 = .pointer (some ⟨g, 0, none⟩) := by rw [← hvv]; exact e13
      clear hvv e13 u12 u13 e11 e61 htm hdf hold hpr r1 r2 r3 hbk
      subst ea
      generalize wz.setRow g #[.slice A1 nN c1, .slice A2 nE c2, .slice A3 nD c3] = w6 at *
      clear hxz hg c0
      simp only [putsOf, dsO, List.getD_cons_zero, List.getD_cons_succ, Act.put, List.setIfInBounds_toArray, List.set_cons_zero, List.set_cons_succ, e13b]
      generalize vv 0 = y0
      generalize vv 1 = y1
      generalize vv 2 = y2
      generalize vv 3 = y3
      generalize vv 4 = y4
      generalize vv 5 = y5
      generalize vv 6 = y6
      generalize vv 7 = y7
      generalize vv 8 = y8
      generalize vv 9 = y9
      generalize vv 10 = y10
      generalize vv 11 = y11
      generalize vv 12 = y12
      clear e13b
      have x6 := X6.out
      have ho0 := Own.new w6 w6.heap.size 0 [] rfl (Nat.le_refl _) (Nat.zero_le _)
      have hx7 : Ext w6 (w6.alloc (.cells (bv []) 5)) := (by (repeat (first | assumption | exact Ext.refl _ | apply Ext.drew | apply Ext.drewN | apply Ext.alloc | refine Ext.trans ?_ (by assumption))); first | done | fail)
      have ht7 := (HT.out.ext (hx0.trans x6)).ext hx7
      go_wp2_with (first | (at_builtin; refine wpList_append_bs rfl (.tmp 62) (.tmp 63) rfl w6.heap.size _ 0 [] rfl ho0 At nt ct lt rfl ht7 (by omega) nt (by omega) lt rfl w6 hx7 (Nat.le_refl _) hx7.size ?_; intro Ao co w7 ho7 x7 _) | ((with_reducible refine at_load_to 66 11 ?_); refine wpList_load_row rfl 30 _ rfl g rfl 30 _ (0, 0) _ (HG6.out.ext (show Ext w6 _ from (by (repeat (first | assumption | exact Ext.refl _ | apply Ext.drew | apply Ext.drewN | apply Ext.alloc | refine Ext.trans ?_ (by assumption))); first | done | fail))).h Tryd.underlying30 rfl szS ?_) | fail)
      have N1 := Kp.mk (show Nv w7 A1 nN c1 vN by rw [← HVN.out]; exact Nv.small (R1.out.ext x7) KN.out.d (by omega))
      have N2 := Kp.mk (show Nv w7 A2 nE c2 vE by rw [← HVE.out]; exact Nv.small (R2.out.ext x7) KE.out.d (by omega))
      have N3 := Kp.mk (show Nv w7 A3 nD c3 vD by rw [← HVD.out]; exact Nv.small (R3.out.ext x7) KD.out.d (by omega))
      have OT := Kp.mk ho7
      have X7 := Kp.mk ((hx0.trans x6).trans x7)
      have X67 := Kp.mk x7
      clear ho7 ho0 hx7 ht7
      refine (HO.out.sign N1.out N2.out N3.out (HBb.out.ext X7.out) (by omega) (HW.out.ext X7.out)).mono ?_
      rintro e w8 ⟨A8, n8, c8, rfl, o8, x8⟩
      have O8 := Kp.mk o8
      clear o8
      go_wp2_with (first | ((with_reducible refine at_load_to 72 11 ?_); refine wpList_load_row rfl 30 _ rfl g rfl 30 _ (0, 0) _ (HG6.out.ext (show Ext w6 _ from (by (repeat (first | assumption | exact Ext.refl _ | apply Ext.drew | apply Ext.drewN | apply Ext.alloc | refine Ext.trans ?_ (by assumption))); first | done | fail))).h Tryd.underlying30 rfl szS ?_) | fail)
      refine (public6_any).mono ?_
      rintro e w9 ⟨rfl, x9⟩
      go_wp2_with fail
      refine (HO.out.hide (N1.out.ext (by (repeat (first | assumption | exact Ext.refl _ | apply Ext.drew | apply Ext.drewN | apply Ext.alloc | refine Ext.trans ?_ (by assumption))); first | done | fail)) (N2.out.ext (by (repeat (first | assumption | exact Ext.refl _ | apply Ext.drew | apply Ext.drewN | apply Ext.alloc | refine Ext.trans ?_ (by assumption))); first | done | fail)) (OT.out.bs.ext (by (repeat (first | assumption | exact Ext.refl _ | apply Ext.drew | apply Ext.drewN | apply Ext.alloc | refine Ext.trans ?_ (by assumption))); first | done | fail)) (HF.out.ext (X7.out.trans (by (repeat (first | assumption | exact Ext.refl _ | apply Ext.drew | apply Ext.drewN | apply Ext.alloc | refine Ext.trans ?_ (by assumption))); first | done | fail))) (by omega) (by omega)).mono ?_
      rintro e w10 ⟨A10, n10, c10, rfl, o10, x10⟩
      have O10 := Kp.mk (o10.lower (show w8.heap.size ≤ w9.heap.size from x9.size))
      clear o10
      have hl8 := O8.out.len
      have hl10 := O10.out.len
      have hn8 : n8 ≤ 200 := by have := HO.out.lx; omega
      have hn10 : n10 ≤ 200 := by have := HO.out.lc; omega
      have k8 := (O8.out.bs.ext (show Ext w8 w10 from (by (repeat (first | assumption | exact Ext.refl _ | apply Ext.drew | apply Ext.drewN | apply Ext.alloc | refine Ext.trans ?_ (by assumption))); first | done | fail))).str (Ext.refl _)
      have k10 := O10.out.bs.str (Ext.refl _)
      obtain ⟨sx, hsx⟩ : ∃ sx, strOf LX = sx := ⟨_, rfl⟩
      obtain ⟨sc, hsc⟩ : ∃ sc, strOf LC = sc := ⟨_, rfl⟩
      have z1 : sx.size ≤ 200 := by rw [← hsx, strOf_size]; exact HO.out.lx
      have z2 : sc.size ≤ 200 := by rw [← hsc, strOf_size]; exact HO.out.lc
      rw [hsx] at k8
      rw [hsc] at k10
      have sadd : ∀ w : World, (Op.stringOp .add sx sc).run Tryd.prog w = .ok (.string (sx ++ sc)) w := fun w => run_string_add_sum w _ _ (by omega)
      have HSX := Kp.mk hsx
      have HSC := Kp.mk hsc
      have SADD := Kp.mk sadd
      clear hsx hsc z1 z2
      go_wp2_with fail
      obtain ⟨GX, hGX, hgx⟩ := O8.out.lies
      have OX10 := Kp.mk (O8.out.ext (show Ext w8 w10 from (by (repeat (first | assumption | exact Ext.refl _ | apply Ext.drew | apply Ext.drewN | apply Ext.alloc | refine Ext.trans ?_ (by assumption))); first | done | fail)))
      have X7a := Kp.mk (show Ext w7 w10 from (by (repeat (first | assumption | exact Ext.refl _ | apply Ext.drew | apply Ext.drewN | apply Ext.alloc | refine Ext.trans ?_ (by assumption))); first | done | fail))
      have HX7 := Kp.mk X7.out
      clear x6 x7 x8 x9 x10 k8 k10 O8 O10
      go_loopw [18] (fun iv wr => ∃ (i : Nat) (l : List (BitVec 8)), i ≤ n8 ∧ iv = .int .i64 (i : Int) ∧ Own wr w7.heap.size (.slice A8 n8 c8) n8 l ∧ Mds GX w10 wr) (fun i _ => n8 - (intOf i).toNat)
      case atStart => exact ⟨0, LX, by omega, rfl, OX10.out, Mds.refl _ _⟩
      case round =>
        obtain ⟨i, l, hi, rfl, hl, hm⟩ := hrel
        by_cases hlt : i < n8
        · obtain ⟨gx, rfl, hg⟩ := hgx (by omega)
          have k3 := hl.cell i hlt
          have k4 := hl.free i
          have HL8 := Kp.mk (hl.set i (gb l i + 1))
          have HM := Kp.mk (hm.setCell (p := ⟨gx, i, none⟩) hg (.int .u8 (ub (gb l i + 1))))
          have b0 : (i : Int) < (n8 : Int) := by omega
          have b1 : (i : Int) < 9223372036854775807 := by omega
          have e2 := ub_up (gb l i)
          generalize gb l i = x at *
          generalize ub (x + 1) = y at *
          generalize ub x = z at *
          clear hl hm
          go_wp2_with fail
          go_roundw
          case rel => exact ⟨i + 1, _, by omega, by go_num, HL8.out, HM.out⟩
          case measure => simp [intOf]; omega
        · obtain rfl : i = n8 := by omega
          have X7l := Kp.mk (hm.ext X7a.out (fun k hk => (hGX k hk).1))
          clear hl hm hlt hi
          obtain ⟨GT, hGT, hgt⟩ := OT.out.lies
          have OTl := Kp.mk (OT.out.ext X7l.out)
          have hw67 := (show Ext w6 w7 from X67.out).size
          go_wp2_with fail
          obtain ⟨wo, rfl⟩ : ∃ wo : World, wo = wr := ⟨_, rfl⟩
          go_loopw [19] (fun iv wq => ∃ (j : Nat) (l : List (BitVec 8)), j ≤ nt ∧ iv = .int .i64 (j : Int) ∧ Own wq w6.heap.size (.slice Ao nt co) nt l ∧ (∀ k, j ≤ k → gb l k = gb lt k) ∧ Mds GT wo wq) (fun i _ => nt - (intOf i).toNat)
          case atStart => exact ⟨0, lt, by omega, rfl, OTl.out, fun _ _ => rfl, Mds.refl _ _⟩
          case round =>
            obtain ⟨j, l, hj, rfl, hl, hsame, hm⟩ := hrel
            have X6q := Kp.mk (hm.ext (X67.out.trans X7l.out) (fun k hk => (hGT k hk).1))
            have XWq := Kp.mk ((hx0.trans X6.out).trans X6q.out)
            by_cases hlt : j < nt
            · obtain ⟨gt, rfl, hg⟩ := hgt (by omega)
              have k3 := hl.cell j hlt
              rw [hsame j (Nat.le_refl _)] at k3
              have k4 := hl.free j
              obtain ⟨g2, o2, rfl, hc2⟩ := HT.out.s.2.2.2 (by omega)
              have k5 := (XWq.out.b.cell (p := ⟨g2, o2 + j, none⟩) (block_lt_of_cell (hc2 j hlt))).trans (hc2 j hlt)
              have HLt := Kp.mk (hl.set j (gb lt j + 1))
              have HM := Kp.mk (hm.setCell (p := ⟨gt, j, none⟩) hg (.int .u8 (ub (gb lt j + 1))))
              have HSM := Kp.mk (show ∀ k, j + 1 ≤ k → gb (l.set j (gb lt j + 1)) k = gb lt k from fun k hk => by rw [gb_set _ _ _ _ (by rw [hl.len]; exact hlt), if_neg (by omega)]; exact hsame k (by omega))
              have b0 : (j : Int) < (nt : Int) := by omega
              have b1 : (j : Int) < 9223372036854775807 := by omega
              have e2 := ub_up (gb lt j)
              generalize gb lt j = x at *
              generalize ub (x + 1) = y at *
              generalize ub x = z at *
              clear hl hm hsame hc2
              go_wp2_with fail
              go_quiet (fail)
              go_wp2_with fail
              go_roundw
              case rel => exact ⟨j + 1, _, by omega, by go_num, HLt.out.ext (drewN_up ⟨_, rfl⟩), HSM.out, HM.out.drewN ⟨_, rfl⟩⟩
              case measure => simp [intOf]; omega
            · obtain rfl : j = nt := by omega
              have XV := Kp.mk (X6.out.trans X6q.out)
              clear hl hm hsame hlt hj
              go_wp2_with (first | ((with_reducible refine at_load_to 122 4 ?_); refine wpList_load_row rfl 30 _ rfl w.heap.size rfl 30 _ (0, 0) _ (HBv.out.ext (XV.out.trans (by (repeat (first | assumption | exact Ext.refl _ | apply Ext.drew | apply Ext.drewN | apply Ext.alloc | refine Ext.trans ?_ (by assumption))); first | done | fail))).h Tryd.underlying30 rfl szS ?_) | fail)
              refine (HO.out.sign (NN.out.ext XWq.out) (NE.out.ext XWq.out) (ND.out.ext XWq.out) (HBb.out.ext XWq.out) (by omega) (HW.out.ext XWq.out)).mono ?_
              rintro e wa ⟨A11, n11, c11, rfl, o11, xa⟩
              have O11 := Kp.mk o11.bs
              clear o11
              go_wp2_with (first | ((with_reducible refine at_load_to 128 4 ?_); refine wpList_load_row rfl 30 _ rfl w.heap.size rfl 30 _ (0, 0) _ (HBv.out.ext (XV.out.trans (by (repeat (first | assumption | exact Ext.refl _ | apply Ext.drew | apply Ext.drewN | apply Ext.alloc | refine Ext.trans ?_ (by assumption))); first | done | fail))).h Tryd.underlying30 rfl szS ?_) | fail)
              refine (public6_any).mono ?_
              rintro e wb ⟨rfl, xb⟩
              go_wp2_with fail
              refine (HO.out.hide (NN.out.ext (XWq.out.trans (by (repeat (first | assumption | exact Ext.refl _ | apply Ext.drew | apply Ext.drewN | apply Ext.alloc | refine Ext.trans ?_ (by assumption))); first | done | fail))) (NE.out.ext (XWq.out.trans (by (repeat (first | assumption | exact Ext.refl _ | apply Ext.drew | apply Ext.drewN | apply Ext.alloc | refine Ext.trans ?_ (by assumption))); first | done | fail))) (HT.out.ext (XWq.out.trans (by (repeat (first | assumption | exact Ext.refl _ | apply Ext.drew | apply Ext.drewN | apply Ext.alloc | refine Ext.trans ?_ (by assumption))); first | done | fail))) (HF.out.ext (XWq.out.trans (by (repeat (first | assumption | exact Ext.refl _ | apply Ext.drew | apply Ext.drewN | apply Ext.alloc | refine Ext.trans ?_ (by assumption))); first | done | fail))) (by omega) (by omega)).mono ?_
              rintro e wc ⟨A13, n13, c13, rfl, o13, xc⟩
              have O13 := Kp.mk o13.bs
              clear o13
              have XRC := Kp.mk (show Ext wr wc from (by (repeat (first | assumption | exact Ext.refl _ | apply Ext.drew | apply Ext.drewN | apply Ext.alloc | refine Ext.trans ?_ (by assumption))); first | done | fail))
              have X6c := Kp.mk (X6q.out.trans XRC.out)
              have XWc := Kp.mk (XWq.out.trans XRC.out)
              have P11 := Kp.mk (O11.out.ext (show Ext wa wc from (by (repeat (first | assumption | exact Ext.refl _ | apply Ext.drew | apply Ext.drewN | apply Ext.alloc | refine Ext.trans ?_ (by assumption))); first | done | fail)))
              clear xa xb xc
              have QN := Kp.mk (NN.out.ext XWc.out)
              have QD := Kp.mk (ND.out.ext XWc.out)
              have QA := Kp.mk (show Nv wc A1 nN c1 vN by rw [← HVN.out]; exact Nv.small (R1.out.ext X6c.out) KN.out.d (by omega))
              have QC := Kp.mk (show Nv wc A3 nD c3 vD by rw [← HVD.out]; exact Nv.small (R3.out.ext X6c.out) KD.out.d (by omega))
              obtain ⟨m0, m1, m2⟩ := box3t (HBv.out.ext (XV.out.trans XRC.out))
              obtain ⟨q0, q1, q2⟩ := box3t (HG6.out.ext X6c.out)
              go_wp2_with fail
              refine wp_region_held_drew (S := fun w' => Ext wc w') (by kernel_rfl) (Ext.refl wc).drew (fun hHeld => ?_)
              refine wpAnyH_take (i := 0) (oi := ⟨some 135, _, _, _, _, _⟩) (v := ?_) rfl (by kernel_rfl) (by kernel_rfl) (by kernel_rfl) (fun _ _ _ h => h) (Or.inl ⟨by rfl, ?_⟩) (by assumption) ?_
              rotate_left
              · (intro w hSw; (try dsimp only at hSw); go_simp; try with_reducible rfl)
              try simp only [Act.put, List.setIfInBounds_toArray, List.set_cons_zero, List.set_cons_succ]
              refine wpAnyH_take (i := 1) (oi := ⟨some 136, _, _, _, _, _⟩) (v := ?_) rfl (by kernel_rfl) (by kernel_rfl) (by kernel_rfl) (fun _ _ _ h => h) (Or.inl ⟨by rfl, ?_⟩) (by assumption) ?_
              rotate_left
              · (intro w hSw; (try dsimp only at hSw); go_simp; try with_reducible rfl)
              try simp only [Act.put, List.setIfInBounds_toArray, List.set_cons_zero, List.set_cons_succ]
              refine wpAnyH_take (i := 3) (oi := ⟨some 138, _, _, _, _, _⟩) (v := ?_) rfl (by kernel_rfl) (by kernel_rfl) (by kernel_rfl) (fun _ _ _ h => h) (Or.inl ⟨by rfl, ?_⟩) (by assumption) ?_
              rotate_left
              · (intro w hSw; (try dsimp only at hSw); go_simp; try with_reducible rfl)
              try simp only [Act.put, List.setIfInBounds_toArray, List.set_cons_zero, List.set_cons_succ]
              refine wpAnyH_take (i := 4) (oi := ⟨some 139, _, _, _, _, _⟩) (v := ?_) rfl (by kernel_rfl) (by kernel_rfl) (by kernel_rfl) (fun _ _ _ h => h) (Or.inl ⟨by rfl, ?_⟩) (by assumption) ?_
              rotate_left
              · (intro w hSw; (try dsimp only at hSw); go_simp; try with_reducible rfl)
              try simp only [Act.put, List.setIfInBounds_toArray, List.set_cons_zero, List.set_cons_succ]
              refine next_one 2 (by kernel_rfl) rfl (by rfl) fun K' HK' => ?_
              go_simp
              refine (OfV (QA.out.ext hHeld)).mono ?_
              rintro e wd ⟨Ad, nd, cd, rfl, rd_, _, xd⟩
              have yd := hHeld.trans xd
              have Jd := Kp.mk (Ni.of rd_ bN.out (by decide))
              have hS2 := Ext.trans hHeld xd
              refine held_go HK' hS2 (fun _ => ?_)
              clear HK'
              refine held_more (S' := fun w' => Ext wd w') (fun _ h => Ext.trans hS2 h) _ _ _ _ ?_
              clear hHeld hS2
              have hHeld : Ext wd wd := Ext.refl _
              try simp only [Act.put, List.setIfInBounds_toArray, List.set_cons_zero, List.set_cons_succ]
              replace m0 := box_fwd m0 yd
              replace m1 := box_fwd m1 yd
              replace m2 := box_fwd m2 yd
              replace q0 := box_fwd q0 yd
              replace q1 := box_fwd q1 yd
              replace q2 := box_fwd q2 yd
              refine next_one 5 (by kernel_rfl) rfl (by rfl) fun K' HK' => ?_
              go_simp
              refine (OfV (QN.out.ext yd)).mono ?_
              rintro e we ⟨Ae, ne_, ce, rfl, re_, _, xe⟩
              have ye := yd.trans xe
              have Je := Kp.mk (Ni.of re_ bN.out (by decide))
              have hS2 := Ext.trans hHeld xe
              refine held_go HK' hS2 (fun _ => ?_)
              clear HK'
              refine held_more (S' := fun w' => Ext we w') (fun _ h => Ext.trans hS2 h) _ _ _ _ ?_
              clear hHeld hS2
              have hHeld : Ext we we := Ext.refl _
              try simp only [Act.put, List.setIfInBounds_toArray, List.set_cons_zero, List.set_cons_succ]
              replace m0 := box_fwd m0 xe
              replace m1 := box_fwd m1 xe
              replace m2 := box_fwd m2 xe
              replace q0 := box_fwd q0 xe
              replace q1 := box_fwd q1 xe
              replace q2 := box_fwd q2 xe
              refine next_one 6 (by kernel_rfl) rfl (by rfl) fun K' HK' => ?_
              go_simp
              refine (RCmpV (Jd.out.ext xe) Je.out 0 (cmpI_same rfl)).mono ?_
              rintro e wf ⟨rfl, xf⟩
              have yf := ye.trans xf
              have hS2 := Ext.trans hHeld xf
              refine held_go HK' hS2 (fun _ => ?_)
              clear HK'
              refine held_more (S' := fun w' => Ext wf w') (fun _ h => Ext.trans hS2 h) _ _ _ _ ?_
              clear hHeld hS2
              have hHeld : Ext wf wf := Ext.refl _
              try simp only [Act.put, List.setIfInBounds_toArray, List.set_cons_zero, List.set_cons_succ]
              replace m0 := box_fwd m0 xf
              replace m1 := box_fwd m1 xf
              replace m2 := box_fwd m2 xf
              replace q0 := box_fwd q0 xf
              replace q1 := box_fwd q1 xf
              replace q2 := box_fwd q2 xf
              refine wpAnyH_take (i := 7) (oi := ⟨some 142, _, _, _, _, _⟩) (v := ?_) rfl (by kernel_rfl) (by kernel_rfl) (by kernel_rfl) (fun _ _ _ h => h) (Or.inl ⟨by rfl, ?_⟩) (by assumption) ?_
              rotate_left
              · (intro w hSw; (try dsimp only at hSw); go_simp; try with_reducible rfl)
              try simp only [Act.put, List.setIfInBounds_toArray, List.set_cons_zero, List.set_cons_succ]
              refine wpAnyH_take (i := 8) (oi := ⟨some 143, _, _, _, _, _⟩) (v := ?_) rfl (by kernel_rfl) (by kernel_rfl) (by kernel_rfl) (fun _ _ _ h => h) (Or.inl ⟨by rfl, ?_⟩) (by assumption) ?_
              rotate_left
              · (intro w hSw; (try dsimp only at hSw); go_simp; try with_reducible rfl)
              try simp only [Act.put, List.setIfInBounds_toArray, List.set_cons_zero, List.set_cons_succ]
              refine wpAnyH_take (i := 9) (oi := ⟨some 144, _, _, _, _, _⟩) (v := ?_) rfl (by kernel_rfl) (by kernel_rfl) (by kernel_rfl) (fun _ _ _ h => h) (Or.inl ⟨by rfl, ?_⟩) (by assumption) ?_
              rotate_left
              · (intro w hSw; (try dsimp only at hSw); go_simp; try with_reducible rfl)
              try simp only [Act.put, List.setIfInBounds_toArray, List.set_cons_zero, List.set_cons_succ]
              refine wpAnyH_take (i := 10) (oi := ⟨some 145, _, _, _, _, _⟩) (v := ?_) rfl (by kernel_rfl) (by kernel_rfl) (by kernel_rfl) (fun _ _ _ h => h) (Or.inl ⟨by rfl, ?_⟩) (by assumption) ?_
              rotate_left
              · (intro w hSw; (try dsimp only at hSw); go_simp; try with_reducible rfl)
              try simp only [Act.put, List.setIfInBounds_toArray, List.set_cons_zero, List.set_cons_succ]
              refine wpAnyH_take (i := 12) (oi := ⟨some 147, _, _, _, _, _⟩) (v := ?_) rfl (by kernel_rfl) (by kernel_rfl) (by kernel_rfl) (fun _ _ _ h => h) (Or.inl ⟨by rfl, ?_⟩) (by assumption) ?_
              rotate_left
              · (intro w hSw; (try dsimp only at hSw); go_simp; try with_reducible rfl)
              try simp only [Act.put, List.setIfInBounds_toArray, List.set_cons_zero, List.set_cons_succ]
              refine wpAnyH_take (i := 13) (oi := ⟨some 148, _, _, _, _, _⟩) (v := ?_) rfl (by kernel_rfl) (by kernel_rfl) (by kernel_rfl) (fun _ _ _ h => h) (Or.inl ⟨by rfl, ?_⟩) (by assumption) ?_
              rotate_left
              · (intro w hSw; (try dsimp only at hSw); go_simp; try with_reducible rfl)
              try simp only [Act.put, List.setIfInBounds_toArray, List.set_cons_zero, List.set_cons_succ]
              refine next_one 11 (by kernel_rfl) rfl (by rfl) fun K' HK' => ?_
              go_simp
              refine (OfV (QC.out.ext yf)).mono ?_
              rintro e wg ⟨Ag, ng, cg, rfl, rg_, _, xg⟩
              have yg := yf.trans xg
              have Jg := Kp.mk (Ni.of rg_ bD.out (by decide))
              have hS2 := Ext.trans hHeld xg
              refine held_go HK' hS2 (fun _ => ?_)
              clear HK'
              refine held_more (S' := fun w' => Ext wg w') (fun _ h => Ext.trans hS2 h) _ _ _ _ ?_
              clear hHeld hS2
              have hHeld : Ext wg wg := Ext.refl _
              try simp only [Act.put, List.setIfInBounds_toArray, List.set_cons_zero, List.set_cons_succ]
              refine next_one 14 (by kernel_rfl) rfl (by rfl) fun K' HK' => ?_
              go_simp
              refine (OfV (QD.out.ext yg)).mono ?_
              rintro e wh ⟨Ah, nh, ch, rfl, rh_, _, xh⟩
              have yh := yg.trans xh
              have Jh := Kp.mk (Ni.of rh_ bD.out (by decide))
              have hS2 := Ext.trans hHeld xh
              refine held_go HK' hS2 (fun _ => ?_)
              clear HK'
              refine held_more (S' := fun w' => Ext wh w') (fun _ h => Ext.trans hS2 h) _ _ _ _ ?_
              clear hHeld hS2
              have hHeld : Ext wh wh := Ext.refl _
              try simp only [Act.put, List.setIfInBounds_toArray, List.set_cons_zero, List.set_cons_succ]
              refine next_one 15 (by kernel_rfl) rfl (by rfl) fun K' HK' => ?_
              go_simp
              refine (RCmpV (Jg.out.ext xh) Jh.out 0 (cmpI_same rfl)).mono ?_
              rintro e wi ⟨rfl, xi⟩
              have yi := yh.trans xi
              have hS2 := Ext.trans hHeld xi
              refine held_go HK' hS2 (fun _ => ?_)
              clear HK'
              refine held_more (S' := fun w' => Ext wi w') (fun _ h => Ext.trans hS2 h) _ _ _ _ ?_
              clear hHeld hS2
              have hHeld : Ext wi wi := Ext.refl _
              try simp only [Act.put, List.setIfInBounds_toArray, List.set_cons_zero, List.set_cons_succ]
              refine wpAnyH_take (i := 16) (oi := ⟨some 151, _, _, _, _, _⟩) (v := ?_) rfl (by kernel_rfl) (by kernel_rfl) (by kernel_rfl) (fun _ _ _ h => h) (Or.inl ⟨by rfl, ?_⟩) (by assumption) ?_
              rotate_left
              · (intro w hSw; (try dsimp only at hSw); go_simp; try with_reducible rfl)
              try simp only [Act.put, List.setIfInBounds_toArray, List.set_cons_zero, List.set_cons_succ]
              refine wpAnyH_take (i := 17) (oi := ⟨some 152, _, _, _, _, _⟩) (v := ?_) rfl (by kernel_rfl) (by kernel_rfl) (by kernel_rfl) (fun _ _ _ h => h) (Or.inl ⟨by rfl, ?_⟩) (by assumption) ?_
              rotate_left
              · (intro w hSw; (try dsimp only at hSw); go_simp; try with_reducible rfl)
              try simp only [Act.put, List.setIfInBounds_toArray, List.set_cons_zero, List.set_cons_succ]
              refine wpAnyH_take (i := 18) (oi := ⟨some 24, _, _, _, _, _⟩) (v := ?_) rfl (by kernel_rfl) (by kernel_rfl) (by kernel_rfl) (fun _ _ _ h => h) (Or.inl ⟨by rfl, ?_⟩) (by assumption) ?_
              rotate_left
              · (intro w hSw; (try dsimp only at hSw); go_simp; try with_reducible rfl)
              try simp only [Act.put, List.setIfInBounds_toArray, List.set_cons_zero, List.set_cons_succ]
              refine wpAnyH_done (by kernel_rfl) ?_ _
              have XC := Kp.mk (XWc.out.trans yi)
              have k11 := fun (w' : World) (hx : Ext wi w') => P11.out.str (yi.trans hx)
              have k13 := fun (w' : World) (hx : Ext wi w') => O13.out.str (yi.trans hx)
              rw [HSX.out] at k11
              rw [HSC.out] at k13
              have s1 := HO.out.es.eq
              have s2 := HO.out.es.grd
              have s3 := HO.out.eh.eq
              have s4 := HO.out.eh.grd
              have s5 := SADD.out
              clear m0 m1 m2 q0 q1 q2 yd ye yf yg yh xd xe xf xg xh xi rd_ re_ rg_ rh_
              go_wp2_with fail
              refine wp_region_held_drew (S := fun w' => Ext wi w') (by kernel_rfl) (Ext.refl wi).drew (fun hHeld => ?_)
              refine wpAnyH_take (i := 0) (oi := ⟨some 153, _, _, _, _, _⟩) (v := ?_) rfl (by kernel_rfl) (by kernel_rfl) (by kernel_rfl) (fun _ _ _ h => h) (Or.inl ⟨by rfl, ?_⟩) (by assumption) ?_
              rotate_left
              · (intro w hSw; (try dsimp only at hSw); go_simp; try with_reducible rfl)
              try simp only [Act.put, List.setIfInBounds_toArray, List.set_cons_zero, List.set_cons_succ]
              refine wpAnyH_take (i := 1) (oi := ⟨some 154, _, _, _, _, _⟩) (v := ?_) rfl (by kernel_rfl) (by kernel_rfl) (by kernel_rfl) (fun _ _ _ h => h) (Or.inl ⟨by rfl, ?_⟩) (by assumption) ?_
              rotate_left
              · (intro w hSw; (try dsimp only at hSw); go_simp; try with_reducible rfl)
              try simp only [Act.put, List.setIfInBounds_toArray, List.set_cons_zero, List.set_cons_succ]
              refine wpAnyH_take (i := 2) (oi := ⟨some 155, _, _, _, _, _⟩) (v := ?_) rfl (by kernel_rfl) (by kernel_rfl) (by kernel_rfl) (fun _ _ _ h => h) (Or.inl ⟨by rfl, ?_⟩) (by assumption) ?_
              rotate_left
              · (intro w hSw; (try dsimp only at hSw); go_simp; try with_reducible rfl)
              try simp only [Act.put, List.setIfInBounds_toArray, List.set_cons_zero, List.set_cons_succ]
              refine wpAnyH_take (i := 3) (oi := ⟨some 156, _, _, _, _, _⟩) (v := ?_) rfl (by kernel_rfl) (by kernel_rfl) (by kernel_rfl) (fun _ _ _ h => h) (Or.inl ⟨by rfl, ?_⟩) (by assumption) ?_
              rotate_left
              · (intro w hSw; (try dsimp only at hSw); go_simp; try with_reducible rfl)
              try simp only [Act.put, List.setIfInBounds_toArray, List.set_cons_zero, List.set_cons_succ]
              refine wpAnyH_take (i := 4) (oi := ⟨some 157, _, _, _, _, _⟩) (v := ?_) rfl (by kernel_rfl) (by kernel_rfl) (by kernel_rfl) (fun _ _ _ h => h) (Or.inl ⟨by rfl, ?_⟩) (by assumption) ?_
              rotate_left
              · (intro w hSw; (try dsimp only at hSw); go_simp; try with_reducible rfl)
              try simp only [Act.put, List.setIfInBounds_toArray, List.set_cons_zero, List.set_cons_succ]
              refine wpAnyH_take (i := 5) (oi := ⟨some 158, _, _, _, _, _⟩) (v := ?_) rfl (by kernel_rfl) (by kernel_rfl) (by kernel_rfl) (fun _ _ _ h => h) (Or.inl ⟨by rfl, ?_⟩) (by assumption) ?_
              rotate_left
              · (intro w hSw; (try dsimp only at hSw); go_simp; try with_reducible rfl)
              try simp only [Act.put, List.setIfInBounds_toArray, List.set_cons_zero, List.set_cons_succ]
              refine wpAnyH_take (i := 6) (oi := ⟨some 159, _, _, _, _, _⟩) (v := ?_) rfl (by kernel_rfl) (by kernel_rfl) (by kernel_rfl) (fun _ _ _ h => h) (Or.inl ⟨by rfl, ?_⟩) (by assumption) ?_
              rotate_left
              · (intro w hSw; (try dsimp only at hSw); go_simp; try with_reducible rfl)
              try simp only [Act.put, List.setIfInBounds_toArray, List.set_cons_zero, List.set_cons_succ]
              refine wpAnyH_take (i := 7) (oi := ⟨some 160, _, _, _, _, _⟩) (v := ?_) rfl (by kernel_rfl) (by kernel_rfl) (by kernel_rfl) (fun _ _ _ h => h) (Or.inl ⟨by rfl, ?_⟩) (by assumption) ?_
              rotate_left
              · (intro w hSw; (try dsimp only at hSw); go_simp; try with_reducible rfl)
              try simp only [Act.put, List.setIfInBounds_toArray, List.set_cons_zero, List.set_cons_succ]
              refine wpAnyH_take (i := 8) (oi := ⟨some 161, _, _, _, _, _⟩) (v := ?_) rfl (by kernel_rfl) (by kernel_rfl) (by kernel_rfl) (fun _ _ _ h => h) (Or.inl ⟨by rfl, ?_⟩) (by assumption) ?_
              rotate_left
              · (intro w hSw; (try dsimp only at hSw); go_simp; try with_reducible rfl)
              try simp only [Act.put, List.setIfInBounds_toArray, List.set_cons_zero, List.set_cons_succ]
              refine wpAnyH_take (i := 9) (oi := ⟨some 162, _, _, _, _, _⟩) (v := ?_) rfl (by kernel_rfl) (by kernel_rfl) (by kernel_rfl) (fun _ _ _ h => h) (Or.inl ⟨by rfl, ?_⟩) (by assumption) ?_
              rotate_left
              · (intro w hSw; (try dsimp only at hSw); go_simp; try with_reducible rfl)
              try simp only [Act.put, List.setIfInBounds_toArray, List.set_cons_zero, List.set_cons_succ]
              refine wpAnyH_take (i := 10) (oi := ⟨some 163, _, _, _, _, _⟩) (v := ?_) rfl (by kernel_rfl) (by kernel_rfl) (by kernel_rfl) (fun _ _ _ h => h) (Or.inl ⟨by rfl, ?_⟩) (by assumption) ?_
              rotate_left
              · (intro w hSw; (try dsimp only at hSw); go_simp; try with_reducible rfl)
              try simp only [Act.put, List.setIfInBounds_toArray, List.set_cons_zero, List.set_cons_succ]
              refine wpAnyH_take (i := 11) (oi := ⟨some 164, _, _, _, _, _⟩) (v := ?_) rfl (by kernel_rfl) (by kernel_rfl) (by kernel_rfl) (fun _ _ _ h => h) (Or.inl ⟨by rfl, ?_⟩) (by assumption) ?_
              rotate_left
              · (intro w hSw; (try dsimp only at hSw); go_simp; try with_reducible rfl)
              try simp only [Act.put, List.setIfInBounds_toArray, List.set_cons_zero, List.set_cons_succ]
              refine wpAnyH_take (i := 12) (oi := ⟨some 165, _, _, _, _, _⟩) (v := ?_) rfl (by kernel_rfl) (by kernel_rfl) (by kernel_rfl) (fun _ _ _ h => h) (Or.inl ⟨by rfl, ?_⟩) (by assumption) ?_
              rotate_left
              · (intro w hSw; (try dsimp only at hSw); go_simp; try with_reducible rfl)
              try simp only [Act.put, List.setIfInBounds_toArray, List.set_cons_zero, List.set_cons_succ]
              refine wpAnyH_take (i := 13) (oi := ⟨some 166, _, _, _, _, _⟩) (v := ?_) rfl (by kernel_rfl) (by kernel_rfl) (by kernel_rfl) (fun _ _ _ h => h) (Or.inl ⟨by rfl, ?_⟩) (by assumption) ?_
              rotate_left
              · (intro w hSw; (try dsimp only at hSw); go_simp; try with_reducible rfl)
              try simp only [Act.put, List.setIfInBounds_toArray, List.set_cons_zero, List.set_cons_succ]
              refine wpAnyH_take (i := 14) (oi := ⟨some 167, _, _, _, _, _⟩) (v := ?_) rfl (by kernel_rfl) (by kernel_rfl) (by kernel_rfl) (fun _ _ _ h => h) (Or.inl ⟨by rfl, ?_⟩) (by assumption) ?_
              rotate_left
              · (intro w hSw; (try dsimp only at hSw); go_simp; try with_reducible rfl)
              try simp only [Act.put, List.setIfInBounds_toArray, List.set_cons_zero, List.set_cons_succ]
              refine wpAnyH_take (i := 15) (oi := ⟨some 168, _, _, _, _, _⟩) (v := ?_) rfl (by kernel_rfl) (by kernel_rfl) (by kernel_rfl) (fun _ _ _ h => h) (Or.inl ⟨by rfl, ?_⟩) (by assumption) ?_
              rotate_left
              · (intro w hSw; (try dsimp only at hSw); go_simp; try with_reducible rfl)
              try simp only [Act.put, List.setIfInBounds_toArray, List.set_cons_zero, List.set_cons_succ]
              refine wpAnyH_take (i := 16) (oi := ⟨some 169, _, _, _, _, _⟩) (v := ?_) rfl (by kernel_rfl) (by kernel_rfl) (by kernel_rfl) (fun _ _ _ h => h) (Or.inl ⟨by rfl, ?_⟩) (by assumption) ?_
              rotate_left
              · (intro w hSw; (try dsimp only at hSw); go_simp; try with_reducible rfl)
              try simp only [Act.put, List.setIfInBounds_toArray, List.set_cons_zero, List.set_cons_succ]
              refine wpAnyH_take (i := 17) (oi := ⟨some 170, _, _, _, _, _⟩) (v := ?_) rfl (by kernel_rfl) (by kernel_rfl) (by kernel_rfl) (fun _ _ _ h => h) (Or.inl ⟨by rfl, ?_⟩) (by assumption) ?_
              rotate_left
              · (intro w hSw; (try dsimp only at hSw); go_simp; try with_reducible rfl)
              try simp only [Act.put, List.setIfInBounds_toArray, List.set_cons_zero, List.set_cons_succ]
              refine wpAnyH_take (i := 18) (oi := ⟨some 171, _, _, _, _, _⟩) (v := ?_) rfl (by kernel_rfl) (by kernel_rfl) (by kernel_rfl) (fun _ _ _ h => h) (Or.inl ⟨by rfl, ?_⟩) (by assumption) ?_
              rotate_left
              · (intro w hSw; (try dsimp only at hSw); go_simp; try with_reducible rfl)
              try simp only [Act.put, List.setIfInBounds_toArray, List.set_cons_zero, List.set_cons_succ]
              refine wpAnyH_take (i := 19) (oi := ⟨some 172, _, _, _, _, _⟩) (v := ?_) rfl (by kernel_rfl) (by kernel_rfl) (by kernel_rfl) (fun _ _ _ h => h) (Or.inl ⟨by rfl, ?_⟩) (by assumption) ?_
              rotate_left
              · (intro w hSw; (try dsimp only at hSw); go_simp; try with_reducible rfl)
              try simp only [Act.put, List.setIfInBounds_toArray, List.set_cons_zero, List.set_cons_succ]
              refine wpAnyH_take (i := 20) (oi := ⟨some 173, _, _, _, _, _⟩) (v := ?_) rfl (by kernel_rfl) (by kernel_rfl) (by kernel_rfl) (fun _ _ _ h => h) (Or.inl ⟨by rfl, ?_⟩) (by assumption) ?_
              rotate_left
              · (intro w hSw; (try dsimp only at hSw); go_simp; try with_reducible rfl)
              try simp only [Act.put, List.setIfInBounds_toArray, List.set_cons_zero, List.set_cons_succ]
              refine wpAnyH_take (i := 21) (oi := ⟨some 174, _, _, _, _, _⟩) (v := ?_) rfl (by kernel_rfl) (by kernel_rfl) (by kernel_rfl) (fun _ _ _ h => h) (Or.inl ⟨by rfl, ?_⟩) (by assumption) ?_
              rotate_left
              · (intro w hSw; (try dsimp only at hSw); go_simp; try with_reducible rfl)
              try simp only [Act.put, List.setIfInBounds_toArray, List.set_cons_zero, List.set_cons_succ]
              refine wpAnyH_take (i := 22) (oi := ⟨some 175, _, _, _, _, _⟩) (v := ?_) rfl (by kernel_rfl) (by kernel_rfl) (by kernel_rfl) (fun _ _ _ h => h) (Or.inl ⟨by rfl, ?_⟩) (by assumption) ?_
              rotate_left
              · (intro w hSw; (try dsimp only at hSw); go_simp; try with_reducible rfl)
              try simp only [Act.put, List.setIfInBounds_toArray, List.set_cons_zero, List.set_cons_succ]
              refine wpAnyH_take (i := 23) (oi := ⟨some 176, _, _, _, _, _⟩) (v := ?_) rfl (by kernel_rfl) (by kernel_rfl) (by kernel_rfl) (fun _ _ _ h => h) (Or.inl ⟨by rfl, ?_⟩) (by assumption) ?_
              rotate_left
              · (intro w hSw; (try dsimp only at hSw); go_simp; try with_reducible rfl)
              try simp only [Act.put, List.setIfInBounds_toArray, List.set_cons_zero, List.set_cons_succ]
              refine wpAnyH_take (i := 24) (oi := ⟨some 177, _, _, _, _, _⟩) (v := ?_) rfl (by kernel_rfl) (by kernel_rfl) (by kernel_rfl) (fun _ _ _ h => h) (Or.inl ⟨by rfl, ?_⟩) (by assumption) ?_
              rotate_left
              · (intro w hSw; (try dsimp only at hSw); go_simp; try with_reducible rfl)
              try simp only [Act.put, List.setIfInBounds_toArray, List.set_cons_zero, List.set_cons_succ]
              refine wpAnyH_take (i := 25) (oi := ⟨some 178, _, _, _, _, _⟩) (v := ?_) rfl (by kernel_rfl) (by kernel_rfl) (by kernel_rfl) (fun _ _ _ h => h) (Or.inl ⟨by rfl, ?_⟩) (by assumption) ?_
              rotate_left
              · (intro w hSw; (try dsimp only at hSw); go_simp; try with_reducible rfl)
              try simp only [Act.put, List.setIfInBounds_toArray, List.set_cons_zero, List.set_cons_succ]
              refine wpAnyH_take (i := 26) (oi := ⟨some 179, _, _, _, _, _⟩) (v := ?_) rfl (by kernel_rfl) (by kernel_rfl) (by kernel_rfl) (fun _ _ _ h => h) (Or.inl ⟨by rfl, ?_⟩) (by assumption) ?_
              rotate_left
              · (intro w hSw; (try dsimp only at hSw); go_simp; try with_reducible rfl)
              try simp only [Act.put, List.setIfInBounds_toArray, List.set_cons_zero, List.set_cons_succ]
              refine wpAnyH_take (i := 27) (oi := ⟨some 8, _, _, _, _, _⟩) (v := ?_) rfl (by kernel_rfl) (by kernel_rfl) (by kernel_rfl) (fun _ _ _ h => h) (Or.inl ⟨by rfl, ?_⟩) (by assumption) ?_
              rotate_left
              · (intro w hSw; (try dsimp only at hSw); go_simp; try with_reducible rfl)
              try simp only [Act.put, List.setIfInBounds_toArray, List.set_cons_zero, List.set_cons_succ]
              refine wpAnyH_done (by kernel_rfl) ?_ _
              clear k11 k13 s1 s2 s3 s4 s5
              go_wp2_with fail
              go_ret
              exact ⟨by first | rfl | simp, (XC.out.trans (Ext.refl wi).drew).b⟩
end Go.Proofs.YticggkllfojgkaaDoor
