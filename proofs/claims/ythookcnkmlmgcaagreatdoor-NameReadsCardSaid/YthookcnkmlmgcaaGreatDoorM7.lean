/-
  prim: belowZero, isNumber, ReadInt; the reference's Number, Value.
  prim: isOid; the reference's Oid.
  What the rows' readings give the walks: arrays of words and of bytes, slices of bytes.
  What the rows' readings give the walks: moments, bits, identifiers.
-/
import Derived.Test.YthookcnkmlmgcaaGreatDoorM6
import Derived.Test.YthookcnkmlmgcaaGreatDoorM4
import Derived.Test.YthookcnkmlmgcaaGreatDoorM1
import Derived.Test.YthookcnkmlmgcaaGreatDoorRows
import Derived.Test.YthookcnkmlmgcaaGreatDoorM3
import Derived.ProofKit
import Derived.LaidMore
import Derived.OpenShut
import Derived.Lay
import Derived.MakeChecks
import Derived.ChangeOld
import Derived.Stop.Joined
import Derived.SizedLaws
import Derived.Test.YthookcnkmlmgcaaGreatDoorM5
import Derived.Deep.Slices
import Derived.Deep.Strs
import Derived.Lib.SmallJoins
namespace Go.Proofs.YthookcnkmlmgcaaGreatDoor
open Go Go.RowKit
set_option maxRecDepth 4000

/-- a slice cut at its head -/
theorem Bs.cut {w : World} {A : Option Addr} {n c : Nat} {l : List (BitVec 8)} (h : Bs w A n c l) (k : Nat) (hk : k ≤ n) : ∃ A', (if c = k then A else A.map (·.add k)) = A' ∧ Bs w A' (n - k) (c - k) (l.drop k) := by
  have hl := h.len
  have hcap := h.cap
  refine ⟨_, rfl, by rw [List.length_drop, hl], by omega, fun e => ?_, fun hn => ?_⟩
  · have hA : A = none := by
      cases A with
      | none => rfl
      | some a => split at e <;> simp at e
    have := h.s.2.2.1 hA
    omega
  · obtain ⟨g, o, rfl, hc⟩ := h.s.2.2.2 (by omega)
    rw [if_neg (by omega)]
    have hadd : (⟨g, o, none⟩ : Addr).add k = ⟨g, o + k, none⟩ := by unfold Addr.add; split <;> simp_all
    refine ⟨g, o + k, by simp [hadd], fun j hj => ?_⟩
    rw [gb_drop, Nat.add_assoc]
    exact hc (k + j) (by omega)
theorem and128b (x : BitVec 8) : bits .and .u8 (ub x) 128 = if 128 ≤ x.toNat then 128 else 0 := by
  revert x
  refine all8 ?_
  decide +kernel
theorem tcB_cases (b : List (BitVec 8)) (h : 2 ≤ b.length) : (gb b 0 = 0 ∧ tcB b = decide (128 ≤ (gb b 1).toNat)) ∨ (gb b 0 = 255 ∧ tcB b = !decide (128 ≤ (gb b 1).toNat)) ∨ (gb b 0 ≠ 0 ∧ gb b 0 ≠ 255 ∧ tcB b = true) := by
  obtain ⟨x, y, r, rfl⟩ : ∃ x y r, b = x :: y :: r := by
    match b, h with
    | x :: y :: r, _ => exact ⟨x, y, r, rfl⟩
  have e0 : gb (x :: y :: r) 0 = x := rfl
  have e1 : gb (x :: y :: r) 1 = y := rfl
  rw [e0, e1]
  unfold tcB
  by_cases h0 : x = 0
  · subst h0
    refine .inl ⟨rfl, ?_⟩
    by_cases h1 : 128 ≤ y.toNat
    · simp [h1]
    · simp [h1]; omega
  · by_cases h2 : x = 255
    · subst h2
      refine .inr (.inl ⟨rfl, ?_⟩)
      by_cases h1 : 128 ≤ y.toNat
      · simp [h1]
      · simp [h1]
    · refine .inr (.inr ⟨h0, h2, ?_⟩)
      show (!(x == 0 && decide (y.toNat < 128)) && !(x == 255 && decide (128 ≤ y.toNat))) = true
      rw [beq_eq_false_iff_ne.2 h0, beq_eq_false_iff_ne.2 h2]
      rfl
theorem ub_neq {x k : BitVec 8} (h : x ≠ k) (z : Int) (hz : ub k = z) : (ub x == z) = false ∧ ¬ ub x = z := by
  have e : ¬ ub x = z := fun e => h (by rw [← hz] at e; unfold ub at e; exact BitVec.eq_of_toNat_eq (by omega))
  exact ⟨beq_eq_false_iff_ne.2 e, e⟩
/-- the number that the first bytes of a body make -/
def tcP (b : List (BitVec 8)) (j : Nat) : Int := beF (if 128 ≤ (gb b 0).toNat then -1 else 0) (b.take j)
theorem tcP_all (b : List (BitVec 8)) : tcP b b.length = tcV b := by unfold tcP tcV; rw [List.take_length]
theorem tcP_zero (b : List (BitVec 8)) : tcP b 0 = if 128 ≤ (gb b 0).toNat then -1 else 0 := rfl
theorem take_gb (l : List (BitVec 8)) (i : Nat) (h : i < l.length) : l.take (i + 1) = l.take i ++ [gb l i] := by
  rw [List.take_succ_eq_append_getElem h]
  simp [gb, h]
theorem tcP_succ (b : List (BitVec 8)) (j : Nat) (h : j < b.length) : tcP b (j + 1) = tcP b j * 256 + ub (gb b j) := by
  unfold tcP
  rw [take_gb b j h]
  unfold beF
  rw [List.foldl_append]
  rfl
theorem tcP_range (b : List (BitVec 8)) (j : Nat) (hj : j < b.length) (h8 : j ≤ 7) : -36028797018963968 ≤ tcP b j ∧ tcP b j < 36028797018963968 := by
  cases j with
  | zero => rw [tcP_zero]; split <;> omega
  | succ j =>
    have e : tcP b (j + 1) = tcV (b.take (j + 1)) := by
      unfold tcP tcV
      rw [gb_take _ _ _ (by omega)]
    have hlen : (b.take (j + 1)).length = j + 1 := by rw [List.length_take]; omega
    have hr := tcV_range (b.take (j + 1)) (by intro e; rw [e] at hlen; simp at hlen)
    rw [hlen] at hr
    have hm := tcH_mono (j := j + 1) (k := 7) (by omega)
    have h7 : tcH 7 = 36028797018963968 := by decide
    rw [e]
    omega
theorem int8_of (x : BitVec 8) : IntKind.i8.wrap (ub x) = (if 128 ≤ x.toNat then -1 else 0) * 256 + ub x := by
  revert x
  refine all8 ?_
  decide +kernel
end Go.Proofs.YthookcnkmlmgcaaGreatDoor
namespace Go.Proofs.YthookcnkmlmgcaaGreatDoor
open Go Go.RowKit
set_option maxRecDepth 4000

/-- is a list an identifier? -/
def oidK (l : List Nat) : Bool := decide (2 ≤ l.length) && (decide (l.length ≤ 16) && (decide (dg l 0 ≤ 2) && (if dg l 0 < 2 then decide (dg l 1 < 40) else decide (dg l 1 ≤ 4294967215))))
theorem oidK_iff {l : List Nat} (h : Dg 4294967296 l) : oidK l = true ↔ OidP l := by
  unfold oidK OidP
  constructor
  · intro h1
    simp only [Bool.and_eq_true, decide_eq_true_eq] at h1
    obtain ⟨h2, h3, h4, h5⟩ := h1
    match l, h2 with
    | a :: b :: r, _ =>
      refine ⟨a, b, r, rfl, h3, h4, ?_, ?_, fun n hn => h n (by simp [hn])⟩
      · intro ha
        rw [if_pos (show dg (a :: b :: r) 0 < 2 from ha), decide_eq_true_eq] at h5
        exact h5
      · by_cases ha : a < 2
        · rw [if_pos (show dg (a :: b :: r) 0 < 2 from ha), decide_eq_true_eq] at h5
          have : b < 40 := h5
          omega
        · rw [if_neg (show ¬ dg (a :: b :: r) 0 < 2 from ha), decide_eq_true_eq] at h5
          exact h5
  · rintro ⟨a, b, r, rfl, h3, h4, h5, h6, h7⟩
    have e0 : dg (a :: b :: r) 0 = a := rfl
    have e1 : dg (a :: b :: r) 1 = b := rfl
    rw [e0, e1]
    simp only [Bool.and_eq_true, decide_eq_true_eq]
    refine ⟨by simp, h3, h4, ?_⟩
    split
    · rename_i ha; exact decide_eq_true (h5 ha)
    · exact decide_eq_true h6
set_option maxHeartbeats 2000000 in
theorem isOid_any {l : List Nat} {A : Option Addr} {n c : Nat} {w : World} (h : Rd vL w A n c l) : Calls Tryz.prog 64 #[.slice A n c] w fun e w' => e = .returned (.bool (oidK l)) ∧ w' = w := by
  have hl := h.len
  by_cases h2 : n < 2
  · have e : oidK l = false := by unfold oidK; rw [decide_eq_false (by omega), Bool.false_and]
    rw [e]
    have b1 : decide ((n : Int) < 2) = true := decide_eq_true (by omega)
    clear h hl e h2
    go_enter Tryz.func64, Tryz.ntmps64
    go_wp2
    go_ret
    exact ⟨rfl, rfl⟩
  · have b1 : decide ((n : Int) < 2) = false := decide_eq_false (by omega)
    by_cases h3 : 16 < n
    · have e : oidK l = false := by unfold oidK; rw [decide_eq_false (p := l.length ≤ 16) (by omega), Bool.false_and, Bool.and_false]
      rw [e]
      have b2 : decide ((16 : Int) < (n : Int)) = true := decide_eq_true (by omega)
      clear h hl e h2 h3
      go_enter Tryz.func64, Tryz.ntmps64
      go_wp2
      go_ret
      exact ⟨rfl, rfl⟩
    · have b2 : decide ((16 : Int) < (n : Int)) = false := decide_eq_false (by omega)
      have b0 : (0 : Int) < (n : Int) := by omega
      have b4 : (1 : Int) < (n : Int) := by omega
      obtain ⟨g, o, rfl⟩ := h.some_ (by omega)
      have c0 := h.dig 0 (by omega)
      have c1 := h.dig 1 (by omega)
      unfold vL at c0 c1
      rw [Nat.add_zero] at c0
      have e : oidK l = (decide (dg l 0 ≤ 2) && (if dg l 0 < 2 then decide (dg l 1 < 40) else decide (dg l 1 ≤ 4294967215))) := by
        unfold oidK
        rw [decide_eq_true (p := 2 ≤ l.length) (by omega), decide_eq_true (p := l.length ≤ 16) (by omega), Bool.true_and, Bool.true_and]
      rw [e]
      clear h hl e h2 h3
      generalize dg l 0 = x at *
      generalize dg l 1 = y at *
      by_cases hx : 2 < x
      · rw [decide_eq_false (p := x ≤ 2) (by omega), Bool.false_and]
        have b3 : decide ((2 : Int) < (x : Int)) = true := decide_eq_true (by omega)
        clear hx
        go_enter Tryz.func64, Tryz.ntmps64
        go_wp2
        go_ret
        exact ⟨rfl, rfl⟩
      · rw [decide_eq_true (p := x ≤ 2) (by omega), Bool.true_and]
        have b3 : decide ((2 : Int) < (x : Int)) = false := decide_eq_false (by omega)
        by_cases hx2 : x < 2
        · have b5 : decide ((x : Int) < 2) = true := decide_eq_true (by omega)
          rw [if_pos hx2]
          have b6 : decide (y < 40) = decide ((y : Int) < 40) := by rw [Bool.eq_iff_iff]; simp; omega
          rw [b6]
          clear hx hx2 b6
          go_enter Tryz.func64, Tryz.ntmps64
          go_wp2
          go_ret
          exact ⟨rfl, rfl⟩
        · have b5 : decide ((x : Int) < 2) = false := decide_eq_false (by omega)
          rw [if_neg hx2]
          have b6 : decide (y ≤ 4294967215) = decide ((y : Int) ≤ 4294967215) := by rw [Bool.eq_iff_iff]; simp; omega
          rw [b6]
          clear hx hx2 b6
          go_enter Tryz.func64, Tryz.ntmps64
          go_wp2
          go_ret
          exact ⟨rfl, rfl⟩
set_option maxHeartbeats 2000000 in
theorem refOid_any {l : List Nat} {A : Option Addr} {n c : Nat} {w : World} (h : Rd vL w A n c l) : Calls Tryz.prog 30 #[.slice A n c] w fun e w' => e = .returned (.bool (oidK l)) ∧ w' = w := by
  have hl := h.len
  by_cases h2 : n < 2
  · have e : oidK l = false := by unfold oidK; rw [decide_eq_false (by omega), Bool.false_and]
    rw [e]
    have b1 : decide ((n : Int) < 2) = true := decide_eq_true (by omega)
    clear h hl e h2
    go_enter Tryz.func30, Tryz.ntmps30
    go_wp2
    go_ret
    exact ⟨rfl, rfl⟩
  · have b1 : decide ((n : Int) < 2) = false := decide_eq_false (by omega)
    by_cases h3 : 16 < n
    · have e : oidK l = false := by unfold oidK; rw [decide_eq_false (p := l.length ≤ 16) (by omega), Bool.false_and, Bool.and_false]
      rw [e]
      have b2 : decide ((16 : Int) < (n : Int)) = true := decide_eq_true (by omega)
      clear h hl e h2 h3
      go_enter Tryz.func30, Tryz.ntmps30
      go_wp2
      go_ret
      exact ⟨rfl, rfl⟩
    · have b2 : decide ((16 : Int) < (n : Int)) = false := decide_eq_false (by omega)
      have b0 : (0 : Int) < (n : Int) := by omega
      have b4 : (1 : Int) < (n : Int) := by omega
      obtain ⟨g, o, rfl⟩ := h.some_ (by omega)
      have c0 := h.dig 0 (by omega)
      have c1 := h.dig 1 (by omega)
      unfold vL at c0 c1
      rw [Nat.add_zero] at c0
      have e : oidK l = (decide (dg l 0 ≤ 2) && (if dg l 0 < 2 then decide (dg l 1 < 40) else decide (dg l 1 ≤ 4294967215))) := by
        unfold oidK
        rw [decide_eq_true (p := 2 ≤ l.length) (by omega), decide_eq_true (p := l.length ≤ 16) (by omega), Bool.true_and, Bool.true_and]
      rw [e]
      clear h hl e h2 h3
      generalize dg l 0 = x at *
      generalize dg l 1 = y at *
      by_cases hx : 2 < x
      · rw [decide_eq_false (p := x ≤ 2) (by omega), Bool.false_and]
        have b3 : decide ((2 : Int) < (x : Int)) = true := decide_eq_true (by omega)
        clear hx
        go_enter Tryz.func30, Tryz.ntmps30
        go_wp2
        go_ret
        exact ⟨rfl, rfl⟩
      · rw [decide_eq_true (p := x ≤ 2) (by omega), Bool.true_and]
        have b3 : decide ((2 : Int) < (x : Int)) = false := decide_eq_false (by omega)
        by_cases hx2 : x < 2
        · have b5 : decide ((x : Int) < 2) = true := decide_eq_true (by omega)
          rw [if_pos hx2]
          have b6 : decide (y < 40) = decide ((y : Int) < 40) := by rw [Bool.eq_iff_iff]; simp; omega
          rw [b6]
          clear hx hx2 b6
          go_enter Tryz.func30, Tryz.ntmps30
          go_wp2
          go_ret
          exact ⟨rfl, rfl⟩
        · have b5 : decide ((x : Int) < 2) = false := decide_eq_false (by omega)
          rw [if_neg hx2]
          have b6 : decide (y ≤ 4294967215) = decide ((y : Int) ≤ 4294967215) := by rw [Bool.eq_iff_iff]; simp; omega
          rw [b6]
          clear hx hx2 b6
          go_enter Tryz.func30, Tryz.ntmps30
          go_wp2
          go_ret
          exact ⟨rfl, rfl⟩
end Go.Proofs.YthookcnkmlmgcaaGreatDoor
namespace Go.Proofs.YthookcnkmlmgcaaGreatDoor
open Go Go.ChangeShapes Go.WideShapes Go.ChangeAt Go.RowKit
set_option maxRecDepth 4000

theorem ownKnob_none : ownKnob Tryz.prog.godebug = none := by kernel_rfl
theorem laidOut : laidOutB Tryz.prog = true := by kernel_rfl

section
variable {H : Type} {enc : TypeId × Value → H} {P : Program} {w : World} {base : Nat} {spare : Nat → Bool} {held : Bool}
theorem wf_u32 {n : Int} (h : (Lit.int .u32 n).wf = true) : ∃ x : BitVec 32, n = un x := by
  have hb := bounds_u32 h
  refine ⟨BitVec.ofNat 32 n.toNat, ?_⟩
  rw [un_ofNat _ (by omega)]; omega
theorem wf_u8 {n : Int} (h : (Lit.int .u8 n).wf = true) : ∃ x : BitVec 8, n = ub x := by
  have hb := bounds_u8 h
  refine ⟨BitVec.ofNat 8 n.toNat, ?_⟩
  rw [ub_ofNat]; omega
/-- cells that read as integers -/
theorem list_of_cells {α : Type} (f : α → Value) : ∀ (n : Nat) (cs : List Value), cs.length = n → (∀ i, i < n → ∃ x, cs[i]? = some (f x)) → ∃ l : List α, cs = l.map f ∧ l.length = n
  | 0, [], _, _ => ⟨[], rfl, rfl⟩
  | n + 1, c :: cs, hl, h => by
    obtain ⟨x, hx⟩ := h 0 (by omega)
    obtain ⟨l, rfl, hl2⟩ := list_of_cells f n cs (by simpa using hl) (fun i hi => by
      obtain ⟨y, hy⟩ := h (i + 1) (by omega)
      exact ⟨y, by simpa using hy⟩)
    have e : c = f x := by simpa using hx
    exact ⟨x :: l, by rw [e]; rfl, by simp [hl2]⟩
  | 0, _ :: _, hl, _ => by simp at hl
  | _ + 1, [], hl, _ => by simp at hl
theorem words_of_trod {t e n fuel : Nat} {cs : List Value} {x : DataW H × List MemPlace} (ht : P.underlying t = some (.array n e)) (he : P.underlying e = some (.int .u32)) (hce : P.cellsOf e = 1) (hct : P.cellsOf t = n)
    (h : DataW.trod enc P w base spare held fuel t cs = some x) : ∃ l : List (BitVec 32), cs = l.map vu ∧ l.length = n := by
  obtain ⟨xs, m, _, _, hl, hn, hel⟩ := DataW.trod_array ht h
  refine list_of_cells vu n cs (hl.trans hct) fun i hi => ?_
  have hE := hel i hi
  rw [hce, Nat.mul_one, List.getElem?_eq_getElem (by omega)] at hE
  obtain ⟨z, e1, _, hw⟩ := DataW.trod_int he hE
  obtain ⟨y, rfl⟩ := wf_u32 hw
  refine ⟨y, ?_⟩
  have := congrArg (fun q : List Value => q[0]?) e1
  simpa [List.getElem?_take, List.getElem?_drop] using this
theorem bytes_of_trod {t e n fuel : Nat} {cs : List Value} {x : DataW H × List MemPlace} (ht : P.underlying t = some (.array n e)) (he : P.underlying e = some (.int .u8)) (hce : P.cellsOf e = 1) (hct : P.cellsOf t = n)
    (h : DataW.trod enc P w base spare held fuel t cs = some x) : ∃ l : List (BitVec 8), cs = l.map vb ∧ l.length = n := by
  obtain ⟨xs, m, _, _, hl, hn, hel⟩ := DataW.trod_array ht h
  refine list_of_cells vb n cs (hl.trans hct) fun i hi => ?_
  have hE := hel i hi
  rw [hce, Nat.mul_one, List.getElem?_eq_getElem (by omega)] at hE
  obtain ⟨z, e1, _, hw⟩ := DataW.trod_int he hE
  obtain ⟨y, rfl⟩ := wf_u8 hw
  refine ⟨y, ?_⟩
  have := congrArg (fun q : List Value => q[0]?) e1
  simpa [List.getElem?_take, List.getElem?_drop] using this
/-- an array of words by value -/
theorem open_words {t e n base' : Nat} {v : Value} {d : DataW H} {p : List MemPlace} (ht : P.underlying t = some (.array n e)) (he : P.underlying e = some (.int .u32)) (hce : P.cellsOf e = 1) (hct : P.cellsOf t = n)
    (hv : Value.okWide P w .any base' t v) (h : DataW.Trod enc P w base spare held t v d p) : ∃ l : List (BitVec 32), v = .agg (wv l) ∧ l.length = n := by
  obtain ⟨cs, rfl, _, _⟩ : ∃ cs, v = .agg cs ∧ cs.size = P.cellsOf t ∧ Row.okWide P w .any base' t cs := by
    simpa [Value.okWide, ht] using hv
  obtain ⟨fuel, hf⟩ := h
  obtain ⟨l, e1, hl⟩ := words_of_trod ht he hce hct hf
  refine ⟨l, ?_, hl⟩
  congr 1
  apply Array.ext'
  simpa [wv, Value.cells] using e1
/-- an array of bytes by value -/
theorem open_block {t e n base' : Nat} {v : Value} {d : DataW H} {p : List MemPlace} (ht : P.underlying t = some (.array n e)) (he : P.underlying e = some (.int .u8)) (hce : P.cellsOf e = 1) (hct : P.cellsOf t = n)
    (hv : Value.okWide P w .any base' t v) (h : DataW.Trod enc P w base spare held t v d p) : ∃ l : List (BitVec 8), v = .agg (bv l) ∧ l.length = n := by
  obtain ⟨cs, rfl, _, _⟩ : ∃ cs, v = .agg cs ∧ cs.size = P.cellsOf t ∧ Row.okWide P w .any base' t cs := by
    simpa [Value.okWide, ht] using hv
  obtain ⟨fuel, hf⟩ := h
  obtain ⟨l, e1, hl⟩ := bytes_of_trod ht he hce hct hf
  refine ⟨l, ?_, hl⟩
  congr 1
  apply Array.ext'
  simpa [bv, Value.cells] using e1
/-- a slice of bytes that came in -/
theorem open_bytes {t e base' : Nat} {v : Value} {d : DataW H} {p : List MemPlace} (ht : P.underlying t = some (.slice e)) (he : P.underlying e = some (.int .u8)) (hce : P.cellsOf e = 1)
    (hv : Value.okWide P w .any base' t v) (h : DataW.Trod enc P w 0 (fun _ => true) held t v d p) : ∃ A n c l, v = .slice A n c ∧ Sl w A n c l ∧ c ≤ maxLen := by
  obtain ⟨a0, len, cap, rfl⟩ := okWide_slice ht hv
  obtain ⟨fuel, hf⟩ := h
  rcases open_ints ht he hce hf with ⟨hcs, _⟩ | ⟨a, len', cap', zs, hcs, _, hl, hm, hz, _, hcell, hwz⟩
  · simp [Value.cells] at hcs
    obtain ⟨rfl, rfl, rfl⟩ := hcs
    exact ⟨none, 0, 0, [], rfl, Sl.nil _, Nat.zero_le _⟩
  · simp [Value.cells] at hcs
    obtain ⟨rfl, rfl, rfl⟩ := hcs
    simp only [if_true] at hz
    have hx : ∀ i, i < zs.length → ∃ x : BitVec 8, (zs.map (Value.int .u8))[i]? = some (vb x) := fun i hi => by
      obtain ⟨y, hy⟩ := wf_u8 (hwz _ (List.getElem_mem hi))
      exact ⟨y, by simp [hi, hy]⟩
    obtain ⟨l, hl1, hl2⟩ := list_of_cells vb zs.length (zs.map (Value.int .u8)) (by simp) hx
    refine ⟨some a, len, cap, l.take len, rfl, ⟨by rw [List.length_take]; omega, hl, (fun e => by cases e), fun hn => ?_⟩, hm⟩
    obtain ⟨b, off, rfl, hc⟩ := ints_at hcell (by omega)
    refine ⟨b, off, rfl, fun j hj => ?_⟩
    rw [gb_take _ _ _ hj, hc j (by omega)]
    have e1 := congrArg (fun q : List Value => q[j]?) hl1
    have hjz : j < zs.length := by omega
    have hjl : j < l.length := by omega
    simp only [List.getElem?_map, List.getElem?_eq_getElem hjz, List.getElem?_eq_getElem hjl, Option.map_some] at e1
    simp only [List.getD_eq_getElem?_getD, List.getElem?_eq_getElem hjz, Option.getD_some, e1]
    simp [gb, hjl]
/-- a slice of bytes that came in, with what its data weighs -/
theorem open_bytes_z {t e base' : Nat} {v : Value} {d : DataW H} {p : List MemPlace} (ht : P.underlying t = some (.slice e)) (he : P.underlying e = some (.int .u8)) (hce : P.cellsOf e = 1)
    (hv : Value.okWide P w .any base' t v) (h : DataW.Trod enc P w 0 (fun _ => true) held t v d p) : ∃ A n c l, v = .slice A n c ∧ Sl w A n c l ∧ c ≤ maxLen ∧ (n = 0 ∨ ∃ es ss, d = .slice es ss ∧ n ≤ es.length + ss.length) := by
  obtain ⟨A, n, c, l, rfl, hs, hm⟩ := open_bytes ht he hce hv h
  refine ⟨A, n, c, l, rfl, hs, hm, ?_⟩
  obtain ⟨fuel, hf⟩ := h
  rcases open_ints ht he hce hf with ⟨hcs, _⟩ | ⟨a, len', cap', zs, hcs, _, hl, _, hz, hx, _, _⟩
  · simp [Value.cells] at hcs
    exact .inl hcs.2.1
  · simp [Value.cells] at hcs
    obtain ⟨rfl, rfl, rfl⟩ := hcs
    simp only [if_true] at hz
    refine .inr ⟨_, _, (congrArg Prod.fst hx), ?_⟩
    simp only [lits, List.length_map, List.length_take, List.length_drop]
    omega
theorem sized_bytes {ts : List TypeId} {ds : List (DataW H)} (h : (DataW.weightsEach P ts ds).all (· ≤ reachBytes) = true) {j t e n : Nat} {d : DataW H} (ht : ts[j]? = some t) (hd : ds[j]? = some d) (hu : P.underlying t = some (.slice e)) (hb : P.bytesOf e = 1)
    (hq : n = 0 ∨ ∃ es ss, d = .slice es ss ∧ n ≤ es.length + ss.length) : n ≤ 140737488355328 := by
  rcases hq with rfl | ⟨es, ss, rfl, hn⟩
  · omega
  · have h1 := sized_slice h ht hd hu
    have h2 := reachBytes_lt
    rw [hb] at h1
    omega
end
end Go.Proofs.YthookcnkmlmgcaaGreatDoor
namespace Go.Proofs.YthookcnkmlmgcaaGreatDoor
open Go Go.ChangeShapes Go.WideShapes Go.ChangeAt Go.RowKit Go.Joins Go.Deep Go.WideElems Go.Maps
set_option maxRecDepth 4000

section
variable {H : Type} {enc : TypeId × Value → H} {P : Program} {w : World} {held : Bool}
theorem open_time_of {t base' : Nat} {f0 f1 f2 f3 f4 f5 : Field} {v : Value} {d : DataW H} {p : List MemPlace} (hs : P.underlying t = some (.struct #[f0, f1, f2, f3, f4, f5])) (hone : oneCellFields P #[f0, f1, f2, f3, f4, f5] = true) (hC : P.cellsOf t = 6)
    (h0 : P.underlying f0.type = some (.int .i64)) (h1 : P.underlying f1.type = some (.int .i64)) (h2 : P.underlying f2.type = some (.int .i64)) (h3 : P.underlying f3.type = some (.int .i64)) (h4 : P.underlying f4.type = some (.int .i64)) (h5 : P.underlying f5.type = some (.int .i64))
    (hv : Value.okWide P w .any base' t v) (h : DataW.Trod enc P w 0 (fun _ => true) held t v d p) : ∃ y mo d h mi s, v = .agg (tci y mo d h mi s) := by
  obtain ⟨cs, rfl, hsz⟩ := okWide_struct hs hv
  obtain ⟨l⟩ := cs
  match l, (hsz.trans hC) with
  | [c0, c1, c2, c3, c4, c5], _ =>
    obtain ⟨fuel, hf⟩ := h
    obtain ⟨xs, n, _, hx, hl, hlen, hg⟩ := DataW.trod_struct hs hf
    obtain ⟨o0, k0⟩ := hone_of hone 0 f0 rfl
    obtain ⟨o1, k1⟩ := hone_of hone 1 f1 rfl
    obtain ⟨o2, k2⟩ := hone_of hone 2 f2 rfl
    obtain ⟨o3, k3⟩ := hone_of hone 3 f3 rfl
    obtain ⟨o4, k4⟩ := hone_of hone 4 f4 rfl
    obtain ⟨o5, k5⟩ := hone_of hone 5 f5 rfl
    match xs, hlen with
    | [y0, y1, y2, y3, y4, y5], _ =>
      have g0 := hg 0 f0 rfl
      have g1 := hg 1 f1 rfl
      have g2 := hg 2 f2 rfl
      have g3 := hg 3 f3 rfl
      have g4 := hg 4 f4 rfl
      have g5 := hg 5 f5 rfl
      simp [Value.cells, o0, k0] at g0
      simp [Value.cells, o1, k1] at g1
      simp [Value.cells, o2, k2] at g2
      simp [Value.cells, o3, k3] at g3
      simp [Value.cells, o4, k4] at g4
      simp [Value.cells, o5, k5] at g5
      obtain ⟨z0, e0, _, _⟩ := DataW.trod_int h0 g0
      obtain ⟨z1, e1, _, _⟩ := DataW.trod_int h1 g1
      obtain ⟨z2, e2, _, _⟩ := DataW.trod_int h2 g2
      obtain ⟨z3, e3, _, _⟩ := DataW.trod_int h3 g3
      obtain ⟨z4, e4, _, _⟩ := DataW.trod_int h4 g4
      obtain ⟨z5, e5, _, _⟩ := DataW.trod_int h5 g5
      cases e0
      cases e1
      cases e2
      cases e3
      cases e4
      cases e5
      exact ⟨z0, z1, z2, z3, z4, z5, rfl⟩
theorem open_bytes_at8 {t e fuel : Nat} {v : Value} {x : DataW H × List MemPlace} (ht : P.underlying t = some (.slice e)) (he : P.underlying e = some (.int .u8)) (hce : P.cellsOf e = 1)
    (hf : DataW.trod enc P w 0 (fun _ => true) held fuel t [v] = some x) : ∃ A n c l, v = .slice A n c ∧ Sl w A n c l ∧ c ≤ maxLen := by
  rcases open_ints ht he hce hf with ⟨hcs, _⟩ | ⟨a, len, cap, zs, hcs, _, hl, hm, hz, _, hcell, hwz⟩
  · obtain rfl : v = .slice none 0 0 := by simpa using hcs
    exact ⟨none, 0, 0, [], rfl, Sl.nil _, Nat.zero_le _⟩
  · obtain rfl : v = .slice (some a) len cap := by simpa using hcs
    simp only [if_true] at hz
    have hx : ∀ i, i < zs.length → ∃ x : BitVec 8, (zs.map (Value.int .u8))[i]? = some (vb x) := fun i hi => by
      obtain ⟨y, hy⟩ := wf_u8 (hwz _ (List.getElem_mem hi))
      exact ⟨y, by simp [hi, hy]⟩
    obtain ⟨l, hl1, hl2⟩ := list_of_cells vb zs.length (zs.map (Value.int .u8)) (by simp) hx
    refine ⟨some a, len, cap, l.take len, rfl, ⟨by rw [List.length_take]; omega, hl, (fun e => by cases e), fun hn => ?_⟩, hm⟩
    obtain ⟨b, off, rfl, hc⟩ := ints_at hcell (by omega)
    refine ⟨b, off, rfl, fun j hj => ?_⟩
    rw [gb_take _ _ _ hj, hc j (by omega)]
    have e1 := congrArg (fun q : List Value => q[j]?) hl1
    have hjz : j < zs.length := by omega
    have hjl : j < l.length := by omega
    simp only [List.getElem?_map, List.getElem?_eq_getElem hjz, List.getElem?_eq_getElem hjl, Option.map_some] at e1
    simp only [List.getD_eq_getElem?_getD, List.getElem?_eq_getElem hjz, Option.getD_some, e1]
    simp [gb, hjl]
theorem open_bits_of {t eb base' : Nat} {f0 f1 : Field} {v : Value} {d : DataW H} {p : List MemPlace} (hs : P.underlying t = some (.struct #[f0, f1])) (hone : oneCellFields P #[f0, f1] = true) (hC : P.cellsOf t = 2)
    (h0 : P.underlying f0.type = some (.slice eb)) (h4 : P.underlying eb = some (.int .u8)) (h5 : P.cellsOf eb = 1) (h1 : P.underlying f1.type = some (.int .i64))
    (hv : Value.okWide P w .any base' t v) (h : DataW.Trod enc P w 0 (fun _ => true) held t v d p) : ∃ A n c l u, v = .agg #[.slice A n c, .int .i64 u] ∧ Sl w A n c l := by
  obtain ⟨v0, v1, y0, y1, n, rfl, _, _, r0, r1⟩ := open_agg2 hs hone hC hv h
  obtain ⟨A0, n0, c0, l0, rfl, a0, _⟩ := open_bytes_at8 h0 h4 h5 r0
  obtain ⟨z1, e1, _, _⟩ := DataW.trod_int h1 r1
  cases e1
  exact ⟨A0, n0, c0, l0, z1, rfl, a0⟩
theorem open_arcs {t e base' : Nat} {v : Value} {d : DataW H} {p : List MemPlace} (ht : P.underlying t = some (.slice e)) (he : P.underlying e = some (.int .u32)) (hce : P.cellsOf e = 1)
    (hv : Value.okWide P w .any base' t v) (h : DataW.Trod enc P w 0 (fun _ => true) held t v d p) : ∃ A n c l, v = .slice A n c ∧ Rd vL w A n c l ∧ Dg 4294967296 l ∧ c ≤ maxLen := by
  obtain ⟨a0, len, cap, rfl⟩ := okWide_slice ht hv
  obtain ⟨fuel, hf⟩ := h
  rcases open_ints ht he hce hf with ⟨hcs, _⟩ | ⟨a, len', cap', zs, hcs, _, hl, hm, hz, _, hcell, hwz⟩
  · simp [Value.cells] at hcs
    obtain ⟨rfl, rfl, rfl⟩ := hcs
    exact ⟨none, 0, 0, [], rfl, Rd.nil _, (fun d hd => by cases hd), Nat.zero_le _⟩
  · simp [Value.cells] at hcs
    obtain ⟨rfl, rfl, rfl⟩ := hcs
    simp only [if_true] at hz
    refine ⟨some a, len, cap, (zs.map Int.toNat).take len, rfl, ⟨by rw [List.length_take, List.length_map]; omega, hl, (fun e => by cases e), fun hn => ?_⟩, fun x hx => ?_, hm⟩
    · obtain ⟨b, off, rfl, hc⟩ := ints_at hcell (by omega)
      refine ⟨b, off, rfl, fun j x hj => ?_⟩
      have hjn : j < len := by have := (List.getElem?_eq_some_iff.1 hj).1; rw [List.length_take] at this; omega
      rw [hc j (by omega)]
      rw [List.getElem?_take, if_pos hjn, List.getElem?_map, List.getElem?_eq_getElem (by omega)] at hj
      have hb := bounds_u32 (hwz zs[j] (List.getElem_mem (by omega)))
      cases hj
      simp only [List.getD_eq_getElem?_getD, List.getElem?_eq_getElem (show j < zs.length by omega), Option.getD_some, vL]
      congr 2
      omega
    · obtain ⟨y, hy, rfl⟩ := List.mem_map.1 (List.mem_of_mem_take hx)
      have hb := bounds_u32 (hwz y hy)
      show y.toNat < 4294967296
      omega
end
end Go.Proofs.YthookcnkmlmgcaaGreatDoor
