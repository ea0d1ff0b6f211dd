/-
  Moments compared; later moments have greater bodies.
-/
import Derived.Test.YtfipgmjaabggjaaVVg
import Derived.Laws.StructEq
namespace Go.Proofs.Ytfipgmjaabggjaa
open Go Go.RowKit
set_option maxRecDepth 4000

theorem eqFields_same {P : Program} (w : World) (d : Nat) (xs : Array Value) : ∀ (fs : List Field), (∀ f ∈ fs, ∃ v, (part f.type xs f.offset).run P w = .ok v w ∧ (Op.equalIn d f.type v v).run P w = .ok true w) → (Op.eqFields d xs xs fs).run P w = .ok true w
  | [], _ => by simp [Op.eqFields]
  | f :: fs, h => by
    obtain ⟨v, h1, h2⟩ := h f (by simp)
    have ih := eqFields_same w d xs fs fun g hg => h g (by simp [hg])
    simp only [Op.eqFields, Sem.run_bind, Sem.run_ite]
    split
    · rw [h1]
      simp only [Result.andThen_ok]
      rw [h1]
      simp only [Result.andThen_ok]
      rw [h2]
      simp [ih]
    · simp [ih]
theorem part6 (a b c d e f : Int) (w : World) (k : Nat) (hk : k < 6) : ∃ z : Int, (part 3 (tci a b c d e f) k).run Try.prog w = .ok (.int .i64 z) w := by
  have hi : (Try.prog.info? 3).map (·.size) = some 1 := by kernel_rfl
  cases hq : Try.prog.info? 3 with
  | none => simp [hq] at hi
  | some i =>
    have hs1 : i.size = 1 := by simpa [hq] using hi
    rcases (by omega : k = 0 ∨ k = 1 ∨ k = 2 ∨ k = 3 ∨ k = 4 ∨ k = 5) with rfl | rfl | rfl | rfl | rfl | rfl
    · exact ⟨a, by simp [tci, part, Sem.run_bind, sizeOf, typeInfo, hq, hs1]⟩
    · exact ⟨b, by simp [tci, part, Sem.run_bind, sizeOf, typeInfo, hq, hs1]⟩
    · exact ⟨c, by simp [tci, part, Sem.run_bind, sizeOf, typeInfo, hq, hs1]⟩
    · exact ⟨d, by simp [tci, part, Sem.run_bind, sizeOf, typeInfo, hq, hs1]⟩
    · exact ⟨e, by simp [tci, part, Sem.run_bind, sizeOf, typeInfo, hq, hs1]⟩
    · exact ⟨f, by simp [tci, part, Sem.run_bind, sizeOf, typeInfo, hq, hs1]⟩
theorem eq_time (a b c d e f : Int) (w : World) : (binOp .eql tmt (.agg (tci a b c d e f)) (.agg (tci a b c d e f))).run Try.prog w = .ok (.bool true) w := by
  have hall : ((Try.prog.fieldsOf tmt).toList.all fun f => f.type == 3 && decide (f.offset < 6)) = true := by kernel_rfl
  rw [run_eql_struct, run_equalIn_agg w 9999 tmt _ _ (by kernel_rfl) (by kernel_rfl), eqFields_same w 9999 _ _ fun g hg => ?_]
  · rfl
  · have := List.all_eq_true.1 hall g hg
    simp only [Bool.and_eq_true, beq_iff_eq, decide_eq_true_eq] at this
    obtain ⟨z, hz⟩ := part6 a b c d e f w g.offset this.2
    refine ⟨_, this.1 ▸ hz, ?_⟩
    rw [this.1, run_equalIn_int w 9998 3 .i64 .i64 z z Try.underlying3]
    simp
/-- byte by byte, the first that differs -/
def lexB (a b : List (BitVec 8)) : Bool := Op.bytesLess (a.map UInt8.ofBitVec) (b.map UInt8.ofBitVec)
theorem lexB_str (a b : List (BitVec 8)) : Op.bytesLess (strOf a).toList (strOf b).toList = lexB a b := by
  rw [strOf_toList, strOf_toList]
  rfl
theorem lexB_cons (x y : BitVec 8) (a b : List (BitVec 8)) : lexB (x :: a) (y :: b) = (decide (x.toNat < y.toNat) || (decide (x.toNat = y.toNat) && lexB a b)) := by
  unfold lexB
  simp only [List.map_cons, Op.bytesLess]
  congr 1
  congr 1
  rw [Bool.eq_iff_iff, beq_iff_eq, decide_eq_true_eq]
  constructor
  · intro h
    exact congrArg (fun z => z.toNat) (UInt8.ofBitVec.inj h)
  · intro h
    rw [BitVec.eq_of_toNat_eq h]
theorem d2_lex {a b : Nat} (ha : a < 100) (hb : b < 100) (x y : List (BitVec 8)) : lexB (d2 a ++ x) (d2 b ++ y) = (decide (a < b) || (decide (a = b) && lexB x y)) := by
  show lexB (BitVec.ofNat 8 (48 + a / 10 % 10) :: BitVec.ofNat 8 (48 + a % 10) :: x) (BitVec.ofNat 8 (48 + b / 10 % 10) :: BitVec.ofNat 8 (48 + b % 10) :: y) = _
  rw [lexB_cons, lexB_cons, BitVec.toNat_ofNat, BitVec.toNat_ofNat, BitVec.toNat_ofNat, BitVec.toNat_ofNat]
  generalize lexB x y = L
  rw [Bool.eq_iff_iff]
  cases L <;> simp <;> omega
theorem later_body {t u : Tmt} (ht : MayT t) (hu : MayT u) (h : LtT t u) (hm : tmM t = tmM u) (hc : ¬ (tmM t = 23 ∧ t.y < 2000 ∧ 2000 ≤ u.y)) : lexB (tmB t) (tmB u) = true := by
  have h1 := ht.y2
  have h2 := hu.y2
  have a1 := ht.m2
  have a2 := hu.m2
  have a3 := ht.d2
  have a4 := hu.d2
  have a5 := dim_hi t.y t.mo
  have a6 := dim_hi u.y u.mo
  have a7 := ht.h2
  have a8 := hu.h2
  have a9 := ht.i2
  have b1 := hu.i2
  have b2 := ht.s2
  have b3 := hu.s2
  unfold LtT at h
  unfold tmM at hm hc
  unfold tmB tmR
  have hp : ∀ p q : Prop, ∀ [Decidable p] [Decidable q], (decide p || decide q) = decide (p ∨ q) := fun p q _ _ => by rw [Bool.eq_iff_iff]; simp
  by_cases k1 : 1950 ≤ t.y ∧ t.y ≤ 2049
  · by_cases k2 : 1950 ≤ u.y ∧ u.y ≤ 2049
    · rw [if_pos k1, if_pos k2]
      rw [if_pos k1] at hc
      have hc' : ¬ (t.y < 2000 ∧ 2000 ≤ u.y) := fun e => hc ⟨rfl, e⟩
      rw [d2_lex (by omega) (by omega), d2_lex (by omega) (by omega), d2_lex (by omega) (by omega), d2_lex (by omega) (by omega), d2_lex (by omega) (by omega), d2_lex (by omega) (by omega)]
      simp only [Bool.or_eq_true, Bool.and_eq_true, decide_eq_true_eq]
      omega
    · rw [if_pos k1, if_neg k2] at hm
      exact absurd hm (by decide)
  · by_cases k2 : 1950 ≤ u.y ∧ u.y ≤ 2049
    · rw [if_neg k1, if_pos k2] at hm
      exact absurd hm (by decide)
    · rw [if_neg k1, if_neg k2]
      rw [d2_lex (by omega) (by omega), d2_lex (by omega) (by omega), d2_lex (by omega) (by omega), d2_lex (by omega) (by omega), d2_lex (by omega) (by omega), d2_lex (by omega) (by omega), d2_lex (by omega) (by omega)]
      simp only [Bool.or_eq_true, Bool.and_eq_true, decide_eq_true_eq]
      omega
end Go.Proofs.Ytfipgmjaabggjaa
