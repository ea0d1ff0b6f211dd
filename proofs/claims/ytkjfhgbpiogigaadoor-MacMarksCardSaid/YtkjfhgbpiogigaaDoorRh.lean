/-
  The walks of the reference's fraction and primes.
-/
import Derived.Test.YtkjfhgbpiogigaaDoorRe
import Derived.Test.YtkjfhgbpiogigaaDoorRc
namespace Go.Proofs.YtkjfhgbpiogigaaDoor
open Go Go.RowKit

/-- 'ok' of a round of fraction -/
theorem ok_cube (a : Int) (x p : Nat) (w : World) (hx : x < 137438953472) (hp : p < 4294967296) (ha : a = (x : Int)) :
    Calls Tryd.prog 58 #[.int .u64 a, .int .u64 (p : Int)] w fun e w' => e = .returned (.bool (okN true x p)) ∧ Below w.heap.size w w' := by
  subst ha; exact cube_any x p w hx hp
theorem ok_square (a : Int) (x p : Nat) (w : World) (hx : x < 137438953472) (hp : p < 4294967296) (ha : a = (x : Int)) :
    Calls Tryd.prog 59 #[.int .u64 a, .int .u64 (p : Int)] w fun e w' => e = .returned (.bool (okN false x p)) ∧ Below w.heap.size w w' := by
  subst ha; exact square_any x p w hx hp
theorem fr_end (third : Bool) (p : Nat) : fr third p 37 < 137438953473 := by
  have h := fr_hi third p 37 (Nat.le_refl _)
  rw [show 2 ^ 37 = 137438953472 by decide, show 37 - 37 = 0 by decide, Nat.pow_zero] at h
  omega
theorem fr_succ (third : Bool) (p i : Nat) : fr third p (i + 1) = if okN third (fr third p i + 2 ^ (36 - i)) p then fr third p i + 2 ^ (36 - i) else fr third p i := rfl

set_option maxHeartbeats 2000000 in
theorem fraction_any (p : Nat) (third : Bool) (w : World) (hp : p < 4294967296) :
    Calls Tryd.prog 47 #[.int .u64 (p : Int), .bool third] w fun e w' => e = .returned (.int .u32 (un (BitVec.ofNat 32 (fracN third p)))) ∧ Below w.heap.size w w' := by
  have HP := Lib.hid hp
  cases third
  · go_enter Tryd.func47, Tryd.ntmps47
    go_wp2
    go_loopw [5, 6] (fun x i wr => ∃ k : Nat, k ≤ 37 ∧ i = .int .i64 k ∧ x = .int .u64 ((fr false p k : Nat) : Int) ∧ Below w.heap.size w wr) (fun _ i _ => 37 - (intOf i).toNat)
    case atStart => exact ⟨0, by omega, rfl, rfl, Below.refl _ _⟩
    case round =>
      obtain ⟨k, hk, rfl, rfl, hb⟩ := hrel
      by_cases hlt : k < 37
      · have hy := fr_y false p k hlt
        have hs := fr_succ false p k
        obtain ⟨d, hd⟩ : ∃ d, d = 2 ^ (36 - k) := ⟨_, rfl⟩
        have hdi : (2 : Int) ^ (36 - k) = (d : Int) := by rw [hd]; simp
        rw [← hd] at hy hs
        have hw1 : IntKind.u64.wrap (2 ^ (36 - k)) = (d : Int) := by rw [hdi, u64_in _ (by omega) (by omega)]
        have HS := Lib.hid hs
        clear hs hd hdi
        generalize fr false p k = x at *
        cases hok : okN false (x + d) p
        · have HO := Lib.hid hok
          clear hok
          go_wp2_with (go_at_call 59; refine (ok_square _ (x + d) p _ hy HP.out (by omega)).mono ?_; rintro e w1 ⟨rfl, hb1⟩; rw [HO.out])
          have hbw := hb.trans (hb1.mono hb.size)
          go_roundw
          case rel =>
            refine ⟨k + 1, by omega, by go_num, congrArg (Value.int .u64) ?_, hbw⟩
            rw [HS.out, HO.out]; rfl
          case measure => simp [intOf]; omega
        · have HO := Lib.hid hok
          clear hok
          go_wp2_with (go_at_call 59; refine (ok_square _ (x + d) p _ hy HP.out (by omega)).mono ?_; rintro e w1 ⟨rfl, hb1⟩; rw [HO.out])
          have hbw := hb.trans (hb1.mono hb.size)
          go_roundw
          case rel =>
            refine ⟨k + 1, by omega, by go_num, congrArg (Value.int .u64) ?_, hbw⟩
            rw [HS.out, HO.out, if_pos rfl]; omega
          case measure => simp [intOf]; omega
      · obtain rfl : k = 37 := by omega
        have hf : fracN false p = fr false p 37 % 4294967296 := rfl
        have HF := Lib.hid hf
        clear hf
        have hxb : fr false p 37 < 137438953473 := fr_end _ _
        generalize fr false p 37 = x at *
        go_wp2
        go_ret
        refine ⟨congrArg (fun z => Ending.returned (.int .u32 z)) ?_, hb⟩
        rw [HF.out, un_ofNat _ (by omega)]; omega
  · go_enter Tryd.func47, Tryd.ntmps47
    go_wp2
    go_loopw [5, 6] (fun x i wr => ∃ k : Nat, k ≤ 37 ∧ i = .int .i64 k ∧ x = .int .u64 ((fr true p k : Nat) : Int) ∧ Below w.heap.size w wr) (fun _ i _ => 37 - (intOf i).toNat)
    case atStart => exact ⟨0, by omega, rfl, rfl, Below.refl _ _⟩
    case round =>
      obtain ⟨k, hk, rfl, rfl, hb⟩ := hrel
      by_cases hlt : k < 37
      · have hy := fr_y true p k hlt
        have hs := fr_succ true p k
        obtain ⟨d, hd⟩ : ∃ d, d = 2 ^ (36 - k) := ⟨_, rfl⟩
        have hdi : (2 : Int) ^ (36 - k) = (d : Int) := by rw [hd]; simp
        rw [← hd] at hy hs
        have hw1 : IntKind.u64.wrap (2 ^ (36 - k)) = (d : Int) := by rw [hdi, u64_in _ (by omega) (by omega)]
        have HS := Lib.hid hs
        clear hs hd hdi
        generalize fr true p k = x at *
        cases hok : okN true (x + d) p
        · have HO := Lib.hid hok
          clear hok
          go_wp2_with (go_at_call 58; refine (ok_cube _ (x + d) p _ hy HP.out (by omega)).mono ?_; rintro e w1 ⟨rfl, hb1⟩; rw [HO.out])
          have hbw := hb.trans (hb1.mono hb.size)
          go_roundw
          case rel =>
            refine ⟨k + 1, by omega, by go_num, congrArg (Value.int .u64) ?_, hbw⟩
            rw [HS.out, HO.out]; rfl
          case measure => simp [intOf]; omega
        · have HO := Lib.hid hok
          clear hok
          go_wp2_with (go_at_call 58; refine (ok_cube _ (x + d) p _ hy HP.out (by omega)).mono ?_; rintro e w1 ⟨rfl, hb1⟩; rw [HO.out])
          have hbw := hb.trans (hb1.mono hb.size)
          go_roundw
          case rel =>
            refine ⟨k + 1, by omega, by go_num, congrArg (Value.int .u64) ?_, hbw⟩
            rw [HS.out, HO.out, if_pos rfl]; omega
          case measure => simp [intOf]; omega
      · obtain rfl : k = 37 := by omega
        have hf : fracN true p = fr true p 37 % 4294967296 := rfl
        have HF := Lib.hid hf
        clear hf
        have hxb : fr true p 37 < 137438953473 := fr_end _ _
        generalize fr true p 37 = x at *
        go_wp2
        go_ret
        refine ⟨congrArg (fun z => Ending.returned (.int .u32 z)) ?_, hb⟩
        rw [HF.out, un_ofNat _ (by omega)]; omega
end Go.Proofs.YtkjfhgbpiogigaaDoor
