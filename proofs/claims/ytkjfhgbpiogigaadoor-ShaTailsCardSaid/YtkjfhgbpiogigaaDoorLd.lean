/-
  The walk of the law ShaTails.
-/
import Derived.Test.YtkjfhgbpiogigaaDoorLa
import Derived.Test.YtkjfhgbpiogigaaDoorRc
import Derived.Test.YtkjfhgbpiogigaaDoorRg
namespace Go.Proofs.YtkjfhgbpiogigaaDoor
open Go Go.RowKit

theorem held_eqIn {P : Program} (w : World) (d : Nat) {u t : TypeId} {ms : Array (String × TypeId)} {i : TypeInfo} {k : IntKind} (x y : Int) (hu : P.underlying u = some (.interface ms)) (ht : P.underlying t = some (.int k)) (hi : P.info? t = some i) (hc : i.comparable = true) :
    (Op.equalIn (d + 2) u (.iface t (.int k x)) (.iface t (.int k y))).run P w = .ok (x == y) w := by
  simp [Op.equalIn, run_underlying hu, run_underlying ht, typeInfo, hi, hc]
theorem held_eq {P : Program} (w : World) {u t : TypeId} {ms : Array (String × TypeId)} {i : TypeInfo} {k : IntKind} (x y : Int) (hu : P.underlying u = some (.interface ms)) (ht : P.underlying t = some (.int k)) (hi : P.info? t = some i) (hc : i.comparable = true) :
    (binOp .eql u (.iface t (.int k x)) (.iface t (.int k y))).run P w = .ok (.bool (x == y)) w := by
  simp only [binOp]
  simp [Op.equal, Op.maxDepth, held_eqIn w 9998 x y hu ht hi hc]
theorem err_eq (a b : Int) (w : World) : (binOp .eql 38 (.iface 41 (.int .i64 a)) (.iface 41 (.int .i64 b))).run Tryd.prog w = .ok (.bool (a == b)) w := by
  have hi : ((Tryd.prog.info? 41).map (·.comparable)) = some true := by kernel_rfl
  have hu : (match Tryd.prog.underlying 38 with | some (.interface _) => true | _ => false) = true := by kernel_rfl
  cases hq : Tryd.prog.info? 41 with
  | none => simp [hq] at hi
  | some i =>
    have hc : i.comparable = true := by simpa [hq] using hi
    cases hd : Tryd.prog.underlying 38 with
    | none => simp [hd] at hu
    | some d =>
      cases d with
      | interface ms => exact held_eq w a b hd Tryd.underlying41 hq hc
      | _ => simp [hd] at hu

set_option maxHeartbeats 1000000 in
theorem ShaTails_out (n : Int) (w : World) (hw : Laid w) (hn : n < 0 ∨ 281474976710656 < n) :
    Calls Tryd.prog 6 #[.int .i64 n] w fun e w' => e = .returned (.bool true) ∧ Below w.heap.size w w' := by
  have HW := Lib.hid hw
  have HN := Lib.hid hn
  have hee := err_eq 1 1
  clear hw
  rcases hn with h | h
  · go_enter Tryd.func6, Tryd.ntmps6
    go_wp2_with fail
    refine (up_any _ HW.out).mono ?_
    rintro e w1 ⟨rfl, hb1⟩
    have HB := Lib.hid hb1
    clear hb1
    go_wp2_with fail
    refine (Tail_no n _ HN.out).mono ?_
    rintro e w2 ⟨rfl, rfl⟩
    go_wp2
    go_ret
    exact ⟨rfl, HB.out⟩
  · have h0 : ¬ n < 0 := by omega
    go_enter Tryd.func6, Tryd.ntmps6
    go_wp2_with fail
    refine (up_any _ HW.out).mono ?_
    rintro e w1 ⟨rfl, hb1⟩
    have HB := Lib.hid hb1
    clear hb1
    go_wp2_with fail
    refine (Tail_no n _ HN.out).mono ?_
    rintro e w2 ⟨rfl, rfl⟩
    go_wp2
    go_ret
    exact ⟨rfl, HB.out⟩

set_option maxHeartbeats 2000000 in
theorem ShaTails_in (n : Nat) (w : World) (hw : Laid w) (hn : n ≤ 281474976710656) :
    Calls Tryd.prog 6 #[.int .i64 (n : Int)] w fun e w' => e = .returned (.bool true) ∧ Below w.heap.size w w' := by
  have HW := Lib.hid hw
  have h0 : ¬ (n : Int) < 0 := by omega
  have h1 : ¬ (281474976710656 : Int) < (n : Int) := by omega
  clear hw
  go_enter Tryd.func6, Tryd.ntmps6
  go_wp2_with fail
  refine (up_any _ HW.out).mono ?_
  rintro e w1 ⟨rfl, hb1⟩
  have HB := Lib.hid hb1
  clear hb1
  go_wp2_with fail
  refine (Tail_ok n _ hn).mono ?_
  rintro e w2 ⟨rfl, hT, hb2⟩
  have HS0 := Lib.hid (show Has w2 w1.heap.size 5 (bv (tailTo n 8)) ∧ Below w.heap.size w w2 from ⟨hT, HB.out.trans (hb2.mono HB.out.size)⟩)
  clear hT hb2
  go_wp2_with fail
  refine wp_region_held (S := fun w' => Has w' w1.heap.size 5 (bv (tailTo n 8)) ∧ Below w.heap.size w w') (by kernel_rfl) ?_
  have HS := Lib.hid (show (fun w' : World => Has w' w1.heap.size 5 (bv (tailTo n 8)) ∧ Below w.heap.size w w') w2.drew from ⟨HS0.out.1, HS0.out.2.drew⟩)
  clear HS0
  change wpAnyH _ _ _ _ _ _ _ _ w2.drew
  generalize w2.drew = w3 at *
  refine wpAnyH_take (i := 0) (v := .bool true) rfl (by kernel_rfl) (by kernel_rfl) (by kernel_rfl) (fun _ _ _ h => h) (.inl ⟨by rfl, fun W hW => exec_move _ rfl _ rfl⟩) HS.out ?_
  refine wpAnyH_take (i := 1) (v := .bool true) rfl (by kernel_rfl) (by kernel_rfl) (by kernel_rfl) (fun _ _ _ h => h) (.inl ⟨by rfl, fun W hW => exec_move _ rfl _ rfl⟩) HS.out ?_
  refine wpAnyH_take (i := 2) (v := .nilIface) rfl (by kernel_rfl) (by kernel_rfl) (by kernel_rfl) (fun _ _ _ h => h) (.inl ⟨by rfl, fun W hW => exec_move _ rfl _ rfl⟩) HS.out ?_
  refine next_one 3 (by kernel_rfl) rfl (by rfl) fun K' HK' => ?_
  go_simp
  refine HK'.out _ _ HS.out ?_
  clear HK'
  refine next_one 4 (by kernel_rfl) rfl (by rfl) fun K' HK' => ?_
  go_simp
  refine HK'.out _ _ HS.out ?_
  clear HK'
  refine wpAnyH_take (i := 5) (v := .bool true) rfl (by kernel_rfl) (by kernel_rfl) (by kernel_rfl) (fun _ _ _ h => h) (.inl ⟨by rfl, fun W hW => exec_move _ rfl _ rfl⟩) HS.out ?_
  refine wpAnyH_take (i := 6) (v := .slice (some ⟨w1.heap.size, 0, none⟩) (tailLen n) (tailLen n)) rfl (by kernel_rfl) (by kernel_rfl) (by kernel_rfl) (fun _ _ _ h => h) (.inl ⟨by rfl, fun W hW => exec_move _ rfl _ rfl⟩) HS.out ?_
  refine wpAnyH_take (i := 8) (v := .int .i64 (n : Int)) rfl (by kernel_rfl) (by kernel_rfl) (by kernel_rfl) (fun _ _ _ h => h) (.inl ⟨by rfl, fun W hW => exec_move _ rfl _ rfl⟩) HS.out ?_
  refine wpAnyH_take (i := 7) (v := .string (strOf (tailTo n 8))) rfl (by kernel_rfl) (by kernel_rfl) (by kernel_rfl) (fun _ _ _ h => h) (.inl ⟨by rfl, fun W hW => exec_conv 36 9 _ rfl _ (.slice (some ⟨w1.heap.size, 0, none⟩) (tailLen n) (tailLen n)) rfl (to_str (sl_has hW.1 (tailTo_len n 8) (Nat.le_refl _)))⟩) HS.out ?_
  refine next_one 9 (by kernel_rfl) rfl (by rfl) fun K' HK' => ?_
  go_simp
  refine (refTail_any n _ hn).mono ?_
  rintro e w4 ⟨v4, rfl, hown, hb4⟩
  have hS3 := HS.out
  have HS4 := Lib.hid (show Has w4 w1.heap.size 5 (bv (tailTo n 8)) ∧ Below w.heap.size w w4 from ⟨hS3.1.below hb4 hS3.1.lt, hS3.2.trans (hb4.mono hS3.2.size)⟩)
  obtain ⟨A4, c4, rfl, hsl4⟩ := Sl.of_own hown
  have HSTR := Lib.hid (to_str hsl4)
  clear hS3 hb4 HS hown hsl4
  refine HK'.out _ _ HS4.out ?_
  clear HK'
  refine next_one 10 (by kernel_rfl) rfl (by rfl) fun K' HK' => ?_
  have hstr := HSTR.out
  go_simp
  refine HK'.out _ _ HS4.out ?_
  clear HK' hstr
  refine next_one 11 (by kernel_rfl) rfl (by rfl) fun K' HK' => ?_
  go_simp
  refine HK'.out _ _ HS4.out ?_
  clear HK'
  refine next_one 12 (by kernel_rfl) rfl (by rfl) fun K' HK' => ?_
  go_simp
  refine HK'.out _ _ HS4.out ?_
  clear HK'
  refine next_one 13 (by kernel_rfl) rfl (by rfl) fun K' HK' => ?_
  go_simp
  refine HK'.out _ _ HS4.out ?_
  clear HK'
  refine wpAnyH_done (by kernel_rfl) ?_ _
  go_wp2
  go_ret
  exact ⟨rfl, HS4.out.2⟩
theorem ShaTails_any (n : Int) (w : World) (hw : Laid w) :
    Calls Tryd.prog 6 #[.int .i64 n] w fun e w' => e = .returned (.bool true) ∧ Below w.heap.size w w' := by
  by_cases h : n < 0 ∨ 281474976710656 < n
  · exact ShaTails_out n w hw h
  · obtain ⟨m, rfl⟩ := Int.eq_ofNat_of_zero_le (show 0 ≤ n by omega)
    exact ShaTails_in m w hw (by omega)
end Go.Proofs.YtkjfhgbpiogigaaDoor
