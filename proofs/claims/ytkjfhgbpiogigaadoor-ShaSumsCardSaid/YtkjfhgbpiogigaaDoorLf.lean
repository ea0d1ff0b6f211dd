/-
  The walk of the law ShaSums.
-/
import Derived.Test.YtkjfhgbpiogigaaDoorLa
import Derived.Test.YtkjfhgbpiogigaaDoorRm
import Derived.Test.YtkjfhgbpiogigaaDoorRn
namespace Go.Proofs.YtkjfhgbpiogigaaDoor
open Go Go.RowKit

theorem cut_any (most : Int) (k n c : Nat) (A : Option Addr) (l : List (BitVec 8)) (w : World) (hl : Sl w A n c l) (hk : most = (k : Int)) :
    Calls Tryd.prog 27 #[.slice A n c, .int .i64 most] w fun e w' => ∃ m, e = .returned (.slice A m c) ∧ m ≤ k ∧ Sl w A m c (l.take m) ∧ w = w' := by
  subst hk
  by_cases h : k < n
  · have hup := run_upto (P := Tryd.prog) A n c 36 5 Tryd.underlying36 sizeB k (k : Int) rfl (Nat.le_trans (Nat.le_of_lt h) hl.2.1)
    have HL := Hd.mk (hl.take k (Nat.le_of_lt h))
    clear hl
    go_enter Tryd.func27, Tryd.ntmps27
    go_wp2
    go_ret
    exact ⟨k, rfl, Nat.le_refl _, HL.out, rfl⟩
  · have HL := Hd.mk hl
    clear hl
    go_enter Tryd.func27, Tryd.ntmps27
    go_wp2
    go_ret
    exact ⟨n, rfl, by omega, by have := HL.out; rwa [List.take_of_length_le (by rw [this.1]; exact Nat.le_refl _)], rfl⟩
theorem sums_named (l : List (BitVec 8)) : ∃ (K H : List (BitVec 32)) (D : List (BitVec 8)),
    (∀ (A : Option Addr) (n c : Nat) (w : World), Sl w A n c l → Laid w → n ≤ 2000 → Calls Tryd.prog 28 #[.slice A n c] w fun e w' => ∃ v, e = .returned v ∧ w'.ownsRow w.heap.size 5 1 v 32 (D.map vb) ∧ Below w.heap.size w w') ∧
    (∀ w : World, Calls Tryd.prog 29 #[] w fun e w' => ∃ A c, e = .returned (.agg (tab A c H)) ∧ Ow w' A 64 c (K.map vu) ∧ Below w.heap.size w w') ∧
    (∀ (A : Option Addr) (c : Nat) (B : Option Addr) (n d : Nat) (w : World), Ow w A 64 c (K.map vu) → Sl w B n d l → n ≤ 2000 → Calls Tryd.prog 30 #[.agg (tab A c H), .slice B n d] w fun e w' => ∃ v, e = .returned v ∧ w'.ownsRow w.heap.size 5 1 v 32 (D.map vb) ∧ Below w.heap.size w w') :=
  ⟨KK, HH, dig KK HH l, fun A n c w hl hw hn => Sum_any l A n c w hl hw (by omega), fun w => Made_gen KK HH HH_len Constants_any Beginning_any w, fun A c B n d w ho hl hn => refSum_any KK HH l A c B n d w HH_len KK_len ho hl hn⟩

set_option maxHeartbeats 2000000 in
theorem ShaSums_any (l0 : List (BitVec 8)) (A : Option Addr) (n0 c : Nat) (w : World) (hl0 : Sl w A n0 c l0) (hw : Laid w) :
    Calls Tryd.prog 7 #[.slice A n0 c] w fun e w' => e = .returned (.bool true) ∧ Below w.heap.size w w' := by
  have HL0 := Hd.mk hl0
  have HW := Hd.mk hw
  clear hl0 hw
  go_enter Tryd.func7, Tryd.ntmps7
  go_wp2_with fail
  refine (up_any _ HW.out).mono ?_
  rintro e w1 ⟨rfl, hb1⟩
  have HB1 := Hd.mk hb1
  clear hb1
  go_wp2_with fail
  refine (cut_any 2000 2000 n0 c A l0 _ (HL0.out.keep HB1.out) rfl).mono ?_
  rintro e w1' ⟨n, rfl, hn, hl, rfl⟩
  obtain ⟨l, hll⟩ : ∃ l, l0.take n = l := ⟨_, rfl⟩
  rw [hll] at hl
  have HL := Hd.mk hl
  clear hl hll HL0
  obtain ⟨K, H, D, c1, c2, c3⟩ := sums_named l
  have C1 := Hd.mk c1
  have C2 := Hd.mk c2
  have C3 := Hd.mk c3
  clear c1 c2 c3
  go_wp2_with fail
  refine wp_region_held (S := fun w' => Below w1.heap.size w1 w') (by kernel_rfl) ?_
  have HS : Hd ((fun w' : World => Below w1.heap.size w1 w') w1.drew) := ⟨(Below.refl _ _).drew⟩
  change wpAnyH _ _ _ _ _ _ _ _ w1.drew
  refine wpAnyH_take (i := 0) (v := .bool true) rfl (by kernel_rfl) (by kernel_rfl) (by kernel_rfl) (fun _ _ _ h => h) (.inl ⟨by rfl, fun W hW => exec_move _ rfl _ rfl⟩) HS.out ?_
  refine wpAnyH_take (i := 1) (v := .bool true) rfl (by kernel_rfl) (by kernel_rfl) (by kernel_rfl) (fun _ _ _ h => h) (.inl ⟨by rfl, fun W hW => exec_move _ rfl _ rfl⟩) HS.out ?_
  refine wpAnyH_take (i := 2) (v := .slice A n c) rfl (by kernel_rfl) (by kernel_rfl) (by kernel_rfl) (fun _ _ _ h => h) (.inl ⟨by rfl, fun W hW => exec_move _ rfl _ rfl⟩) HS.out ?_
  refine wpAnyH_take (i := 6) (v := .slice A n c) rfl (by kernel_rfl) (by kernel_rfl) (by kernel_rfl) (fun _ _ _ h => h) (.inl ⟨by rfl, fun W hW => exec_move _ rfl _ rfl⟩) HS.out ?_
  refine next_one 3 (by kernel_rfl) rfl (by rfl) fun K' HK' => ?_
  go_simp
  refine (C1.out A n c _ (HL.out.keep HS.out) ((HW.out.below HB1.out (Nat.le_refl _)).below HS.out (Nat.le_refl _)) hn).mono ?_
  rintro e w2 ⟨v2, rfl, hown2, hb2⟩
  obtain ⟨A2, d2, rfl, hsl2⟩ := Sl.of_own hown2
  have HS2 := Hd.mk (HS.out.trans (hb2.mono HS.out.size))
  have HSL2 := Hd.mk hsl2
  clear hown2 hb2 hsl2 HS
  refine HK'.out _ _ HS2.out ?_
  clear HK'
  refine wpAnyH_weaken (S' := fun w' => Below w1.heap.size w1 w' ∧ Below w2.heap.size w2 w') (fun _ h => h.1) _ _ _ _ ?_
  have HT2 : Hd ((fun w' : World => Below w1.heap.size w1 w' ∧ Below w2.heap.size w2 w') w2) := ⟨HS2.out, Below.refl _ _⟩
  refine wpAnyH_take (i := 4) (v := .string (strOf D)) rfl (by kernel_rfl) (by kernel_rfl) (by kernel_rfl) (fun _ _ _ h => h) (.inl ⟨by rfl, fun W hW => exec_conv 36 9 _ rfl _ (.slice A2 32 d2) rfl (to_str (HSL2.out.keep hW.2))⟩) HT2.out ?_
  refine next_one 5 (by kernel_rfl) rfl (by rfl) fun K' HK' => ?_
  go_simp
  refine (C2.out _).mono ?_
  rintro e w3 ⟨Ak, ck, rfl, how, hb3⟩
  have HT3 : Hd (Below w1.heap.size w1 w3 ∧ Below w2.heap.size w2 w3) := ⟨HS2.out.trans (hb3.mono HS2.out.size), hb3⟩
  have HO := Hd.mk how
  clear how hb3 HT2 HS2
  refine HK'.out _ _ HT3.out ?_
  clear HK'
  refine next_one 7 (by kernel_rfl) rfl (by rfl) fun K' HK' => ?_
  go_simp
  refine (C3.out Ak ck A n c _ HO.out (HL.out.keep HT3.out.1) hn).mono ?_
  rintro e w4 ⟨v4, rfl, hown4, hb4⟩
  obtain ⟨A4, d4, rfl, hsl4⟩ := Sl.of_own hown4
  have HT4 : Hd (Below w1.heap.size w1 w4 ∧ Below w2.heap.size w2 w4) := ⟨HT3.out.1.trans (hb4.mono HT3.out.1.size), HT3.out.2.trans (hb4.mono HT3.out.2.size)⟩
  have HSTR := Hd.mk (to_str hsl4)
  clear hown4 hsl4 hb4 HT3 HO
  refine HK'.out _ _ HT4.out ?_
  clear HK'
  refine next_one 8 (by kernel_rfl) rfl (by rfl) fun K' HK' => ?_
  have hstr := HSTR.out
  go_simp
  refine HK'.out _ _ HT4.out ?_
  clear HK' hstr
  refine next_one 9 (by kernel_rfl) rfl (by rfl) fun K' HK' => ?_
  go_simp
  refine HK'.out _ _ HT4.out ?_
  clear HK'
  refine next_one 10 (by kernel_rfl) rfl (by rfl) fun K' HK' => ?_
  go_simp
  refine HK'.out _ _ HT4.out ?_
  clear HK'
  refine next_one 11 (by kernel_rfl) rfl (by rfl) fun K' HK' => ?_
  go_simp
  refine HK'.out _ _ HT4.out ?_
  clear HK'
  refine wpAnyH_done (by kernel_rfl) ?_ _
  go_wp2
  go_ret
  exact ⟨rfl, HB1.out.trans (HT4.out.1.mono HB1.out.size)⟩
end Go.Proofs.YtkjfhgbpiogigaaDoor
