/-
  The reference's ReadOid; the laws' sameArcs.
-/
import Derived.Test.YthookcnkmlmgcaaGreatDoorM15
namespace Go.Proofs.YthookcnkmlmgcaaGreatDoor
open Go Go.RowKit
set_option maxRecDepth 4000

/-- the sums of a round of the reference's -/
structure OStep2 (s : Nat) (x : BitVec 8) (q c n : Nat) : Prop where
  mu : IntKind.u32.wrap ((s : Int) * 128) = (q : Int)
  tm : (ub x).tmod 128 = (c : Int)
  w8 : IntKind.u8.wrap (c : Int) = (c : Int)
  w32 : IntKind.u32.wrap (c : Int) = (c : Int)
  ad : IntKind.u32.wrap ((q : Int) + (c : Int)) = (n : Int)
  val : n = (s * 128 + x.toNat % 128) % 4294967296
theorem ostep2 (s : Nat) (x : BitVec 8) : ∃ q c n, OStep2 s x q c n := by
  have hx := x.isLt
  refine ⟨s * 128 % 4294967296, x.toNat % 128, (s * 128 + x.toNat % 128) % 4294967296, ?_, ?_, ?_, ?_, ?_, rfl⟩
  · rw [IntKind.wrap_u32]; omega
  · unfold ub; rw [Int.tmod_eq_emod_of_nonneg (by omega)]; omega
  · rw [IntKind.wrap_u8]; omega
  · rw [IntKind.wrap_u32]; omega
  · rw [IntKind.wrap_u32]; omega
theorem dec_lt8 (x : BitVec 8) : decide (ub x < 128) = decide (x.toNat < 128) := by
  unfold ub
  by_cases h : x.toNat < 128
  · rw [decide_eq_true h, decide_eq_true (by omega)]
  · rw [decide_eq_false h, decide_eq_false (by omega)]
theorem str_ne {x y : List (BitVec 8)} (h : x ≠ y) : ((strOf x).toList == (strOf y).toList) = false := beq_eq_false_iff_ne.2 fun e => h (strOf_inj e)
/-- what the reference's ReadOid answers -/
def RefOidR (w : World) (b : List (BitVec 8)) (e : Ending) (w' : World) : Prop :=
  (¬ (OidP (oidU (pmO b)) ∧ oidB (oidU (pmO b)) = b) ∧ e = .returned (.tuple #[.slice none 0 0, .bool false]) ∧ Ext w w') ∨
  (OidP (oidU (pmO b)) ∧ oidB (oidU (pmO b)) = b ∧ ∃ A' c', e = .returned (.tuple #[.slice A' (oidU (pmO b)).length c', .bool true]) ∧ Rw u32t vL w' w.heap.size (.slice A' (oidU (pmO b)).length c') (oidU (pmO b)).length (oidU (pmO b)) ∧ Ext w w')
theorem oidP_nil : ¬ OidP (oidU []) := fun ⟨_, _, _, h, _⟩ => by cases h
set_option maxHeartbeats 8000000 in
theorem refReadOid_any {b : List (BitVec 8)} {A : Option Addr} {n c : Nat} {w : World} (h : Bs w A n c b) :
    Calls Tryz.prog 17 #[.slice A n c] w fun e w' => RefOidR w b e w' := by
  have hl := h.len
  by_cases h100 : 100 < n
  · have hno : ¬ (OidP (oidU (pmO b)) ∧ oidB (oidU (pmO b)) = b) := fun ⟨h1, h2⟩ => by
      have := oidB_len h1
      rw [h2] at this
      omega
    refine Calls.mono (R := fun e w' => e = .returned (.tuple #[.slice none 0 0, .bool false]) ∧ Ext w w') ?_ fun _ _ h => .inl ⟨hno, h⟩
    have b1 : decide ((100 : Int) < (n : Int)) = true := decide_eq_true (by omega)
    clear hno h hl h100
    go_enter Tryz.func17, Tryz.ntmps17
    go_wp2_with fail
    go_ret2
    exact ⟨rfl, (by (repeat (first | assumption | exact Ext.refl _ | apply Ext.drew | apply Ext.drewN | apply Ext.alloc | refine Ext.trans ?_ (by assumption))); first | done | fail)⟩
  have b1 : decide ((100 : Int) < (n : Int)) = false := decide_eq_false (by omega)
  have HB := Kp.mk h
  have HL := Kp.mk hl
  have hn : n ≤ 100 := by omega
  clear h hl h100
  go_enter Tryz.func17, Tryz.ntmps17
  go_wp2_with fail
  go_loopw [4, 5, 6] (fun v m i wr => ∃ j N : Nat, ∃ A2 c2, j ≤ n ∧ N = (stT b j).1.length ∧ i = .int .i64 (j : Int) ∧ m = .int .u32 ((stT b j).2 : Int) ∧ v = .slice A2 N c2 ∧ Rw u32t vL wr w.heap.size (.slice A2 N c2) N (stT b j).1 ∧ Ext w wr) (fun _ _ i _ => n - (intOf i).toNat)
  case atStart => exact ⟨0, 0, none, 0, Nat.zero_le _, rfl, rfl, rfl, rfl, Rw.nil _ _, Ext.refl _⟩
  case round =>
    obtain ⟨j, N, A2, c2, hj, hN, rfl, rfl, rfl, ho, hx⟩ := hrel
    obtain ⟨i1, i2, i3⟩ := stT_len b j (by rw [HL.out]; exact hj)
    by_cases hlt : j < n
    · have b4 : (j : Int) < (n : Int) := by omega
      obtain ⟨g, o, rfl, hc⟩ := (HB.out.ext hx).s.2.2.2 (by omega)
      have k1 := hc j hlt
      have hst := stT_succ b j (by rw [HL.out]; exact hlt)
      obtain ⟨q, z, m, hS⟩ := ostep2 (stT b j).2 (gb b j)
      obtain ⟨s1, s2, s3, s4, s5, s6⟩ := hS
      have s7 := dec_lt8 (gb b j)
      have s8 : IntKind.i64.wrap ((j : Int) + 1) = (j : Int) + 1 := by rw [IntKind.wrap_i64]; omega
      have hNm : N ≤ 100 := by omega
      clear hc
      unfold stO at hst
      rw [← s6] at hst
      by_cases hx8 : (gb b j).toNat < 128
      · rw [if_pos hx8] at hst
        rw [decide_eq_true hx8] at s7
        have HT := Kp.mk hst
        clear hst
        generalize gb b j = x at *
        generalize (stT b j).2 = s at *
        generalize (stT b j).1 = T at *
        have H1 := Kp.mk ho
        have H2 := Kp.mk hx
        have H4 := Kp.mk hN
        clear ho hx hN s6 hx8 i1 i2 i3
        go_wp2_with (first | (at_builtin; refine wpList_append_u rfl (.tmp 33) (.tmp 35) rfl w.heap.size _ N T rfl (H1.out.ext (by (repeat (first | assumption | exact Ext.refl _ | apply Ext.drew | apply Ext.drewN | apply Ext.alloc | refine Ext.trans ?_ (by assumption))); first | done | fail)) _ 1 1 [m] rfl (lit_u wr m) (by omega) (N + 1) rfl (T ++ [m]) rfl w (H2.out.trans (by (repeat (first | assumption | exact Ext.refl _ | apply Ext.drew | apply Ext.drewN | apply Ext.alloc | refine Ext.trans ?_ (by assumption))); first | done | fail)) (Nat.le_refl _) (H2.out.trans (by (repeat (first | assumption | exact Ext.refl _ | apply Ext.drew | apply Ext.drewN | apply Ext.alloc | refine Ext.trans ?_ (by assumption))); first | done | fail)).size ?_; intro A5 c5 w5 ho5 hx5 hap5) | fail)
        go_roundw
        case rel =>
          refine ⟨j + 1, N + 1, A5, c5, hlt, ?_, by go_num, by rw [HT.out]; rfl, by first | rfl | (congr 1; omega), by rw [HT.out]; exact ho5, hx5⟩
          rw [HT.out]
          show N + 1 = (T ++ [m]).length
          rw [List.length_append, ← H4.out]
          rfl
        case measure => simp [intOf]; omega
      · rw [if_neg hx8] at hst
        rw [decide_eq_false hx8] at s7
        have HT := Kp.mk hst
        clear hst
        generalize gb b j = x at *
        generalize (stT b j).2 = s at *
        generalize (stT b j).1 = T at *
        have H1 := Kp.mk ho
        have H2 := Kp.mk hx
        have H4 := Kp.mk hN
        clear ho hx hN s6 hx8 i1 i2 i3
        go_wp2_with fail
        go_roundw
        case rel => exact ⟨j + 1, N, A2, c2, hlt, by rw [HT.out]; exact H4.out, by go_num, by rw [HT.out], rfl, by rw [HT.out]; exact H1.out, H2.out.trans (by (repeat (first | assumption | exact Ext.refl _ | apply Ext.drew | apply Ext.drewN | apply Ext.alloc | refine Ext.trans ?_ (by assumption))); first | done | fail)⟩
        case measure => simp [intOf]; omega
    · obtain rfl : j = n := by omega
      have b4 : ¬ (j : Int) < (j : Int) := by omega
      have e : (stT b j).1 = pmO b := by unfold pmO; rw [HL.out]
      rw [e] at hN ho i3 i1
      generalize (stT b j).2 = s at *
      cases hP : pmO b with
      | nil =>
        rw [hP] at hN
        obtain rfl : N = 0 := hN
        have H2 := Kp.mk hx
        have H9 := Kp.mk hP
        clear ho hx e hP i1 i2 i3 b1
        go_wp2_with fail
        go_ret2
        refine .inl ⟨?_, rfl, H2.out.trans (by (repeat (first | assumption | exact Ext.refl _ | apply Ext.drew | apply Ext.drewN | apply Ext.alloc | refine Ext.trans ?_ (by assumption))); first | done | fail)⟩
        rw [H9.out]
        exact fun h => oidP_nil h.1
      | cons z r =>
        rw [hP] at hN ho i3 i1
        have hU : oidU (pmO b) = [(if z / 40 > 2 then 2 else z / 40), z - 40 * (if z / 40 > 2 then 2 else z / 40)] ++ r := by rw [hP]; rfl
        obtain ⟨f, hf⟩ : ∃ f, (if z / 40 > 2 then 2 else z / 40) = f := ⟨_, rfl⟩
        rw [hf] at hU
        have hz : z < 4294967296 := i3 z (by simp)
        have hDg : Dg 4294967296 (oidU (pmO b)) := oidU_dg (by rw [hP]; exact i3)
        obtain ⟨R, hR⟩ : ∃ R, R = r.length := ⟨_, rfl⟩
        have hN2 : N = R + 1 := by rw [hN, hR]; rfl
        have hRm : R ≤ 100 := by have := i1; rw [List.length_cons] at this; omega
        have f1 : (z : Int).tdiv 40 = ((z / 40 : Nat) : Int) := by rw [Int.tdiv_eq_ediv_of_nonneg (by omega)]; omega
        have f2 : IntKind.u32.wrap ((z / 40 : Nat) : Int) = ((z / 40 : Nat) : Int) := by rw [IntKind.wrap_u32]; omega
        have f4 : IntKind.u32.wrap (40 * (f : Int)) = ((40 * f : Nat) : Int) := by rw [IntKind.wrap_u32, ← hf]; split <;> omega
        have f5 : IntKind.u32.wrap ((z : Int) - ((40 * f : Nat) : Int)) = ((z - 40 * f : Nat) : Int) := by
          have : 40 * f ≤ z := by rw [← hf]; split <;> omega
          rw [IntKind.wrap_u32]; omega
        have g5 : f = 2 → IntKind.u32.wrap ((z : Int) - IntKind.u32.wrap 80) = ((z - 40 * f : Nat) : Int) := fun e2 => by
          have : 40 * f ≤ z := by rw [← hf]; split <;> omega
          rw [IntKind.wrap_u32, IntKind.wrap_u32]; omega
        obtain ⟨g, rfl, hg1, hg2⟩ := ho.some_ (by omega)
        have hrd := ho.rd
        have k1 : ∀ w', Ext wr w' → w'.cell? ⟨g, 0, none⟩ = some (.int .u32 (z : Int)) := fun w' hx' => by
          have := (hrd.ext hx').dig 0 (by omega)
          exact this
        obtain ⟨A7, hA7, hD7⟩ := hrd.cut 1 (by omega)
        have hcut := run_from (P := Tryz.prog) (some ⟨g, 0, none⟩) N c2 36 69 Tryz.underlying36 szU 1 1 rfl (by omega)
        rw [hA7] at hcut
        have d1 : ((N : Int) == 0) = false := beq_eq_false_iff_ne.2 (by omega)
        have d2 : ¬ N = 0 := by omega
        have d3 : (0 : Int) < (N : Int) := by omega
        have d4 : 0 < N := by omega
        have hD8 : Rd vL wr A7 R (c2 - 1) r := by
          have := hD7
          rw [show N - 1 = R by omega] at this
          exact this
        rw [show N - 1 = R by omega] at hcut
        obtain ⟨q, hq⟩ : ∃ q, q = z / 40 := ⟨_, rfl⟩
        rw [← hq] at f1 f2 hf
        generalize hd : z - 40 * f = d at *
        generalize 40 * f = f40 at *
        have HU := Kp.mk hU
        have HR := Kp.mk hR
        have HDg := Kp.mk hDg
        have H1 := Kp.mk ho
        have H2 := Kp.mk hx
        have H3 := Kp.mk hD8
        have H9 := Kp.mk hN2
        have hf' : (2 < q ∧ f = 2) ∨ (¬ 2 < q ∧ f = q) := by
          rw [← hf]
          split <;> omega
        clear hU hR hDg hx hD7 hD8 hN hN2 hrd hA7 hP i1 i2 i3 e hf hz hd hq b1 ho
        rcases hf' with ⟨h2, rfl⟩ | ⟨h2, rfl⟩
        · have j1 : decide ((2 : Int) < (q : Int)) = true := decide_eq_true (by omega)
          have g6 := g5 rfl
          clear f4 f5 g5
          go_wp2_with fail
          refine wp_region_held_drew (S := fun w' => Ext wr w') (by kernel_rfl) (Ext.refl wr).drew (fun hHeld => ?_)
          refine wpAnyH_take (i := 0) (oi := ⟨some 46, _, _, _, _, _⟩) (v := ?_) rfl (by kernel_rfl) (by kernel_rfl) (by kernel_rfl) (fun _ _ _ h => h) (Or.inl ⟨by rfl, ?_⟩) (by assumption) ?_
          rotate_left
          · (intro w hSw; (try dsimp only at hSw); go_simp; try with_reducible rfl)
          try simp only [Act.put, List.setIfInBounds_toArray, List.set_cons_zero, List.set_cons_succ]
          refine wpAnyH_take (i := 1) (oi := ⟨some 47, _, _, _, _, _⟩) (v := ?_) rfl (by kernel_rfl) (by kernel_rfl) (by kernel_rfl) (fun _ _ _ h => h) (Or.inl ⟨by rfl, ?_⟩) (by assumption) ?_
          rotate_left
          · (intro w hSw; (try dsimp only at hSw); go_simp; try with_reducible rfl)
          try simp only [Act.put, List.setIfInBounds_toArray, List.set_cons_zero, List.set_cons_succ]
          refine wpAnyH_take (i := 2) (oi := ⟨some 48, _, _, _, _, _⟩) (v := ?_) rfl (by kernel_rfl) (by kernel_rfl) (by kernel_rfl) (fun _ _ _ h => h) (Or.inl ⟨by rfl, ?_⟩) (by assumption) ?_
          rotate_left
          · (intro w hSw; (try dsimp only at hSw); go_simp; try with_reducible rfl)
          try simp only [Act.put, List.setIfInBounds_toArray, List.set_cons_zero, List.set_cons_succ]
          refine wpAnyH_take (i := 3) (oi := ⟨some 49, _, _, _, _, _⟩) (v := ?_) rfl (by kernel_rfl) (by kernel_rfl) (by kernel_rfl) (fun _ _ _ h => h) (Or.inl ⟨by rfl, ?_⟩) (by assumption) ?_
          rotate_left
          · (intro w hSw; (try dsimp only at hSw); go_simp; try with_reducible rfl)
          try simp only [Act.put, List.setIfInBounds_toArray, List.set_cons_zero, List.set_cons_succ]
          refine wpAnyH_take (i := 4) (oi := ⟨some 50, _, _, _, _, _⟩) (v := ?_) rfl (by kernel_rfl) (by kernel_rfl) (by kernel_rfl) (fun _ _ _ h => h) (Or.inl ⟨by rfl, ?_⟩) (by assumption) ?_
          rotate_left
          · (intro w hSw; (try dsimp only at hSw); go_simp; try with_reducible rfl)
          try simp only [Act.put, List.setIfInBounds_toArray, List.set_cons_zero, List.set_cons_succ]
          refine wpAnyH_take (i := 5) (oi := ⟨some 51, _, _, _, _, _⟩) (v := ?_) rfl (by kernel_rfl) (by kernel_rfl) (by kernel_rfl) (fun _ _ _ h => h) (Or.inl ⟨by rfl, ?_⟩) (by assumption) ?_
          rotate_left
          · (intro w hSw; (try dsimp only at hSw); go_simp; try with_reducible rfl)
          try simp only [Act.put, List.setIfInBounds_toArray, List.set_cons_zero, List.set_cons_succ]
          refine wpAnyH_take (i := 6) (oi := ⟨some 52, _, _, _, _, _⟩) (v := ?_) rfl (by kernel_rfl) (by kernel_rfl) (by kernel_rfl) (fun _ _ _ h => h) (Or.inl ⟨by rfl, ?_⟩) (by assumption) ?_
          rotate_left
          · (intro w hSw; (try dsimp only at hSw); go_simp; try with_reducible rfl)
          try simp only [Act.put, List.setIfInBounds_toArray, List.set_cons_zero, List.set_cons_succ]
          refine wpAnyH_take (i := 8) (oi := ⟨some 54, _, _, _, _, _⟩) (v := ?_) rfl (by kernel_rfl) (by kernel_rfl) (by kernel_rfl) (fun _ _ _ h => h) (Or.inl ⟨by rfl, ?_⟩) (by assumption) ?_
          rotate_left
          · (intro w hSw; (try dsimp only at hSw); go_simp; try with_reducible rfl)
          try simp only [Act.put, List.setIfInBounds_toArray, List.set_cons_zero, List.set_cons_succ]
          refine wpAnyH_take (i := 9) (oi := ⟨some 55, _, _, _, _, _⟩) (v := ?_) rfl (by kernel_rfl) (by kernel_rfl) (by kernel_rfl) (fun _ _ _ h => h) (Or.inl ⟨by rfl, ?_⟩) (by assumption) ?_
          rotate_left
          · (intro w hSw; (try dsimp only at hSw); go_simp; try with_reducible rfl)
          try simp only [Act.put, List.setIfInBounds_toArray, List.set_cons_zero, List.set_cons_succ]
          refine next_one 7 (by kernel_rfl) rfl (by rfl) fun K' HK' => ?_
          go_simp
          have hlit : Rw u32t vL (wr.alloc (.cells #[.int .u32 (2 : Int), .int .u32 (d : Int)] u32t)).drew wr.heap.size (.slice (some ⟨wr.heap.size, 0, none⟩) 2 2) 2 [2, d] :=
            (Rw.has (T := u32t) (e := vL) (B := wr.heap.size) (n := 2) (l := [2, d]) (g := wr.heap.size) (w := wr.alloc (.cells #[.int .u32 (2 : Int), .int .u32 (d : Int)] u32t)) (Has.new wr u32t _ _ rfl) rfl (Nat.le_refl _) (by decide)).ext (by (repeat (first | assumption | exact Ext.refl _ | apply Ext.drew | apply Ext.drewN | apply Ext.alloc | refine Ext.trans ?_ (by assumption))); first | done | fail)
          have hs3 : Ext wr (wr.alloc (.cells #[.int .u32 (2 : Int), .int .u32 (d : Int)] u32t)).drew := (by (repeat (first | assumption | exact Ext.refl _ | apply Ext.drew | apply Ext.drewN | apply Ext.alloc | refine Ext.trans ?_ (by assumption))); first | done | fail)
          generalize hw3 : (wr.alloc (.cells #[.int .u32 (2 : Int), .int .u32 (d : Int)] u32t)).drew = w3 at *
          refine held_go HK' hs3 (fun hHeld => ?_)
          clear HK'
          try simp only [Act.put, List.setIfInBounds_toArray, List.set_cons_zero, List.set_cons_succ]
          refine next_one 10 (by kernel_rfl) rfl (by rfl) fun K' HK' => ?_
          refine wp_append_rd 36 (.int .u32 0) 4 Tryz.underlying36 inU rfl (by decide) (fun _ => rfl) (.tmp 53) (.tmp 55) rfl wr.heap.size _ 2 [2, d] rfl hlit A7 R (c2 - 1) r rfl (H3.out.ext hs3) (by omega) (2 + R) rfl ([2, d] ++ r) rfl wr hs3 (Nat.le_refl _) hs3.size ?_
          intro A5 c5 w5 ho5 hx5 hap5
          refine held_go HK' hx5 (fun hHeld => ?_)
          clear HK'
          try simp only [Act.put, List.setIfInBounds_toArray, List.set_cons_zero, List.set_cons_succ]
          refine wpAnyH_take (i := 11) (oi := ⟨some 8, _, _, _, _, _⟩) (v := ?_) rfl (by kernel_rfl) (by kernel_rfl) (by kernel_rfl) (fun _ _ _ h => h) (Or.inl ⟨by rfl, ?_⟩) (by assumption) ?_
          rotate_left
          · (intro w hSw; (try dsimp only at hSw); go_simp; try with_reducible rfl)
          try simp only [Act.put, List.setIfInBounds_toArray, List.set_cons_zero, List.set_cons_succ]
          refine wpAnyH_done (by kernel_rfl) ?_ _
          rw [← HU.out] at ho5
          obtain ⟨Q, hQ⟩ : ∃ Q, Q = oidU (pmO b) := ⟨_, rfl⟩
          rw [← hQ] at ho5 HDg
          have hQl : Q.length = 2 + R := ho5.len
          have HQ := Kp.mk hQ
          have H5 := Kp.mk ho5
          have X5 := Kp.mk (H2.out.trans hx5)
          have HQl := Kp.mk hQl
          clear ho5 hx5 hap5 hlit hs3 hw3 hQ hQl k1 hcut f1 f2 g6
          generalize 2 + R = M at *
          go_wp2_with fail
          refine (refOid_any H5.out.rd).mono ?_
          rintro e w6 ⟨rfl, hw⟩
          obtain rfl : w5 = w6 := hw.symm
          by_cases hP : OidP Q
          · rw [(oidK_iff HDg.out).2 hP]
            have HP := Kp.mk hP
            clear hP
            go_wp2_with fail
            refine wp_region_held_drew (S := fun w' => Ext w5 w') (by kernel_rfl) (Ext.refl w5).drew (fun hHeld => ?_)
            have hc2 := fun (w' : World) (hx : Ext w5 w') => (HB.out.ext (X5.out.trans hx)).str (Ext.refl _)
            refine wpAnyH_take (i := 0) (oi := ⟨some 59, _, _, _, _, _⟩) (v := ?_) rfl (by kernel_rfl) (by kernel_rfl) (by kernel_rfl) (fun _ _ _ h => h) (Or.inl ⟨by rfl, ?_⟩) (by assumption) ?_
            rotate_left
            · (intro w hSw; (try dsimp only at hSw); go_simp; try with_reducible rfl)
            try simp only [Act.put, List.setIfInBounds_toArray, List.set_cons_zero, List.set_cons_succ]
            refine wpAnyH_take (i := 1) (oi := ⟨some 60, _, _, _, _, _⟩) (v := ?_) rfl (by kernel_rfl) (by kernel_rfl) (by kernel_rfl) (fun _ _ _ h => h) (Or.inl ⟨by rfl, ?_⟩) (by assumption) ?_
            rotate_left
            · (intro w hSw; (try dsimp only at hSw); go_simp; try with_reducible rfl)
            try simp only [Act.put, List.setIfInBounds_toArray, List.set_cons_zero, List.set_cons_succ]
            refine wpAnyH_take (i := 2) (oi := ⟨some 61, _, _, _, _, _⟩) (v := ?_) rfl (by kernel_rfl) (by kernel_rfl) (by kernel_rfl) (fun _ _ _ h => h) (Or.inl ⟨by rfl, ?_⟩) (by assumption) ?_
            rotate_left
            · (intro w hSw; (try dsimp only at hSw); go_simp; try with_reducible rfl)
            try simp only [Act.put, List.setIfInBounds_toArray, List.set_cons_zero, List.set_cons_succ]
            refine wpAnyH_take (i := 3) (oi := ⟨some 62, _, _, _, _, _⟩) (v := ?_) rfl (by kernel_rfl) (by kernel_rfl) (by kernel_rfl) (fun _ _ _ h => h) (Or.inl ⟨by rfl, ?_⟩) (by assumption) ?_
            rotate_left
            · (intro w hSw; (try dsimp only at hSw); go_simp; try with_reducible rfl)
            try simp only [Act.put, List.setIfInBounds_toArray, List.set_cons_zero, List.set_cons_succ]
            refine wpAnyH_take (i := 6) (oi := ⟨some 65, _, _, _, _, _⟩) (v := ?_) rfl (by kernel_rfl) (by kernel_rfl) (by kernel_rfl) (fun _ _ _ h => h) (Or.inl ⟨by rfl, ?_⟩) (by assumption) ?_
            rotate_left
            · (intro w hSw; (try dsimp only at hSw); go_simp; try with_reducible rfl)
            try simp only [Act.put, List.setIfInBounds_toArray, List.set_cons_zero, List.set_cons_succ]
            refine wpAnyH_take (i := 7) (oi := ⟨some 66, _, _, _, _, _⟩) (v := ?_) rfl (by kernel_rfl) (by kernel_rfl) (by kernel_rfl) (fun _ _ _ h => h) (Or.inl ⟨by rfl, ?_⟩) (by assumption) ?_
            rotate_left
            · (intro w hSw; (try dsimp only at hSw); go_simp; try with_reducible rfl)
            try simp only [Act.put, List.setIfInBounds_toArray, List.set_cons_zero, List.set_cons_succ]
            refine next_one 4 (by kernel_rfl) rfl (by rfl) fun K' HK' => ?_
            go_simp
            refine (OidBody_any (H5.out.rd.ext (by (repeat (first | assumption | exact Ext.refl _ | apply Ext.drew | apply Ext.drewN | apply Ext.alloc | refine Ext.trans ?_ (by assumption))); first | done | fail)) HP.out).mono ?_
            rintro e w7 ⟨A8, c8, rfl, hs8, ho8, hx8⟩
            have hx8' : Ext w5 w7 := (by (repeat (first | assumption | exact Ext.refl _ | apply Ext.drew | apply Ext.drewN | apply Ext.alloc | refine Ext.trans ?_ (by assumption))); first | done | fail)
            have hS2 := Ext.trans hHeld hx8
            refine held_go HK' hS2 (fun _ => ?_)
            clear HK'
            refine held_more (S' := fun w' => Ext w7 w') (fun _ h => Ext.trans hS2 h) _ _ _ _ ?_
            clear hHeld hS2
            have hHeld : Ext w7 w7 := Ext.refl _
            try simp only [Act.put, List.setIfInBounds_toArray, List.set_cons_zero, List.set_cons_succ]
            have hc1 := fun (w' : World) (hx : Ext w7 w') => hs8.str hx
            by_cases hE : oidB Q = b
            · have hE' : ((strOf (oidB Q)).toList == (strOf b).toList) = true := by rw [hE]; exact beq_self_eq_true _
              generalize (oidB Q).length = M8 at *
              have HE := Kp.mk hE
              clear hE
              refine wpAnyH_take (i := 5) (oi := ⟨some 64, _, _, _, _, _⟩) (v := ?_) rfl (by kernel_rfl) (by kernel_rfl) (by kernel_rfl) (fun _ _ _ h => h) (Or.inl ⟨by rfl, ?_⟩) (by assumption) ?_
              rotate_left
              · (intro w hSw; (try dsimp only at hSw); go_simp; try with_reducible rfl)
              try simp only [Act.put, List.setIfInBounds_toArray, List.set_cons_zero, List.set_cons_succ]
              refine wpAnyH_take (i := 8) (oi := ⟨some 67, _, _, _, _, _⟩) (v := ?_) rfl (by kernel_rfl) (by kernel_rfl) (by kernel_rfl) (fun _ _ _ h => h) (Or.inl ⟨by rfl, ?_⟩) (by assumption) ?_
              rotate_left
              · (intro w hSw; (try dsimp only at hSw); go_simp; try with_reducible rfl)
              try simp only [Act.put, List.setIfInBounds_toArray, List.set_cons_zero, List.set_cons_succ]
              refine wpAnyH_take (i := 9) (oi := ⟨some 68, _, _, _, _, _⟩) (v := ?_) rfl (by kernel_rfl) (by kernel_rfl) (by kernel_rfl) (fun _ _ _ h => h) (Or.inl ⟨by rfl, ?_⟩) (by assumption) ?_
              rotate_left
              · (intro w hSw; (try dsimp only at hSw); go_simp; try with_reducible rfl)
              try simp only [Act.put, List.setIfInBounds_toArray, List.set_cons_zero, List.set_cons_succ]
              refine wpAnyH_done (by kernel_rfl) ?_ _
              go_wp2_with fail
              go_ret2
              refine .inr ?_
              rw [← HQ.out, HQl.out]
              exact ⟨HP.out, HE.out, A5, c5, rfl, (H5.out.ext hx8').lower H2.out.size, X5.out.trans hx8'⟩
            · have hE' := str_ne hE
              generalize (oidB Q).length = M8 at *
              have HE := Kp.mk hE
              clear hE
              refine wpAnyH_take (i := 5) (oi := ⟨some 64, _, _, _, _, _⟩) (v := ?_) rfl (by kernel_rfl) (by kernel_rfl) (by kernel_rfl) (fun _ _ _ h => h) (Or.inl ⟨by rfl, ?_⟩) (by assumption) ?_
              rotate_left
              · (intro w hSw; (try dsimp only at hSw); go_simp; try with_reducible rfl)
              try simp only [Act.put, List.setIfInBounds_toArray, List.set_cons_zero, List.set_cons_succ]
              refine wpAnyH_take (i := 8) (oi := ⟨some 67, _, _, _, _, _⟩) (v := ?_) rfl (by kernel_rfl) (by kernel_rfl) (by kernel_rfl) (fun _ _ _ h => h) (Or.inl ⟨by rfl, ?_⟩) (by assumption) ?_
              rotate_left
              · (intro w hSw; (try dsimp only at hSw); go_simp; try with_reducible rfl)
              try simp only [Act.put, List.setIfInBounds_toArray, List.set_cons_zero, List.set_cons_succ]
              refine wpAnyH_take (i := 9) (oi := ⟨some 68, _, _, _, _, _⟩) (v := ?_) rfl (by kernel_rfl) (by kernel_rfl) (by kernel_rfl) (fun _ _ _ h => h) (Or.inl ⟨by rfl, ?_⟩) (by assumption) ?_
              rotate_left
              · (intro w hSw; (try dsimp only at hSw); go_simp; try with_reducible rfl)
              try simp only [Act.put, List.setIfInBounds_toArray, List.set_cons_zero, List.set_cons_succ]
              refine wpAnyH_done (by kernel_rfl) ?_ _
              go_wp2_with fail
              go_ret2
              refine .inl ⟨?_, rfl, X5.out.trans hx8'⟩
              rw [← HQ.out]
              exact fun h => HE.out h.2
          · have hK : oidK Q = false := by
              cases hq : oidK Q with
              | false => rfl
              | true => exact absurd ((oidK_iff HDg.out).1 hq) hP
            rw [hK]
            have HP := Kp.mk hP
            clear hP hK
            go_wp2_with fail
            go_quiet (fail)
            go_wp2_with fail
            go_ret2
            refine .inl ⟨?_, rfl, X5.out.trans (by (repeat (first | assumption | exact Ext.refl _ | apply Ext.drew | apply Ext.drewN | apply Ext.alloc | refine Ext.trans ?_ (by assumption))); first | done | fail)⟩
            rw [← HQ.out]
            exact fun h => HP.out h.1
        · have j1 : decide ((2 : Int) < (f : Int)) = false := decide_eq_false (by omega)
          clear g5
          go_wp2_with fail
          refine wp_region_held_drew (S := fun w' => Ext wr w') (by kernel_rfl) (Ext.refl wr).drew (fun hHeld => ?_)
          refine wpAnyH_take (i := 0) (oi := ⟨some 46, _, _, _, _, _⟩) (v := ?_) rfl (by kernel_rfl) (by kernel_rfl) (by kernel_rfl) (fun _ _ _ h => h) (Or.inl ⟨by rfl, ?_⟩) (by assumption) ?_
          rotate_left
          · (intro w hSw; (try dsimp only at hSw); go_simp; try with_reducible rfl)
          try simp only [Act.put, List.setIfInBounds_toArray, List.set_cons_zero, List.set_cons_succ]
          refine wpAnyH_take (i := 1) (oi := ⟨some 47, _, _, _, _, _⟩) (v := ?_) rfl (by kernel_rfl) (by kernel_rfl) (by kernel_rfl) (fun _ _ _ h => h) (Or.inl ⟨by rfl, ?_⟩) (by assumption) ?_
          rotate_left
          · (intro w hSw; (try dsimp only at hSw); go_simp; try with_reducible rfl)
          try simp only [Act.put, List.setIfInBounds_toArray, List.set_cons_zero, List.set_cons_succ]
          refine wpAnyH_take (i := 2) (oi := ⟨some 48, _, _, _, _, _⟩) (v := ?_) rfl (by kernel_rfl) (by kernel_rfl) (by kernel_rfl) (fun _ _ _ h => h) (Or.inl ⟨by rfl, ?_⟩) (by assumption) ?_
          rotate_left
          · (intro w hSw; (try dsimp only at hSw); go_simp; try with_reducible rfl)
          try simp only [Act.put, List.setIfInBounds_toArray, List.set_cons_zero, List.set_cons_succ]
          refine wpAnyH_take (i := 3) (oi := ⟨some 49, _, _, _, _, _⟩) (v := ?_) rfl (by kernel_rfl) (by kernel_rfl) (by kernel_rfl) (fun _ _ _ h => h) (Or.inl ⟨by rfl, ?_⟩) (by assumption) ?_
          rotate_left
          · (intro w hSw; (try dsimp only at hSw); go_simp; try with_reducible rfl)
          try simp only [Act.put, List.setIfInBounds_toArray, List.set_cons_zero, List.set_cons_succ]
          refine wpAnyH_take (i := 4) (oi := ⟨some 50, _, _, _, _, _⟩) (v := ?_) rfl (by kernel_rfl) (by kernel_rfl) (by kernel_rfl) (fun _ _ _ h => h) (Or.inl ⟨by rfl, ?_⟩) (by assumption) ?_
          rotate_left
          · (intro w hSw; (try dsimp only at hSw); go_simp; try with_reducible rfl)
          try simp only [Act.put, List.setIfInBounds_toArray, List.set_cons_zero, List.set_cons_succ]
          refine wpAnyH_take (i := 5) (oi := ⟨some 51, _, _, _, _, _⟩) (v := ?_) rfl (by kernel_rfl) (by kernel_rfl) (by kernel_rfl) (fun _ _ _ h => h) (Or.inl ⟨by rfl, ?_⟩) (by assumption) ?_
          rotate_left
          · (intro w hSw; (try dsimp only at hSw); go_simp; try with_reducible rfl)
          try simp only [Act.put, List.setIfInBounds_toArray, List.set_cons_zero, List.set_cons_succ]
          refine wpAnyH_take (i := 6) (oi := ⟨some 52, _, _, _, _, _⟩) (v := ?_) rfl (by kernel_rfl) (by kernel_rfl) (by kernel_rfl) (fun _ _ _ h => h) (Or.inl ⟨by rfl, ?_⟩) (by assumption) ?_
          rotate_left
          · (intro w hSw; (try dsimp only at hSw); go_simp; try with_reducible rfl)
          try simp only [Act.put, List.setIfInBounds_toArray, List.set_cons_zero, List.set_cons_succ]
          refine wpAnyH_take (i := 8) (oi := ⟨some 54, _, _, _, _, _⟩) (v := ?_) rfl (by kernel_rfl) (by kernel_rfl) (by kernel_rfl) (fun _ _ _ h => h) (Or.inl ⟨by rfl, ?_⟩) (by assumption) ?_
          rotate_left
          · (intro w hSw; (try dsimp only at hSw); go_simp; try with_reducible rfl)
          try simp only [Act.put, List.setIfInBounds_toArray, List.set_cons_zero, List.set_cons_succ]
          refine wpAnyH_take (i := 9) (oi := ⟨some 55, _, _, _, _, _⟩) (v := ?_) rfl (by kernel_rfl) (by kernel_rfl) (by kernel_rfl) (fun _ _ _ h => h) (Or.inl ⟨by rfl, ?_⟩) (by assumption) ?_
          rotate_left
          · (intro w hSw; (try dsimp only at hSw); go_simp; try with_reducible rfl)
          try simp only [Act.put, List.setIfInBounds_toArray, List.set_cons_zero, List.set_cons_succ]
          refine next_one 7 (by kernel_rfl) rfl (by rfl) fun K' HK' => ?_
          go_simp
          have hlit : Rw u32t vL (wr.alloc (.cells #[.int .u32 (f : Int), .int .u32 (d : Int)] u32t)).drew wr.heap.size (.slice (some ⟨wr.heap.size, 0, none⟩) 2 2) 2 [f, d] :=
            (Rw.has (T := u32t) (e := vL) (B := wr.heap.size) (n := 2) (l := [f, d]) (g := wr.heap.size) (w := wr.alloc (.cells #[.int .u32 (f : Int), .int .u32 (d : Int)] u32t)) (Has.new wr u32t _ _ rfl) rfl (Nat.le_refl _) (by decide)).ext (by (repeat (first | assumption | exact Ext.refl _ | apply Ext.drew | apply Ext.drewN | apply Ext.alloc | refine Ext.trans ?_ (by assumption))); first | done | fail)
          have hs3 : Ext wr (wr.alloc (.cells #[.int .u32 (f : Int), .int .u32 (d : Int)] u32t)).drew := (by (repeat (first | assumption | exact Ext.refl _ | apply Ext.drew | apply Ext.drewN | apply Ext.alloc | refine Ext.trans ?_ (by assumption))); first | done | fail)
          generalize hw3 : (wr.alloc (.cells #[.int .u32 (f : Int), .int .u32 (d : Int)] u32t)).drew = w3 at *
          refine held_go HK' hs3 (fun hHeld => ?_)
          clear HK'
          try simp only [Act.put, List.setIfInBounds_toArray, List.set_cons_zero, List.set_cons_succ]
          refine next_one 10 (by kernel_rfl) rfl (by rfl) fun K' HK' => ?_
          refine wp_append_rd 36 (.int .u32 0) 4 Tryz.underlying36 inU rfl (by decide) (fun _ => rfl) (.tmp 53) (.tmp 55) rfl wr.heap.size _ 2 [f, d] rfl hlit A7 R (c2 - 1) r rfl (H3.out.ext hs3) (by omega) (2 + R) rfl ([f, d] ++ r) rfl wr hs3 (Nat.le_refl _) hs3.size ?_
          intro A5 c5 w5 ho5 hx5 hap5
          refine held_go HK' hx5 (fun hHeld => ?_)
          clear HK'
          try simp only [Act.put, List.setIfInBounds_toArray, List.set_cons_zero, List.set_cons_succ]
          refine wpAnyH_take (i := 11) (oi := ⟨some 8, _, _, _, _, _⟩) (v := ?_) rfl (by kernel_rfl) (by kernel_rfl) (by kernel_rfl) (fun _ _ _ h => h) (Or.inl ⟨by rfl, ?_⟩) (by assumption) ?_
          rotate_left
          · (intro w hSw; (try dsimp only at hSw); go_simp; try with_reducible rfl)
          try simp only [Act.put, List.setIfInBounds_toArray, List.set_cons_zero, List.set_cons_succ]
          refine wpAnyH_done (by kernel_rfl) ?_ _
          rw [← HU.out] at ho5
          obtain ⟨Q, hQ⟩ : ∃ Q, Q = oidU (pmO b) := ⟨_, rfl⟩
          rw [← hQ] at ho5 HDg
          have hQl : Q.length = 2 + R := ho5.len
          have HQ := Kp.mk hQ
          have H5 := Kp.mk ho5
          have X5 := Kp.mk (H2.out.trans hx5)
          have HQl := Kp.mk hQl
          clear ho5 hx5 hap5 hlit hs3 hw3 hQ hQl k1 hcut f1 f2 f4 f5
          generalize 2 + R = M at *
          go_wp2_with fail
          refine (refOid_any H5.out.rd).mono ?_
          rintro e w6 ⟨rfl, hw⟩
          obtain rfl : w5 = w6 := hw.symm
          by_cases hP : OidP Q
          · rw [(oidK_iff HDg.out).2 hP]
            have HP := Kp.mk hP
            clear hP
            go_wp2_with fail
            refine wp_region_held_drew (S := fun w' => Ext w5 w') (by kernel_rfl) (Ext.refl w5).drew (fun hHeld => ?_)
            have hc2 := fun (w' : World) (hx : Ext w5 w') => (HB.out.ext (X5.out.trans hx)).str (Ext.refl _)
            refine wpAnyH_take (i := 0) (oi := ⟨some 59, _, _, _, _, _⟩) (v := ?_) rfl (by kernel_rfl) (by kernel_rfl) (by kernel_rfl) (fun _ _ _ h => h) (Or.inl ⟨by rfl, ?_⟩) (by assumption) ?_
            rotate_left
            · (intro w hSw; (try dsimp only at hSw); go_simp; try with_reducible rfl)
            try simp only [Act.put, List.setIfInBounds_toArray, List.set_cons_zero, List.set_cons_succ]
            refine wpAnyH_take (i := 1) (oi := ⟨some 60, _, _, _, _, _⟩) (v := ?_) rfl (by kernel_rfl) (by kernel_rfl) (by kernel_rfl) (fun _ _ _ h => h) (Or.inl ⟨by rfl, ?_⟩) (by assumption) ?_
            rotate_left
            · (intro w hSw; (try dsimp only at hSw); go_simp; try with_reducible rfl)
            try simp only [Act.put, List.setIfInBounds_toArray, List.set_cons_zero, List.set_cons_succ]
            refine wpAnyH_take (i := 2) (oi := ⟨some 61, _, _, _, _, _⟩) (v := ?_) rfl (by kernel_rfl) (by kernel_rfl) (by kernel_rfl) (fun _ _ _ h => h) (Or.inl ⟨by rfl, ?_⟩) (by assumption) ?_
            rotate_left
            · (intro w hSw; (try dsimp only at hSw); go_simp; try with_reducible rfl)
            try simp only [Act.put, List.setIfInBounds_toArray, List.set_cons_zero, List.set_cons_succ]
            refine wpAnyH_take (i := 3) (oi := ⟨some 62, _, _, _, _, _⟩) (v := ?_) rfl (by kernel_rfl) (by kernel_rfl) (by kernel_rfl) (fun _ _ _ h => h) (Or.inl ⟨by rfl, ?_⟩) (by assumption) ?_
            rotate_left
            · (intro w hSw; (try dsimp only at hSw); go_simp; try with_reducible rfl)
            try simp only [Act.put, List.setIfInBounds_toArray, List.set_cons_zero, List.set_cons_succ]
            refine wpAnyH_take (i := 6) (oi := ⟨some 65, _, _, _, _, _⟩) (v := ?_) rfl (by kernel_rfl) (by kernel_rfl) (by kernel_rfl) (fun _ _ _ h => h) (Or.inl ⟨by rfl, ?_⟩) (by assumption) ?_
            rotate_left
            · (intro w hSw; (try dsimp only at hSw); go_simp; try with_reducible rfl)
            try simp only [Act.put, List.setIfInBounds_toArray, List.set_cons_zero, List.set_cons_succ]
            refine wpAnyH_take (i := 7) (oi := ⟨some 66, _, _, _, _, _⟩) (v := ?_) rfl (by kernel_rfl) (by kernel_rfl) (by kernel_rfl) (fun _ _ _ h => h) (Or.inl ⟨by rfl, ?_⟩) (by assumption) ?_
            rotate_left
            · (intro w hSw; (try dsimp only at hSw); go_simp; try with_reducible rfl)
            try simp only [Act.put, List.setIfInBounds_toArray, List.set_cons_zero, List.set_cons_succ]
            refine next_one 4 (by kernel_rfl) rfl (by rfl) fun K' HK' => ?_
            go_simp
            refine (OidBody_any (H5.out.rd.ext (by (repeat (first | assumption | exact Ext.refl _ | apply Ext.drew | apply Ext.drewN | apply Ext.alloc | refine Ext.trans ?_ (by assumption))); first | done | fail)) HP.out).mono ?_
            rintro e w7 ⟨A8, c8, rfl, hs8, ho8, hx8⟩
            have hx8' : Ext w5 w7 := (by (repeat (first | assumption | exact Ext.refl _ | apply Ext.drew | apply Ext.drewN | apply Ext.alloc | refine Ext.trans ?_ (by assumption))); first | done | fail)
            have hS2 := Ext.trans hHeld hx8
            refine held_go HK' hS2 (fun _ => ?_)
            clear HK'
            refine held_more (S' := fun w' => Ext w7 w') (fun _ h => Ext.trans hS2 h) _ _ _ _ ?_
            clear hHeld hS2
            have hHeld : Ext w7 w7 := Ext.refl _
            try simp only [Act.put, List.setIfInBounds_toArray, List.set_cons_zero, List.set_cons_succ]
            have hc1 := fun (w' : World) (hx : Ext w7 w') => hs8.str hx
            by_cases hE : oidB Q = b
            · have hE' : ((strOf (oidB Q)).toList == (strOf b).toList) = true := by rw [hE]; exact beq_self_eq_true _
              generalize (oidB Q).length = M8 at *
              have HE := Kp.mk hE
              clear hE
              refine wpAnyH_take (i := 5) (oi := ⟨some 64, _, _, _, _, _⟩) (v := ?_) rfl (by kernel_rfl) (by kernel_rfl) (by kernel_rfl) (fun _ _ _ h => h) (Or.inl ⟨by rfl, ?_⟩) (by assumption) ?_
              rotate_left
              · (intro w hSw; (try dsimp only at hSw); go_simp; try with_reducible rfl)
              try simp only [Act.put, List.setIfInBounds_toArray, List.set_cons_zero, List.set_cons_succ]
              refine wpAnyH_take (i := 8) (oi := ⟨some 67, _, _, _, _, _⟩) (v := ?_) rfl (by kernel_rfl) (by kernel_rfl) (by kernel_rfl) (fun _ _ _ h => h) (Or.inl ⟨by rfl, ?_⟩) (by assumption) ?_
              rotate_left
              · (intro w hSw; (try dsimp only at hSw); go_simp; try with_reducible rfl)
              try simp only [Act.put, List.setIfInBounds_toArray, List.set_cons_zero, List.set_cons_succ]
              refine wpAnyH_take (i := 9) (oi := ⟨some 68, _, _, _, _, _⟩) (v := ?_) rfl (by kernel_rfl) (by kernel_rfl) (by kernel_rfl) (fun _ _ _ h => h) (Or.inl ⟨by rfl, ?_⟩) (by assumption) ?_
              rotate_left
              · (intro w hSw; (try dsimp only at hSw); go_simp; try with_reducible rfl)
              try simp only [Act.put, List.setIfInBounds_toArray, List.set_cons_zero, List.set_cons_succ]
              refine wpAnyH_done (by kernel_rfl) ?_ _
              go_wp2_with fail
              go_ret2
              refine .inr ?_
              rw [← HQ.out, HQl.out]
              exact ⟨HP.out, HE.out, A5, c5, rfl, (H5.out.ext hx8').lower H2.out.size, X5.out.trans hx8'⟩
            · have hE' := str_ne hE
              generalize (oidB Q).length = M8 at *
              have HE := Kp.mk hE
              clear hE
              refine wpAnyH_take (i := 5) (oi := ⟨some 64, _, _, _, _, _⟩) (v := ?_) rfl (by kernel_rfl) (by kernel_rfl) (by kernel_rfl) (fun _ _ _ h => h) (Or.inl ⟨by rfl, ?_⟩) (by assumption) ?_
              rotate_left
              · (intro w hSw; (try dsimp only at hSw); go_simp; try with_reducible rfl)
              try simp only [Act.put, List.setIfInBounds_toArray, List.set_cons_zero, List.set_cons_succ]
              refine wpAnyH_take (i := 8) (oi := ⟨some 67, _, _, _, _, _⟩) (v := ?_) rfl (by kernel_rfl) (by kernel_rfl) (by kernel_rfl) (fun _ _ _ h => h) (Or.inl ⟨by rfl, ?_⟩) (by assumption) ?_
              rotate_left
              · (intro w hSw; (try dsimp only at hSw); go_simp; try with_reducible rfl)
              try simp only [Act.put, List.setIfInBounds_toArray, List.set_cons_zero, List.set_cons_succ]
              refine wpAnyH_take (i := 9) (oi := ⟨some 68, _, _, _, _, _⟩) (v := ?_) rfl (by kernel_rfl) (by kernel_rfl) (by kernel_rfl) (fun _ _ _ h => h) (Or.inl ⟨by rfl, ?_⟩) (by assumption) ?_
              rotate_left
              · (intro w hSw; (try dsimp only at hSw); go_simp; try with_reducible rfl)
              try simp only [Act.put, List.setIfInBounds_toArray, List.set_cons_zero, List.set_cons_succ]
              refine wpAnyH_done (by kernel_rfl) ?_ _
              go_wp2_with fail
              go_ret2
              refine .inl ⟨?_, rfl, X5.out.trans hx8'⟩
              rw [← HQ.out]
              exact fun h => HE.out h.2
          · have hK : oidK Q = false := by
              cases hq : oidK Q with
              | false => rfl
              | true => exact absurd ((oidK_iff HDg.out).1 hq) hP
            rw [hK]
            have HP := Kp.mk hP
            clear hP hK
            go_wp2_with fail
            go_quiet (fail)
            go_wp2_with fail
            go_ret2
            refine .inl ⟨?_, rfl, X5.out.trans (by (repeat (first | assumption | exact Ext.refl _ | apply Ext.drew | apply Ext.drewN | apply Ext.alloc | refine Ext.trans ?_ (by assumption))); first | done | fail)⟩
            rw [← HQ.out]
            exact fun h => HP.out h.1
end Go.Proofs.YthookcnkmlmgcaaGreatDoor
