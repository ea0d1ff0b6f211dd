/-
  The walk of the law NameStays.
-/
import Derived.Test.YthookcnkmlmgcaaDoorW5
namespace Go.Proofs.YthookcnkmlmgcaaDoor
open Go Go.RowKit
set_option maxRecDepth 4000

theorem ub_up9 (x : BitVec 8) : IntKind.u8.wrap (ub x + 1) = ub (x + 1) := by
  rw [IntKind.wrap_u8]
  unfold ub
  rw [BitVec.toNat_add]
  have := x.isLt
  simp
theorem FitN.nil : FitN [] := ⟨Nat.zero_le _, fun s hs => by cases hs⟩
theorem MayN.fit {T : BitVec 8 → List (BitVec 8) → Bool} {x : List (List Atr)} (h : MayN T x) : FitN x := by
  refine ⟨by have := h.hi; omega, fun s hs => ⟨?_, fun a ha => ?_⟩⟩
  · have := (h.all s hs).hi
    omega
  · have h1 := ((h.all s hs).all a ha)
    have h2 := h1.hi
    obtain ⟨_, _, _, _, h4, _⟩ := h1.oid
    exact ⟨by omega, by omega⟩
set_option maxHeartbeats 32000000 in
theorem NameStays_any {A B : Option Addr} {n c m d : Nat} {x : List (List Atr)} {b : List (BitVec 8)} {w : World} (h : Nam w A n c x) (hb : Bs w B m d b) (hT : Tabs8 w) :
    Calls Tryd.prog 5 #[.slice A n c, .slice B m d] w fun e w' => e = .returned (.bool true) ∧ Below w.heap.size w w' := by
  have hbl := hb.len
  have H := Kp.mk h
  have HT := Kp.mk hT
  have HB := Kp.mk hb
  clear h hT hb
  go_enter Tryd.func5, Tryd.ntmps5
  go_wp2_with fail
  refine (up9 _).mono ?_
  rintro e w1 ⟨rfl, x1⟩
  have X1 := Kp.mk x1
  clear x1
  go_wp2_with fail
  refine (light_any (H.out.ext X1.out)).mono ?_
  rintro e w2 ⟨lb, rfl, hlb, hw⟩
  obtain rfl : w1 = w2 := hw.symm
  cases lb with
  | false =>
    clear hlb
    go_wp2_with fail
    go_ret
    exact ⟨rfl, X1.out.b⟩
  | true =>
    have HLP := Kp.mk (hlb rfl)
    clear hlb
    by_cases hm4 : 4000 < m
    · have b4 : (4000 : Int) < (m : Int) := by omega
      go_wp2_with fail
      go_ret
      exact ⟨rfl, X1.out.b⟩
    · have b4 : ¬ (4000 : Int) < (m : Int) := by omega
      go_wp2_with fail
      refine (Write_any (H.out.ext X1.out) (tabs_ext HT.out X1.out)).mono ?_
      rintro e w3 (⟨hM, A3, c3, rfl, hs3, ho3, x3⟩ | ⟨hM, rfl, x3⟩)
      · as_aux_lemma =>
        have HM := Kp.mk hM
        have X31 := Kp.mk x3
        have X3 := Kp.mk (X1.out.trans x3)
        have hP := namB_hi hM.w
        obtain ⟨L, hLL⟩ : ∃ L, namB x = L := ⟨_, rfl⟩
        rw [hLL] at ho3 hP ⊢
        obtain ⟨P, hPP⟩ : ∃ P, L.length = P := ⟨_, rfl⟩
        rw [hPP] at ho3 hP ⊢
        have O3 := Kp.mk ho3
        have HLL := Kp.mk hLL
        clear hM hs3 ho3 x3 hLL hPP
        have S3 := O3.out.bs.str (Ext.refl _)
        go_wp2_with fail
        clear S3
        go_loopw [10] (fun iv wq => ∃ (j : Nat) (l : List (BitVec 8)), j ≤ P ∧ iv = .int .i64 (j : Int) ∧ Own wq w1.heap.size (.slice A3 P c3) P l ∧ Mds (fpv (.slice A3 P c3)) w3 wq) (fun i _ => P - (intOf i).toNat)
        case atStart => exact ⟨0, L, Nat.zero_le _, rfl, O3.out, Mds.refl _ _⟩
        case round =>
          obtain ⟨j, l, hj, rfl, hl, hmd⟩ := hrel
          by_cases hlt : j < P
          · as_aux_lemma =>
            obtain ⟨gx, rfl, _, _⟩ := hl.some_ (by omega)
            have k3 := hl.cell j hlt
            have k4 := hl.free j
            have HL8 := Kp.mk (hl.set j (gb l j + 1))
            have HMd := Kp.mk (hmd.setCell (p := ⟨gx, j, none⟩) (mem_fpv.2 rfl) (.int .u8 (ub (gb l j + 1))))
            have b0 : (j : Int) < (P : Int) := by omega
            have b1 : (j : Int) < 9223372036854775807 := by omega
            have e2 := ub_up9 (gb l j)
            generalize gb l j = z1 at *
            generalize ub (z1 + 1) = y1 at *
            generalize ub z1 = z2 at *
            clear hl hmd
            go_wp2_with fail
            go_roundw
            case rel => exact ⟨j + 1, _, by omega, by go_num, HL8.out, HMd.out⟩
            case measure => simp [intOf]; omega
          · obtain rfl : j = P := by omega
            obtain ⟨w4, rfl⟩ : ∃ w4 : World, w4 = wr := ⟨_, rfl⟩
            as_aux_lemma =>
            have X14 := Kp.mk (hmd.ext (X31.out) (fun k hk => O3.out.base k (mem_fpv.1 hk)))
            have X4 := Kp.mk (X1.out.trans X14.out)
            have b0 : ¬ (j : Int) < (j : Int) := by omega
            clear hl hmd
            go_wp2_with fail
            refine (Write_any (H.out.ext X4.out) (tabs_ext HT.out X4.out)).mono ?_
            rintro e w5 (⟨_, A5, c5, rfl, hs5, _, x5⟩ | ⟨hno, _⟩)
            · rw [HLL.out] at hs5 ⊢
              have HS5 := Kp.mk hs5
              have X5 := Kp.mk (X4.out.trans x5)
              clear hs5 x5
              obtain ⟨Q5, hQ5⟩ : ∃ Q, L.length = Q := ⟨_, rfl⟩
              rw [hQ5] at HS5 ⊢
              clear hQ5
              go_wp2_with (first | (at_builtin; refine wpList_append_bs rfl (.tmp 57) (.tmp 58) rfl w5.heap.size _ 0 [] rfl (Own.new w5 w5.heap.size 0 [] rfl (Nat.le_refl _) (by decide)) B m d b rfl (HB.out.ext (X5.out.trans (by (repeat (first | assumption | exact Ext.refl _ | apply Ext.drew | apply Ext.drewN | apply Ext.alloc | refine Ext.trans ?_ (by assumption))); first | done | fail))) (by omega) m (by omega) _ rfl w5 (by (repeat (first | assumption | exact Ext.refl _ | apply Ext.drew | apply Ext.drewN | apply Ext.alloc | refine Ext.trans ?_ (by assumption))); first | done | fail) (Nat.le_refl _) ((by (repeat (first | assumption | exact Ext.refl _ | apply Ext.drew | apply Ext.drewN | apply Ext.alloc | refine Ext.trans ?_ (by assumption))); first | done | fail) : Ext w5 _).size ?_; intro A6 c6 w6 ho6 hx6 _; have O6 := Kp.mk ho6; have X56 := Kp.mk hx6; have X6 := Kp.mk (X5.out.trans hx6); have HR := Kp.mk (Read_any ho6.bs (by omega) (tabs_ext HT.out (X5.out.trans hx6))); clear ho6 hx6) | fail)
              refine HR.out.mono ?_
              rintro e w7 (⟨qs, A7, c7, F7, hm7, he7, rfl, ho7, hl7, x7⟩ | ⟨hno7, rfl, x7⟩)
              · as_aux_lemma =>
                have HM7 := Kp.mk hm7
                have HE7 := Kp.mk he7
                obtain ⟨n7, hn7⟩ : ∃ n7, qs.length = n7 := ⟨_, rfl⟩
                rw [hn7] at ho7 hl7 ⊢
                have O7 := Kp.mk ho7
                have L7 := Kp.mk hl7
                have N7 := Kp.mk hn7
                have HX7 := Kp.mk x7
                clear hm7 he7 ho7 hl7 hn7 x7
                have X57 := Kp.mk (X56.out.trans HX7.out)
                have X7 := Kp.mk (X5.out.trans X57.out)
                have S6 := (O6.out.ext HX7.out).bs.str (Ext.refl _)
                have SB := (HB.out.ext X7.out).str (Ext.refl _)
                go_wp2_with fail
                clear S6 SB
                go_loopw [17] (fun iv wq => ∃ (j : Nat) (l : List (BitVec 8)), j ≤ m ∧ iv = .int .i64 (j : Int) ∧ Own wq w5.heap.size (.slice A6 m c6) m l ∧ Mds (fpv (.slice A6 m c6)) w7 wq) (fun i _ => m - (intOf i).toNat)
                case atStart => exact ⟨0, b, Nat.zero_le _, rfl, O6.out.ext HX7.out, Mds.refl _ _⟩
                case round =>
                  obtain ⟨k, l, hk, rfl, hl, hmd⟩ := hrel
                  by_cases hlt : k < m
                  · as_aux_lemma =>
                    obtain ⟨gx, rfl, _, _⟩ := hl.some_ (by omega)
                    have k3 := hl.cell k hlt
                    have k4 := hl.free k
                    have HL8 := Kp.mk (hl.set k (gb l k + 1))
                    have HMd := Kp.mk (hmd.setCell (p := ⟨gx, k, none⟩) (mem_fpv.2 rfl) (.int .u8 (ub (gb l k + 1))))
                    have b0 : (k : Int) < (m : Int) := by omega
                    have b1 : (k : Int) < 9223372036854775807 := by omega
                    have e2 := ub_up9 (gb l k)
                    generalize gb l k = z1 at *
                    generalize ub (z1 + 1) = y1 at *
                    generalize ub z1 = z2 at *
                    clear hl hmd
                    go_wp2_with fail
                    go_roundw
                    case rel => exact ⟨k + 1, _, by omega, by go_num, HL8.out, HMd.out⟩
                    case measure => simp [intOf]; omega
                  · obtain rfl : k = m := by omega
                    obtain ⟨w8, rfl⟩ : ∃ w8 : World, w8 = wr := ⟨_, rfl⟩
                    as_aux_lemma =>
                    have X58 := Kp.mk (hmd.ext X57.out (fun k hk => O6.out.base k (mem_fpv.1 hk)))
                    have X8 := Kp.mk (X5.out.trans X58.out)
                    have b5 : ¬ (k : Int) < (k : Int) := by omega
                    have O8 := Kp.mk (O7.out.mds hmd fun k hk hk2 => by
                      have h1 := L7.out k hk
                      have h2 := O6.out.lt k (mem_fpv.1 hk2)
                      omega)
                    clear hl hmd
                    go_wp2_with fail
                    refine (Read_any (HB.out.ext X8.out) (by omega) (tabs_ext HT.out X8.out)).mono ?_
                    rintro e w9 (⟨ps, A9, c9, F9, hm9, he9, rfl, ho9, _, x9⟩ | ⟨hno, _⟩)
                    · have hq : qs.map Prod.snd = ps.map Prod.snd := namW_inj HM7.out.w hm9.w (HE7.out.trans he9.symm)
                      have X59 := Kp.mk (X58.out.trans x9)
                      have X9 := Kp.mk (X8.out.trans x9)
                      have HSM := Kp.mk (fun (W : World) (hW : Ext w9 W) => (Same_any ((O8.out.nam N7.out).ext (x9.trans hW)) ((ho9.nam rfl).ext hW) (by rw [hq]; exact hm9.fit)))
                      rw [show sameN (qs.map Prod.snd) (ps.map Prod.snd) = true from sameN_yes hq] at HSM
                      have c1 := fun (W : World) (hW : Ext w9 W) => (HS5.out.ext (X59.out.trans hW)).str (Ext.refl _)
                      clear x9 hm9 he9 ho9 hq
                      go_wp2_with fail
                      refine wp_region_held_drew (S := fun w' => Ext w9 w') (by kernel_rfl) (Ext.refl w9).drew (fun hHeld => ?_)
                      refine wpAnyH_take (i := 0) (oi := ⟨some 89, _, _, _, _, _⟩) (v := ?_) rfl (by kernel_rfl) (by kernel_rfl) (by kernel_rfl) (fun _ _ _ h => h) (Or.inl ⟨by rfl, ?_⟩) (by assumption) ?_
                      rotate_left
                      · (intro w hSw; (try dsimp only at hSw); go_simp; try with_reducible rfl)
                      try simp only [Act.put, List.setIfInBounds_toArray, List.set_cons_zero, List.set_cons_succ]
                      refine wpAnyH_take (i := 1) (oi := ⟨some 90, _, _, _, _, _⟩) (v := ?_) rfl (by kernel_rfl) (by kernel_rfl) (by kernel_rfl) (fun _ _ _ h => h) (Or.inl ⟨by rfl, ?_⟩) (by assumption) ?_
                      rotate_left
                      · (intro w hSw; (try dsimp only at hSw); go_simp; try with_reducible rfl)
                      try simp only [Act.put, List.setIfInBounds_toArray, List.set_cons_zero, List.set_cons_succ]
                      refine wpAnyH_take (i := 2) (oi := ⟨some 91, _, _, _, _, _⟩) (v := ?_) rfl (by kernel_rfl) (by kernel_rfl) (by kernel_rfl) (fun _ _ _ h => h) (Or.inl ⟨by rfl, ?_⟩) (by assumption) ?_
                      rotate_left
                      · (intro w hSw; (try dsimp only at hSw); go_simp; try with_reducible rfl)
                      try simp only [Act.put, List.setIfInBounds_toArray, List.set_cons_zero, List.set_cons_succ]
                      refine wpAnyH_take (i := 3) (oi := ⟨some 92, _, _, _, _, _⟩) (v := ?_) rfl (by kernel_rfl) (by kernel_rfl) (by kernel_rfl) (fun _ _ _ h => h) (Or.inl ⟨by rfl, ?_⟩) (by assumption) ?_
                      rotate_left
                      · (intro w hSw; (try dsimp only at hSw); go_simp; try with_reducible rfl)
                      try simp only [Act.put, List.setIfInBounds_toArray, List.set_cons_zero, List.set_cons_succ]
                      refine wpAnyH_take (i := 4) (oi := ⟨some 93, _, _, _, _, _⟩) (v := ?_) rfl (by kernel_rfl) (by kernel_rfl) (by kernel_rfl) (fun _ _ _ h => h) (Or.inl ⟨by rfl, ?_⟩) (by assumption) ?_
                      rotate_left
                      · (intro w hSw; (try dsimp only at hSw); go_simp; try with_reducible rfl)
                      try simp only [Act.put, List.setIfInBounds_toArray, List.set_cons_zero, List.set_cons_succ]
                      refine wpAnyH_take (i := 5) (oi := ⟨some 94, _, _, _, _, _⟩) (v := ?_) rfl (by kernel_rfl) (by kernel_rfl) (by kernel_rfl) (fun _ _ _ h => h) (Or.inl ⟨by rfl, ?_⟩) (by assumption) ?_
                      rotate_left
                      · (intro w hSw; (try dsimp only at hSw); go_simp; try with_reducible rfl)
                      try simp only [Act.put, List.setIfInBounds_toArray, List.set_cons_zero, List.set_cons_succ]
                      refine wpAnyH_take (i := 6) (oi := ⟨some 95, _, _, _, _, _⟩) (v := ?_) rfl (by kernel_rfl) (by kernel_rfl) (by kernel_rfl) (fun _ _ _ h => h) (Or.inl ⟨by rfl, ?_⟩) (by assumption) ?_
                      rotate_left
                      · (intro w hSw; (try dsimp only at hSw); go_simp; try with_reducible rfl)
                      try simp only [Act.put, List.setIfInBounds_toArray, List.set_cons_zero, List.set_cons_succ]
                      refine wpAnyH_take (i := 7) (oi := ⟨some 96, _, _, _, _, _⟩) (v := ?_) rfl (by kernel_rfl) (by kernel_rfl) (by kernel_rfl) (fun _ _ _ h => h) (Or.inl ⟨by rfl, ?_⟩) (by assumption) ?_
                      rotate_left
                      · (intro w hSw; (try dsimp only at hSw); go_simp; try with_reducible rfl)
                      try simp only [Act.put, List.setIfInBounds_toArray, List.set_cons_zero, List.set_cons_succ]
                      refine wpAnyH_take (i := 8) (oi := ⟨some 97, _, _, _, _, _⟩) (v := ?_) rfl (by kernel_rfl) (by kernel_rfl) (by kernel_rfl) (fun _ _ _ h => h) (Or.inl ⟨by rfl, ?_⟩) (by assumption) ?_
                      rotate_left
                      · (intro w hSw; (try dsimp only at hSw); go_simp; try with_reducible rfl)
                      try simp only [Act.put, List.setIfInBounds_toArray, List.set_cons_zero, List.set_cons_succ]
                      refine wpAnyH_take (i := 9) (oi := ⟨some 98, _, _, _, _, _⟩) (v := ?_) rfl (by kernel_rfl) (by kernel_rfl) (by kernel_rfl) (fun _ _ _ h => h) (Or.inl ⟨by rfl, ?_⟩) (by assumption) ?_
                      rotate_left
                      · (intro w hSw; (try dsimp only at hSw); go_simp; try with_reducible rfl)
                      try simp only [Act.put, List.setIfInBounds_toArray, List.set_cons_zero, List.set_cons_succ]
                      refine wpAnyH_take (i := 10) (oi := ⟨some 99, _, _, _, _, _⟩) (v := ?_) rfl (by kernel_rfl) (by kernel_rfl) (by kernel_rfl) (fun _ _ _ h => h) (Or.inl ⟨by rfl, ?_⟩) (by assumption) ?_
                      rotate_left
                      · (intro w hSw; (try dsimp only at hSw); go_simp; try with_reducible rfl)
                      try simp only [Act.put, List.setIfInBounds_toArray, List.set_cons_zero, List.set_cons_succ]
                      refine wpAnyH_take (i := 11) (oi := ⟨some 100, _, _, _, _, _⟩) (v := ?_) rfl (by kernel_rfl) (by kernel_rfl) (by kernel_rfl) (fun _ _ _ h => h) (Or.inl ⟨by rfl, ?_⟩) (by assumption) ?_
                      rotate_left
                      · (intro w hSw; (try dsimp only at hSw); go_simp; try with_reducible rfl)
                      try simp only [Act.put, List.setIfInBounds_toArray, List.set_cons_zero, List.set_cons_succ]
                      refine wpAnyH_take (i := 12) (oi := ⟨some 101, _, _, _, _, _⟩) (v := ?_) rfl (by kernel_rfl) (by kernel_rfl) (by kernel_rfl) (fun _ _ _ h => h) (Or.inl ⟨by rfl, ?_⟩) (by assumption) ?_
                      rotate_left
                      · (intro w hSw; (try dsimp only at hSw); go_simp; try with_reducible rfl)
                      try simp only [Act.put, List.setIfInBounds_toArray, List.set_cons_zero, List.set_cons_succ]
                      refine wpAnyH_take (i := 13) (oi := ⟨some 102, _, _, _, _, _⟩) (v := ?_) rfl (by kernel_rfl) (by kernel_rfl) (by kernel_rfl) (fun _ _ _ h => h) (Or.inl ⟨by rfl, ?_⟩) (by assumption) ?_
                      rotate_left
                      · (intro w hSw; (try dsimp only at hSw); go_simp; try with_reducible rfl)
                      try simp only [Act.put, List.setIfInBounds_toArray, List.set_cons_zero, List.set_cons_succ]
                      refine wpAnyH_take (i := 14) (oi := ⟨some 103, _, _, _, _, _⟩) (v := ?_) rfl (by kernel_rfl) (by kernel_rfl) (by kernel_rfl) (fun _ _ _ h => h) (Or.inl ⟨by rfl, ?_⟩) (by assumption) ?_
                      rotate_left
                      · (intro w hSw; (try dsimp only at hSw); go_simp; try with_reducible rfl)
                      try simp only [Act.put, List.setIfInBounds_toArray, List.set_cons_zero, List.set_cons_succ]
                      refine wpAnyH_take (i := 15) (oi := ⟨some 104, _, _, _, _, _⟩) (v := ?_) rfl (by kernel_rfl) (by kernel_rfl) (by kernel_rfl) (fun _ _ _ h => h) (Or.inl ⟨by rfl, ?_⟩) (by assumption) ?_
                      rotate_left
                      · (intro w hSw; (try dsimp only at hSw); go_simp; try with_reducible rfl)
                      try simp only [Act.put, List.setIfInBounds_toArray, List.set_cons_zero, List.set_cons_succ]
                      refine wpAnyH_take (i := 16) (oi := ⟨some 105, _, _, _, _, _⟩) (v := ?_) rfl (by kernel_rfl) (by kernel_rfl) (by kernel_rfl) (fun _ _ _ h => h) (Or.inl ⟨by rfl, ?_⟩) (by assumption) ?_
                      rotate_left
                      · (intro w hSw; (try dsimp only at hSw); go_simp; try with_reducible rfl)
                      try simp only [Act.put, List.setIfInBounds_toArray, List.set_cons_zero, List.set_cons_succ]
                      refine wpAnyH_take (i := 17) (oi := ⟨some 106, _, _, _, _, _⟩) (v := ?_) rfl (by kernel_rfl) (by kernel_rfl) (by kernel_rfl) (fun _ _ _ h => h) (Or.inl ⟨by rfl, ?_⟩) (by assumption) ?_
                      rotate_left
                      · (intro w hSw; (try dsimp only at hSw); go_simp; try with_reducible rfl)
                      try simp only [Act.put, List.setIfInBounds_toArray, List.set_cons_zero, List.set_cons_succ]
                      refine wpAnyH_take (i := 18) (oi := ⟨some 107, _, _, _, _, _⟩) (v := ?_) rfl (by kernel_rfl) (by kernel_rfl) (by kernel_rfl) (fun _ _ _ h => h) (Or.inl ⟨by rfl, ?_⟩) (by assumption) ?_
                      rotate_left
                      · (intro w hSw; (try dsimp only at hSw); go_simp; try with_reducible rfl)
                      try simp only [Act.put, List.setIfInBounds_toArray, List.set_cons_zero, List.set_cons_succ]
                      refine wpAnyH_take (i := 19) (oi := ⟨some 108, _, _, _, _, _⟩) (v := ?_) rfl (by kernel_rfl) (by kernel_rfl) (by kernel_rfl) (fun _ _ _ h => h) (Or.inl ⟨by rfl, ?_⟩) (by assumption) ?_
                      rotate_left
                      · (intro w hSw; (try dsimp only at hSw); go_simp; try with_reducible rfl)
                      try simp only [Act.put, List.setIfInBounds_toArray, List.set_cons_zero, List.set_cons_succ]
                      refine wpAnyH_take (i := 20) (oi := ⟨some 109, _, _, _, _, _⟩) (v := ?_) rfl (by kernel_rfl) (by kernel_rfl) (by kernel_rfl) (fun _ _ _ h => h) (Or.inl ⟨by rfl, ?_⟩) (by assumption) ?_
                      rotate_left
                      · (intro w hSw; (try dsimp only at hSw); go_simp; try with_reducible rfl)
                      try simp only [Act.put, List.setIfInBounds_toArray, List.set_cons_zero, List.set_cons_succ]
                      refine wpAnyH_take (i := 21) (oi := ⟨some 110, _, _, _, _, _⟩) (v := ?_) rfl (by kernel_rfl) (by kernel_rfl) (by kernel_rfl) (fun _ _ _ h => h) (Or.inl ⟨by rfl, ?_⟩) (by assumption) ?_
                      rotate_left
                      · (intro w hSw; (try dsimp only at hSw); go_simp; try with_reducible rfl)
                      try simp only [Act.put, List.setIfInBounds_toArray, List.set_cons_zero, List.set_cons_succ]
                      refine wpAnyH_take (i := 22) (oi := ⟨some 111, _, _, _, _, _⟩) (v := ?_) rfl (by kernel_rfl) (by kernel_rfl) (by kernel_rfl) (fun _ _ _ h => h) (Or.inl ⟨by rfl, ?_⟩) (by assumption) ?_
                      rotate_left
                      · (intro w hSw; (try dsimp only at hSw); go_simp; try with_reducible rfl)
                      try simp only [Act.put, List.setIfInBounds_toArray, List.set_cons_zero, List.set_cons_succ]
                      refine wpAnyH_take (i := 23) (oi := ⟨some 112, _, _, _, _, _⟩) (v := ?_) rfl (by kernel_rfl) (by kernel_rfl) (by kernel_rfl) (fun _ _ _ h => h) (Or.inl ⟨by rfl, ?_⟩) (by assumption) ?_
                      rotate_left
                      · (intro w hSw; (try dsimp only at hSw); go_simp; try with_reducible rfl)
                      try simp only [Act.put, List.setIfInBounds_toArray, List.set_cons_zero, List.set_cons_succ]
                      refine wpAnyH_take (i := 24) (oi := ⟨some 113, _, _, _, _, _⟩) (v := ?_) rfl (by kernel_rfl) (by kernel_rfl) (by kernel_rfl) (fun _ _ _ h => h) (Or.inl ⟨by rfl, ?_⟩) (by assumption) ?_
                      rotate_left
                      · (intro w hSw; (try dsimp only at hSw); go_simp; try with_reducible rfl)
                      try simp only [Act.put, List.setIfInBounds_toArray, List.set_cons_zero, List.set_cons_succ]
                      refine wpAnyH_take (i := 25) (oi := ⟨some 114, _, _, _, _, _⟩) (v := ?_) rfl (by kernel_rfl) (by kernel_rfl) (by kernel_rfl) (fun _ _ _ h => h) (Or.inl ⟨by rfl, ?_⟩) (by assumption) ?_
                      rotate_left
                      · (intro w hSw; (try dsimp only at hSw); go_simp; try with_reducible rfl)
                      try simp only [Act.put, List.setIfInBounds_toArray, List.set_cons_zero, List.set_cons_succ]
                      refine wpAnyH_take (i := 26) (oi := ⟨some 115, _, _, _, _, _⟩) (v := ?_) rfl (by kernel_rfl) (by kernel_rfl) (by kernel_rfl) (fun _ _ _ h => h) (Or.inl ⟨by rfl, ?_⟩) (by assumption) ?_
                      rotate_left
                      · (intro w hSw; (try dsimp only at hSw); go_simp; try with_reducible rfl)
                      try simp only [Act.put, List.setIfInBounds_toArray, List.set_cons_zero, List.set_cons_succ]
                      refine next_one 27 (by kernel_rfl) rfl (by rfl) fun K' HK' => ?_
                      go_simp
                      refine (HSM.out _ (by (repeat (first | assumption | exact Ext.refl _ | apply Ext.drew | apply Ext.drewN | apply Ext.alloc | refine Ext.trans ?_ (by assumption))); first | done | fail)).mono ?_
                      rintro e w10 ⟨rfl, hx10⟩
                      have hR10 : Ext w9 w10 := (by (repeat (first | assumption | exact Ext.refl _ | apply Ext.drew | apply Ext.drewN | apply Ext.alloc | refine Ext.trans ?_ (by assumption))); first | done | fail)
                      have hS2 := Ext.trans hHeld hx10
                      refine held_go HK' hS2 (fun _ => ?_)
                      clear HK'
                      refine held_more (S' := fun w' => Ext w10 w') (fun _ h => Ext.trans hS2 h) _ _ _ _ ?_
                      clear hHeld hS2
                      have hHeld : Ext w10 w10 := Ext.refl _
                      try simp only [Act.put, List.setIfInBounds_toArray, List.set_cons_zero, List.set_cons_succ]
                      refine wpAnyH_take (i := 28) (oi := ⟨some 117, _, _, _, _, _⟩) (v := ?_) rfl (by kernel_rfl) (by kernel_rfl) (by kernel_rfl) (fun _ _ _ h => h) (Or.inl ⟨by rfl, ?_⟩) (by assumption) ?_
                      rotate_left
                      · (intro w hSw; (try dsimp only at hSw); go_simp; try with_reducible rfl)
                      try simp only [Act.put, List.setIfInBounds_toArray, List.set_cons_zero, List.set_cons_succ]
                      refine wpAnyH_take (i := 29) (oi := ⟨some 4, _, _, _, _, _⟩) (v := ?_) rfl (by kernel_rfl) (by kernel_rfl) (by kernel_rfl) (fun _ _ _ h => h) (Or.inl ⟨by rfl, ?_⟩) (by assumption) ?_
                      rotate_left
                      · (intro w hSw; (try dsimp only at hSw); go_simp; try with_reducible rfl)
                      try simp only [Act.put, List.setIfInBounds_toArray, List.set_cons_zero, List.set_cons_succ]
                      refine wpAnyH_done (by kernel_rfl) ?_ _
                      have X10 := Kp.mk (X9.out.trans hR10)
                      clear c1 hx10 hR10
                      go_wp2_with fail
                      go_ret
                      exact ⟨by first | rfl | simp, X10.out.b⟩
                    · exact absurd ⟨_, HM7.out, HE7.out⟩ hno
              · as_aux_lemma =>
                have HM7 := Kp.mk hno7
                have HX7 := Kp.mk x7
                clear hno7 x7
                have X57 := Kp.mk (X56.out.trans HX7.out)
                have X7 := Kp.mk (X5.out.trans X57.out)
                have S6 := (O6.out.ext HX7.out).bs.str (Ext.refl _)
                have SB := (HB.out.ext X7.out).str (Ext.refl _)
                go_wp2_with fail
                clear S6 SB
                go_loopw [17] (fun iv wq => ∃ (j : Nat) (l : List (BitVec 8)), j ≤ m ∧ iv = .int .i64 (j : Int) ∧ Own wq w5.heap.size (.slice A6 m c6) m l ∧ Mds (fpv (.slice A6 m c6)) w7 wq) (fun i _ => m - (intOf i).toNat)
                case atStart => exact ⟨0, b, Nat.zero_le _, rfl, O6.out.ext HX7.out, Mds.refl _ _⟩
                case round =>
                  obtain ⟨k, l, hk, rfl, hl, hmd⟩ := hrel
                  by_cases hlt : k < m
                  · as_aux_lemma =>
                    obtain ⟨gx, rfl, _, _⟩ := hl.some_ (by omega)
                    have k3 := hl.cell k hlt
                    have k4 := hl.free k
                    have HL8 := Kp.mk (hl.set k (gb l k + 1))
                    have HMd := Kp.mk (hmd.setCell (p := ⟨gx, k, none⟩) (mem_fpv.2 rfl) (.int .u8 (ub (gb l k + 1))))
                    have b0 : (k : Int) < (m : Int) := by omega
                    have b1 : (k : Int) < 9223372036854775807 := by omega
                    have e2 := ub_up9 (gb l k)
                    generalize gb l k = z1 at *
                    generalize ub (z1 + 1) = y1 at *
                    generalize ub z1 = z2 at *
                    clear hl hmd
                    go_wp2_with fail
                    go_roundw
                    case rel => exact ⟨k + 1, _, by omega, by go_num, HL8.out, HMd.out⟩
                    case measure => simp [intOf]; omega
                  · obtain rfl : k = m := by omega
                    obtain ⟨w8, rfl⟩ : ∃ w8 : World, w8 = wr := ⟨_, rfl⟩
                    as_aux_lemma =>
                    have X58 := Kp.mk (hmd.ext X57.out (fun k hk => O6.out.base k (mem_fpv.1 hk)))
                    have X8 := Kp.mk (X5.out.trans X58.out)
                    have b5 : ¬ (k : Int) < (k : Int) := by omega
                    clear hl hmd
                    go_wp2_with fail
                    refine (Read_any (HB.out.ext X8.out) (by omega) (tabs_ext HT.out X8.out)).mono ?_
                    rintro e w9 (⟨ps, A9, c9, F9, hm9, he9, _⟩ | ⟨_, rfl, x9⟩)
                    · exact absurd ⟨_, hm9, he9⟩ HM7.out
                    · skip
                      have X59 := Kp.mk (X58.out.trans x9)
                      have X9 := Kp.mk (X8.out.trans x9)
                      have HSM := Kp.mk (fun (W : World) (hW : Ext w9 W) => (Same_any (Nam.nil W) (Nam.nil W) FitN.nil))
                      rw [show sameN [] [] = true from sameN_yes rfl] at HSM
                      have c1 := fun (W : World) (hW : Ext w9 W) => (HS5.out.ext (X59.out.trans hW)).str (Ext.refl _)
                      clear x9
                      go_wp2_with fail
                      refine wp_region_held_drew (S := fun w' => Ext w9 w') (by kernel_rfl) (Ext.refl w9).drew (fun hHeld => ?_)
                      refine wpAnyH_take (i := 0) (oi := ⟨some 89, _, _, _, _, _⟩) (v := ?_) rfl (by kernel_rfl) (by kernel_rfl) (by kernel_rfl) (fun _ _ _ h => h) (Or.inl ⟨by rfl, ?_⟩) (by assumption) ?_
                      rotate_left
                      · (intro w hSw; (try dsimp only at hSw); go_simp; try with_reducible rfl)
                      try simp only [Act.put, List.setIfInBounds_toArray, List.set_cons_zero, List.set_cons_succ]
                      refine wpAnyH_take (i := 1) (oi := ⟨some 90, _, _, _, _, _⟩) (v := ?_) rfl (by kernel_rfl) (by kernel_rfl) (by kernel_rfl) (fun _ _ _ h => h) (Or.inl ⟨by rfl, ?_⟩) (by assumption) ?_
                      rotate_left
                      · (intro w hSw; (try dsimp only at hSw); go_simp; try with_reducible rfl)
                      try simp only [Act.put, List.setIfInBounds_toArray, List.set_cons_zero, List.set_cons_succ]
                      refine wpAnyH_take (i := 2) (oi := ⟨some 91, _, _, _, _, _⟩) (v := ?_) rfl (by kernel_rfl) (by kernel_rfl) (by kernel_rfl) (fun _ _ _ h => h) (Or.inl ⟨by rfl, ?_⟩) (by assumption) ?_
                      rotate_left
                      · (intro w hSw; (try dsimp only at hSw); go_simp; try with_reducible rfl)
                      try simp only [Act.put, List.setIfInBounds_toArray, List.set_cons_zero, List.set_cons_succ]
                      refine wpAnyH_take (i := 3) (oi := ⟨some 92, _, _, _, _, _⟩) (v := ?_) rfl (by kernel_rfl) (by kernel_rfl) (by kernel_rfl) (fun _ _ _ h => h) (Or.inl ⟨by rfl, ?_⟩) (by assumption) ?_
                      rotate_left
                      · (intro w hSw; (try dsimp only at hSw); go_simp; try with_reducible rfl)
                      try simp only [Act.put, List.setIfInBounds_toArray, List.set_cons_zero, List.set_cons_succ]
                      refine wpAnyH_take (i := 4) (oi := ⟨some 93, _, _, _, _, _⟩) (v := ?_) rfl (by kernel_rfl) (by kernel_rfl) (by kernel_rfl) (fun _ _ _ h => h) (Or.inl ⟨by rfl, ?_⟩) (by assumption) ?_
                      rotate_left
                      · (intro w hSw; (try dsimp only at hSw); go_simp; try with_reducible rfl)
                      try simp only [Act.put, List.setIfInBounds_toArray, List.set_cons_zero, List.set_cons_succ]
                      refine wpAnyH_take (i := 5) (oi := ⟨some 94, _, _, _, _, _⟩) (v := ?_) rfl (by kernel_rfl) (by kernel_rfl) (by kernel_rfl) (fun _ _ _ h => h) (Or.inl ⟨by rfl, ?_⟩) (by assumption) ?_
                      rotate_left
                      · (intro w hSw; (try dsimp only at hSw); go_simp; try with_reducible rfl)
                      try simp only [Act.put, List.setIfInBounds_toArray, List.set_cons_zero, List.set_cons_succ]
                      refine wpAnyH_take (i := 6) (oi := ⟨some 95, _, _, _, _, _⟩) (v := ?_) rfl (by kernel_rfl) (by kernel_rfl) (by kernel_rfl) (fun _ _ _ h => h) (Or.inl ⟨by rfl, ?_⟩) (by assumption) ?_
                      rotate_left
                      · (intro w hSw; (try dsimp only at hSw); go_simp; try with_reducible rfl)
                      try simp only [Act.put, List.setIfInBounds_toArray, List.set_cons_zero, List.set_cons_succ]
                      refine wpAnyH_take (i := 7) (oi := ⟨some 96, _, _, _, _, _⟩) (v := ?_) rfl (by kernel_rfl) (by kernel_rfl) (by kernel_rfl) (fun _ _ _ h => h) (Or.inl ⟨by rfl, ?_⟩) (by assumption) ?_
                      rotate_left
                      · (intro w hSw; (try dsimp only at hSw); go_simp; try with_reducible rfl)
                      try simp only [Act.put, List.setIfInBounds_toArray, List.set_cons_zero, List.set_cons_succ]
                      refine wpAnyH_take (i := 8) (oi := ⟨some 97, _, _, _, _, _⟩) (v := ?_) rfl (by kernel_rfl) (by kernel_rfl) (by kernel_rfl) (fun _ _ _ h => h) (Or.inl ⟨by rfl, ?_⟩) (by assumption) ?_
                      rotate_left
                      · (intro w hSw; (try dsimp only at hSw); go_simp; try with_reducible rfl)
                      try simp only [Act.put, List.setIfInBounds_toArray, List.set_cons_zero, List.set_cons_succ]
                      refine wpAnyH_take (i := 9) (oi := ⟨some 98, _, _, _, _, _⟩) (v := ?_) rfl (by kernel_rfl) (by kernel_rfl) (by kernel_rfl) (fun _ _ _ h => h) (Or.inl ⟨by rfl, ?_⟩) (by assumption) ?_
                      rotate_left
                      · (intro w hSw; (try dsimp only at hSw); go_simp; try with_reducible rfl)
                      try simp only [Act.put, List.setIfInBounds_toArray, List.set_cons_zero, List.set_cons_succ]
                      refine wpAnyH_take (i := 10) (oi := ⟨some 99, _, _, _, _, _⟩) (v := ?_) rfl (by kernel_rfl) (by kernel_rfl) (by kernel_rfl) (fun _ _ _ h => h) (Or.inl ⟨by rfl, ?_⟩) (by assumption) ?_
                      rotate_left
                      · (intro w hSw; (try dsimp only at hSw); go_simp; try with_reducible rfl)
                      try simp only [Act.put, List.setIfInBounds_toArray, List.set_cons_zero, List.set_cons_succ]
                      refine wpAnyH_take (i := 11) (oi := ⟨some 100, _, _, _, _, _⟩) (v := ?_) rfl (by kernel_rfl) (by kernel_rfl) (by kernel_rfl) (fun _ _ _ h => h) (Or.inl ⟨by rfl, ?_⟩) (by assumption) ?_
                      rotate_left
                      · (intro w hSw; (try dsimp only at hSw); go_simp; try with_reducible rfl)
                      try simp only [Act.put, List.setIfInBounds_toArray, List.set_cons_zero, List.set_cons_succ]
                      refine wpAnyH_take (i := 12) (oi := ⟨some 101, _, _, _, _, _⟩) (v := ?_) rfl (by kernel_rfl) (by kernel_rfl) (by kernel_rfl) (fun _ _ _ h => h) (Or.inl ⟨by rfl, ?_⟩) (by assumption) ?_
                      rotate_left
                      · (intro w hSw; (try dsimp only at hSw); go_simp; try with_reducible rfl)
                      try simp only [Act.put, List.setIfInBounds_toArray, List.set_cons_zero, List.set_cons_succ]
                      refine wpAnyH_take (i := 13) (oi := ⟨some 102, _, _, _, _, _⟩) (v := ?_) rfl (by kernel_rfl) (by kernel_rfl) (by kernel_rfl) (fun _ _ _ h => h) (Or.inl ⟨by rfl, ?_⟩) (by assumption) ?_
                      rotate_left
                      · (intro w hSw; (try dsimp only at hSw); go_simp; try with_reducible rfl)
                      try simp only [Act.put, List.setIfInBounds_toArray, List.set_cons_zero, List.set_cons_succ]
                      refine wpAnyH_take (i := 14) (oi := ⟨some 103, _, _, _, _, _⟩) (v := ?_) rfl (by kernel_rfl) (by kernel_rfl) (by kernel_rfl) (fun _ _ _ h => h) (Or.inl ⟨by rfl, ?_⟩) (by assumption) ?_
                      rotate_left
                      · (intro w hSw; (try dsimp only at hSw); go_simp; try with_reducible rfl)
                      try simp only [Act.put, List.setIfInBounds_toArray, List.set_cons_zero, List.set_cons_succ]
                      refine wpAnyH_take (i := 15) (oi := ⟨some 104, _, _, _, _, _⟩) (v := ?_) rfl (by kernel_rfl) (by kernel_rfl) (by kernel_rfl) (fun _ _ _ h => h) (Or.inl ⟨by rfl, ?_⟩) (by assumption) ?_
                      rotate_left
                      · (intro w hSw; (try dsimp only at hSw); go_simp; try with_reducible rfl)
                      try simp only [Act.put, List.setIfInBounds_toArray, List.set_cons_zero, List.set_cons_succ]
                      refine wpAnyH_take (i := 16) (oi := ⟨some 105, _, _, _, _, _⟩) (v := ?_) rfl (by kernel_rfl) (by kernel_rfl) (by kernel_rfl) (fun _ _ _ h => h) (Or.inl ⟨by rfl, ?_⟩) (by assumption) ?_
                      rotate_left
                      · (intro w hSw; (try dsimp only at hSw); go_simp; try with_reducible rfl)
                      try simp only [Act.put, List.setIfInBounds_toArray, List.set_cons_zero, List.set_cons_succ]
                      refine wpAnyH_take (i := 17) (oi := ⟨some 106, _, _, _, _, _⟩) (v := ?_) rfl (by kernel_rfl) (by kernel_rfl) (by kernel_rfl) (fun _ _ _ h => h) (Or.inl ⟨by rfl, ?_⟩) (by assumption) ?_
                      rotate_left
                      · (intro w hSw; (try dsimp only at hSw); go_simp; try with_reducible rfl)
                      try simp only [Act.put, List.setIfInBounds_toArray, List.set_cons_zero, List.set_cons_succ]
                      refine wpAnyH_take (i := 18) (oi := ⟨some 107, _, _, _, _, _⟩) (v := ?_) rfl (by kernel_rfl) (by kernel_rfl) (by kernel_rfl) (fun _ _ _ h => h) (Or.inl ⟨by rfl, ?_⟩) (by assumption) ?_
                      rotate_left
                      · (intro w hSw; (try dsimp only at hSw); go_simp; try with_reducible rfl)
                      try simp only [Act.put, List.setIfInBounds_toArray, List.set_cons_zero, List.set_cons_succ]
                      refine wpAnyH_take (i := 19) (oi := ⟨some 108, _, _, _, _, _⟩) (v := ?_) rfl (by kernel_rfl) (by kernel_rfl) (by kernel_rfl) (fun _ _ _ h => h) (Or.inl ⟨by rfl, ?_⟩) (by assumption) ?_
                      rotate_left
                      · (intro w hSw; (try dsimp only at hSw); go_simp; try with_reducible rfl)
                      try simp only [Act.put, List.setIfInBounds_toArray, List.set_cons_zero, List.set_cons_succ]
                      refine wpAnyH_take (i := 20) (oi := ⟨some 109, _, _, _, _, _⟩) (v := ?_) rfl (by kernel_rfl) (by kernel_rfl) (by kernel_rfl) (fun _ _ _ h => h) (Or.inl ⟨by rfl, ?_⟩) (by assumption) ?_
                      rotate_left
                      · (intro w hSw; (try dsimp only at hSw); go_simp; try with_reducible rfl)
                      try simp only [Act.put, List.setIfInBounds_toArray, List.set_cons_zero, List.set_cons_succ]
                      refine wpAnyH_take (i := 21) (oi := ⟨some 110, _, _, _, _, _⟩) (v := ?_) rfl (by kernel_rfl) (by kernel_rfl) (by kernel_rfl) (fun _ _ _ h => h) (Or.inl ⟨by rfl, ?_⟩) (by assumption) ?_
                      rotate_left
                      · (intro w hSw; (try dsimp only at hSw); go_simp; try with_reducible rfl)
                      try simp only [Act.put, List.setIfInBounds_toArray, List.set_cons_zero, List.set_cons_succ]
                      refine wpAnyH_take (i := 22) (oi := ⟨some 111, _, _, _, _, _⟩) (v := ?_) rfl (by kernel_rfl) (by kernel_rfl) (by kernel_rfl) (fun _ _ _ h => h) (Or.inl ⟨by rfl, ?_⟩) (by assumption) ?_
                      rotate_left
                      · (intro w hSw; (try dsimp only at hSw); go_simp; try with_reducible rfl)
                      try simp only [Act.put, List.setIfInBounds_toArray, List.set_cons_zero, List.set_cons_succ]
                      refine wpAnyH_take (i := 23) (oi := ⟨some 112, _, _, _, _, _⟩) (v := ?_) rfl (by kernel_rfl) (by kernel_rfl) (by kernel_rfl) (fun _ _ _ h => h) (Or.inl ⟨by rfl, ?_⟩) (by assumption) ?_
                      rotate_left
                      · (intro w hSw; (try dsimp only at hSw); go_simp; try with_reducible rfl)
                      try simp only [Act.put, List.setIfInBounds_toArray, List.set_cons_zero, List.set_cons_succ]
                      refine wpAnyH_take (i := 24) (oi := ⟨some 113, _, _, _, _, _⟩) (v := ?_) rfl (by kernel_rfl) (by kernel_rfl) (by kernel_rfl) (fun _ _ _ h => h) (Or.inl ⟨by rfl, ?_⟩) (by assumption) ?_
                      rotate_left
                      · (intro w hSw; (try dsimp only at hSw); go_simp; try with_reducible rfl)
                      try simp only [Act.put, List.setIfInBounds_toArray, List.set_cons_zero, List.set_cons_succ]
                      refine wpAnyH_take (i := 25) (oi := ⟨some 114, _, _, _, _, _⟩) (v := ?_) rfl (by kernel_rfl) (by kernel_rfl) (by kernel_rfl) (fun _ _ _ h => h) (Or.inl ⟨by rfl, ?_⟩) (by assumption) ?_
                      rotate_left
                      · (intro w hSw; (try dsimp only at hSw); go_simp; try with_reducible rfl)
                      try simp only [Act.put, List.setIfInBounds_toArray, List.set_cons_zero, List.set_cons_succ]
                      refine wpAnyH_take (i := 26) (oi := ⟨some 115, _, _, _, _, _⟩) (v := ?_) rfl (by kernel_rfl) (by kernel_rfl) (by kernel_rfl) (fun _ _ _ h => h) (Or.inl ⟨by rfl, ?_⟩) (by assumption) ?_
                      rotate_left
                      · (intro w hSw; (try dsimp only at hSw); go_simp; try with_reducible rfl)
                      try simp only [Act.put, List.setIfInBounds_toArray, List.set_cons_zero, List.set_cons_succ]
                      refine next_one 27 (by kernel_rfl) rfl (by rfl) fun K' HK' => ?_
                      go_simp
                      refine (HSM.out _ (by (repeat (first | assumption | exact Ext.refl _ | apply Ext.drew | apply Ext.drewN | apply Ext.alloc | refine Ext.trans ?_ (by assumption))); first | done | fail)).mono ?_
                      rintro e w10 ⟨rfl, hx10⟩
                      have hR10 : Ext w9 w10 := (by (repeat (first | assumption | exact Ext.refl _ | apply Ext.drew | apply Ext.drewN | apply Ext.alloc | refine Ext.trans ?_ (by assumption))); first | done | fail)
                      have hS2 := Ext.trans hHeld hx10
                      refine held_go HK' hS2 (fun _ => ?_)
                      clear HK'
                      refine held_more (S' := fun w' => Ext w10 w') (fun _ h => Ext.trans hS2 h) _ _ _ _ ?_
                      clear hHeld hS2
                      have hHeld : Ext w10 w10 := Ext.refl _
                      try simp only [Act.put, List.setIfInBounds_toArray, List.set_cons_zero, List.set_cons_succ]
                      refine wpAnyH_take (i := 28) (oi := ⟨some 117, _, _, _, _, _⟩) (v := ?_) rfl (by kernel_rfl) (by kernel_rfl) (by kernel_rfl) (fun _ _ _ h => h) (Or.inl ⟨by rfl, ?_⟩) (by assumption) ?_
                      rotate_left
                      · (intro w hSw; (try dsimp only at hSw); go_simp; try with_reducible rfl)
                      try simp only [Act.put, List.setIfInBounds_toArray, List.set_cons_zero, List.set_cons_succ]
                      refine wpAnyH_take (i := 29) (oi := ⟨some 4, _, _, _, _, _⟩) (v := ?_) rfl (by kernel_rfl) (by kernel_rfl) (by kernel_rfl) (fun _ _ _ h => h) (Or.inl ⟨by rfl, ?_⟩) (by assumption) ?_
                      rotate_left
                      · (intro w hSw; (try dsimp only at hSw); go_simp; try with_reducible rfl)
                      try simp only [Act.put, List.setIfInBounds_toArray, List.set_cons_zero, List.set_cons_succ]
                      refine wpAnyH_done (by kernel_rfl) ?_ _
                      have X10 := Kp.mk (X9.out.trans hR10)
                      clear c1 hx10 hR10
                      go_wp2_with fail
                      go_ret
                      exact ⟨by first | rfl | simp, X10.out.b⟩
            · exact absurd HM.out hno
      · as_aux_lemma =>
        have HM := Kp.mk hM
        have X31 := Kp.mk x3
        have X3 := Kp.mk (X1.out.trans x3)
        obtain ⟨A3, P, c3, L, hv, hL, ho3, hP⟩ : ∃ A3 P c3 L, Value.slice none 0 0 = .slice A3 P c3 ∧ L = ([] : List (BitVec 8)) ∧ Own w3 w1.heap.size (.slice A3 P c3) P L ∧ P ≤ 65539 := ⟨none, 0, 0, [], rfl, rfl, Own.nil _ _, by omega⟩
        rw [hv]
        have HV := Kp.mk hv
        have O3 := Kp.mk ho3
        have HLL := Kp.mk hL
        clear hM x3 hv hL ho3
        have S3 := O3.out.bs.str (Ext.refl _)
        go_wp2_with fail
        clear S3
        go_loopw [10] (fun iv wq => ∃ (j : Nat) (l : List (BitVec 8)), j ≤ P ∧ iv = .int .i64 (j : Int) ∧ Own wq w1.heap.size (.slice A3 P c3) P l ∧ Mds (fpv (.slice A3 P c3)) w3 wq) (fun i _ => P - (intOf i).toNat)
        case atStart => exact ⟨0, L, Nat.zero_le _, rfl, O3.out, Mds.refl _ _⟩
        case round =>
          obtain ⟨j, l, hj, rfl, hl, hmd⟩ := hrel
          by_cases hlt : j < P
          · as_aux_lemma =>
            obtain ⟨gx, rfl, _, _⟩ := hl.some_ (by omega)
            have k3 := hl.cell j hlt
            have k4 := hl.free j
            have HL8 := Kp.mk (hl.set j (gb l j + 1))
            have HMd := Kp.mk (hmd.setCell (p := ⟨gx, j, none⟩) (mem_fpv.2 rfl) (.int .u8 (ub (gb l j + 1))))
            have b0 : (j : Int) < (P : Int) := by omega
            have b1 : (j : Int) < 9223372036854775807 := by omega
            have e2 := ub_up9 (gb l j)
            generalize gb l j = z1 at *
            generalize ub (z1 + 1) = y1 at *
            generalize ub z1 = z2 at *
            clear hl hmd
            go_wp2_with fail
            go_roundw
            case rel => exact ⟨j + 1, _, by omega, by go_num, HL8.out, HMd.out⟩
            case measure => simp [intOf]; omega
          · obtain rfl : j = P := by omega
            obtain ⟨w4, rfl⟩ : ∃ w4 : World, w4 = wr := ⟨_, rfl⟩
            as_aux_lemma =>
            have X14 := Kp.mk (hmd.ext (X31.out) (fun k hk => O3.out.base k (mem_fpv.1 hk)))
            have X4 := Kp.mk (X1.out.trans X14.out)
            have b0 : ¬ (j : Int) < (j : Int) := by omega
            clear hl hmd
            go_wp2_with fail
            refine (Write_any (H.out.ext X4.out) (tabs_ext HT.out X4.out)).mono ?_
            rintro e w5 (⟨hno, _⟩ | ⟨_, rfl, x5⟩)
            · exact absurd hno HM.out
            · have X5 := Kp.mk (X4.out.trans x5)
              obtain ⟨A5, Q5, c5, hv5, hs5⟩ : ∃ A5 Q5 c5, Value.slice none 0 0 = .slice A5 Q5 c5 ∧ Bs w5 A5 Q5 c5 L := ⟨none, 0, 0, rfl, by rw [HLL.out]; exact (Own.nil w5 0).bs⟩
              rw [hv5]
              have HS5 := Kp.mk hs5
              clear hs5 hv5 x5
              go_wp2_with (first | (at_builtin; refine wpList_append_bs rfl (.tmp 57) (.tmp 58) rfl w5.heap.size _ 0 [] rfl (Own.new w5 w5.heap.size 0 [] rfl (Nat.le_refl _) (by decide)) B m d b rfl (HB.out.ext (X5.out.trans (by (repeat (first | assumption | exact Ext.refl _ | apply Ext.drew | apply Ext.drewN | apply Ext.alloc | refine Ext.trans ?_ (by assumption))); first | done | fail))) (by omega) m (by omega) _ rfl w5 (by (repeat (first | assumption | exact Ext.refl _ | apply Ext.drew | apply Ext.drewN | apply Ext.alloc | refine Ext.trans ?_ (by assumption))); first | done | fail) (Nat.le_refl _) ((by (repeat (first | assumption | exact Ext.refl _ | apply Ext.drew | apply Ext.drewN | apply Ext.alloc | refine Ext.trans ?_ (by assumption))); first | done | fail) : Ext w5 _).size ?_; intro A6 c6 w6 ho6 hx6 _; have O6 := Kp.mk ho6; have X56 := Kp.mk hx6; have X6 := Kp.mk (X5.out.trans hx6); have HR := Kp.mk (Read_any ho6.bs (by omega) (tabs_ext HT.out (X5.out.trans hx6))); clear ho6 hx6) | fail)
              refine HR.out.mono ?_
              rintro e w7 (⟨qs, A7, c7, F7, hm7, he7, rfl, ho7, hl7, x7⟩ | ⟨hno7, rfl, x7⟩)
              · as_aux_lemma =>
                have HM7 := Kp.mk hm7
                have HE7 := Kp.mk he7
                obtain ⟨n7, hn7⟩ : ∃ n7, qs.length = n7 := ⟨_, rfl⟩
                rw [hn7] at ho7 hl7 ⊢
                have O7 := Kp.mk ho7
                have L7 := Kp.mk hl7
                have N7 := Kp.mk hn7
                have HX7 := Kp.mk x7
                clear hm7 he7 ho7 hl7 hn7 x7
                have X57 := Kp.mk (X56.out.trans HX7.out)
                have X7 := Kp.mk (X5.out.trans X57.out)
                have S6 := (O6.out.ext HX7.out).bs.str (Ext.refl _)
                have SB := (HB.out.ext X7.out).str (Ext.refl _)
                go_wp2_with fail
                clear S6 SB
                go_loopw [17] (fun iv wq => ∃ (j : Nat) (l : List (BitVec 8)), j ≤ m ∧ iv = .int .i64 (j : Int) ∧ Own wq w5.heap.size (.slice A6 m c6) m l ∧ Mds (fpv (.slice A6 m c6)) w7 wq) (fun i _ => m - (intOf i).toNat)
                case atStart => exact ⟨0, b, Nat.zero_le _, rfl, O6.out.ext HX7.out, Mds.refl _ _⟩
                case round =>
                  obtain ⟨k, l, hk, rfl, hl, hmd⟩ := hrel
                  by_cases hlt : k < m
                  · as_aux_lemma =>
                    obtain ⟨gx, rfl, _, _⟩ := hl.some_ (by omega)
                    have k3 := hl.cell k hlt
                    have k4 := hl.free k
                    have HL8 := Kp.mk (hl.set k (gb l k + 1))
                    have HMd := Kp.mk (hmd.setCell (p := ⟨gx, k, none⟩) (mem_fpv.2 rfl) (.int .u8 (ub (gb l k + 1))))
                    have b0 : (k : Int) < (m : Int) := by omega
                    have b1 : (k : Int) < 9223372036854775807 := by omega
                    have e2 := ub_up9 (gb l k)
                    generalize gb l k = z1 at *
                    generalize ub (z1 + 1) = y1 at *
                    generalize ub z1 = z2 at *
                    clear hl hmd
                    go_wp2_with fail
                    go_roundw
                    case rel => exact ⟨k + 1, _, by omega, by go_num, HL8.out, HMd.out⟩
                    case measure => simp [intOf]; omega
                  · obtain rfl : k = m := by omega
                    obtain ⟨w8, rfl⟩ : ∃ w8 : World, w8 = wr := ⟨_, rfl⟩
                    as_aux_lemma =>
                    have X58 := Kp.mk (hmd.ext X57.out (fun k hk => O6.out.base k (mem_fpv.1 hk)))
                    have X8 := Kp.mk (X5.out.trans X58.out)
                    have b5 : ¬ (k : Int) < (k : Int) := by omega
                    have O8 := Kp.mk (O7.out.mds hmd fun k hk hk2 => by
                      have h1 := L7.out k hk
                      have h2 := O6.out.lt k (mem_fpv.1 hk2)
                      omega)
                    clear hl hmd
                    go_wp2_with fail
                    refine (Read_any (HB.out.ext X8.out) (by omega) (tabs_ext HT.out X8.out)).mono ?_
                    rintro e w9 (⟨ps, A9, c9, F9, hm9, he9, rfl, ho9, _, x9⟩ | ⟨hno, _⟩)
                    · have hq : qs.map Prod.snd = ps.map Prod.snd := namW_inj HM7.out.w hm9.w (HE7.out.trans he9.symm)
                      have X59 := Kp.mk (X58.out.trans x9)
                      have X9 := Kp.mk (X8.out.trans x9)
                      have HSM := Kp.mk (fun (W : World) (hW : Ext w9 W) => (Same_any ((O8.out.nam N7.out).ext (x9.trans hW)) ((ho9.nam rfl).ext hW) (by rw [hq]; exact hm9.fit)))
                      rw [show sameN (qs.map Prod.snd) (ps.map Prod.snd) = true from sameN_yes hq] at HSM
                      have c1 := fun (W : World) (hW : Ext w9 W) => (HS5.out.ext (X59.out.trans hW)).str (Ext.refl _)
                      clear x9 hm9 he9 ho9 hq
                      go_wp2_with fail
                      refine wp_region_held_drew (S := fun w' => Ext w9 w') (by kernel_rfl) (Ext.refl w9).drew (fun hHeld => ?_)
                      refine wpAnyH_take (i := 0) (oi := ⟨some 89, _, _, _, _, _⟩) (v := ?_) rfl (by kernel_rfl) (by kernel_rfl) (by kernel_rfl) (fun _ _ _ h => h) (Or.inl ⟨by rfl, ?_⟩) (by assumption) ?_
                      rotate_left
                      · (intro w hSw; (try dsimp only at hSw); go_simp; try with_reducible rfl)
                      try simp only [Act.put, List.setIfInBounds_toArray, List.set_cons_zero, List.set_cons_succ]
                      refine wpAnyH_take (i := 1) (oi := ⟨some 90, _, _, _, _, _⟩) (v := ?_) rfl (by kernel_rfl) (by kernel_rfl) (by kernel_rfl) (fun _ _ _ h => h) (Or.inl ⟨by rfl, ?_⟩) (by assumption) ?_
                      rotate_left
                      · (intro w hSw; (try dsimp only at hSw); go_simp; try with_reducible rfl)
                      try simp only [Act.put, List.setIfInBounds_toArray, List.set_cons_zero, List.set_cons_succ]
                      refine wpAnyH_take (i := 2) (oi := ⟨some 91, _, _, _, _, _⟩) (v := ?_) rfl (by kernel_rfl) (by kernel_rfl) (by kernel_rfl) (fun _ _ _ h => h) (Or.inl ⟨by rfl, ?_⟩) (by assumption) ?_
                      rotate_left
                      · (intro w hSw; (try dsimp only at hSw); go_simp; try with_reducible rfl)
                      try simp only [Act.put, List.setIfInBounds_toArray, List.set_cons_zero, List.set_cons_succ]
                      refine wpAnyH_take (i := 3) (oi := ⟨some 92, _, _, _, _, _⟩) (v := ?_) rfl (by kernel_rfl) (by kernel_rfl) (by kernel_rfl) (fun _ _ _ h => h) (Or.inl ⟨by rfl, ?_⟩) (by assumption) ?_
                      rotate_left
                      · (intro w hSw; (try dsimp only at hSw); go_simp; try with_reducible rfl)
                      try simp only [Act.put, List.setIfInBounds_toArray, List.set_cons_zero, List.set_cons_succ]
                      refine wpAnyH_take (i := 4) (oi := ⟨some 93, _, _, _, _, _⟩) (v := ?_) rfl (by kernel_rfl) (by kernel_rfl) (by kernel_rfl) (fun _ _ _ h => h) (Or.inl ⟨by rfl, ?_⟩) (by assumption) ?_
                      rotate_left
                      · (intro w hSw; (try dsimp only at hSw); go_simp; try with_reducible rfl)
                      try simp only [Act.put, List.setIfInBounds_toArray, List.set_cons_zero, List.set_cons_succ]
                      refine wpAnyH_take (i := 5) (oi := ⟨some 94, _, _, _, _, _⟩) (v := ?_) rfl (by kernel_rfl) (by kernel_rfl) (by kernel_rfl) (fun _ _ _ h => h) (Or.inl ⟨by rfl, ?_⟩) (by assumption) ?_
                      rotate_left
                      · (intro w hSw; (try dsimp only at hSw); go_simp; try with_reducible rfl)
                      try simp only [Act.put, List.setIfInBounds_toArray, List.set_cons_zero, List.set_cons_succ]
                      refine wpAnyH_take (i := 6) (oi := ⟨some 95, _, _, _, _, _⟩) (v := ?_) rfl (by kernel_rfl) (by kernel_rfl) (by kernel_rfl) (fun _ _ _ h => h) (Or.inl ⟨by rfl, ?_⟩) (by assumption) ?_
                      rotate_left
                      · (intro w hSw; (try dsimp only at hSw); go_simp; try with_reducible rfl)
                      try simp only [Act.put, List.setIfInBounds_toArray, List.set_cons_zero, List.set_cons_succ]
                      refine wpAnyH_take (i := 7) (oi := ⟨some 96, _, _, _, _, _⟩) (v := ?_) rfl (by kernel_rfl) (by kernel_rfl) (by kernel_rfl) (fun _ _ _ h => h) (Or.inl ⟨by rfl, ?_⟩) (by assumption) ?_
                      rotate_left
                      · (intro w hSw; (try dsimp only at hSw); go_simp; try with_reducible rfl)
                      try simp only [Act.put, List.setIfInBounds_toArray, List.set_cons_zero, List.set_cons_succ]
                      refine wpAnyH_take (i := 8) (oi := ⟨some 97, _, _, _, _, _⟩) (v := ?_) rfl (by kernel_rfl) (by kernel_rfl) (by kernel_rfl) (fun _ _ _ h => h) (Or.inl ⟨by rfl, ?_⟩) (by assumption) ?_
                      rotate_left
                      · (intro w hSw; (try dsimp only at hSw); go_simp; try with_reducible rfl)
                      try simp only [Act.put, List.setIfInBounds_toArray, List.set_cons_zero, List.set_cons_succ]
                      refine wpAnyH_take (i := 9) (oi := ⟨some 98, _, _, _, _, _⟩) (v := ?_) rfl (by kernel_rfl) (by kernel_rfl) (by kernel_rfl) (fun _ _ _ h => h) (Or.inl ⟨by rfl, ?_⟩) (by assumption) ?_
                      rotate_left
                      · (intro w hSw; (try dsimp only at hSw); go_simp; try with_reducible rfl)
                      try simp only [Act.put, List.setIfInBounds_toArray, List.set_cons_zero, List.set_cons_succ]
                      refine wpAnyH_take (i := 10) (oi := ⟨some 99, _, _, _, _, _⟩) (v := ?_) rfl (by kernel_rfl) (by kernel_rfl) (by kernel_rfl) (fun _ _ _ h => h) (Or.inl ⟨by rfl, ?_⟩) (by assumption) ?_
                      rotate_left
                      · (intro w hSw; (try dsimp only at hSw); go_simp; try with_reducible rfl)
                      try simp only [Act.put, List.setIfInBounds_toArray, List.set_cons_zero, List.set_cons_succ]
                      refine wpAnyH_take (i := 11) (oi := ⟨some 100, _, _, _, _, _⟩) (v := ?_) rfl (by kernel_rfl) (by kernel_rfl) (by kernel_rfl) (fun _ _ _ h => h) (Or.inl ⟨by rfl, ?_⟩) (by assumption) ?_
                      rotate_left
                      · (intro w hSw; (try dsimp only at hSw); go_simp; try with_reducible rfl)
                      try simp only [Act.put, List.setIfInBounds_toArray, List.set_cons_zero, List.set_cons_succ]
                      refine wpAnyH_take (i := 12) (oi := ⟨some 101, _, _, _, _, _⟩) (v := ?_) rfl (by kernel_rfl) (by kernel_rfl) (by kernel_rfl) (fun _ _ _ h => h) (Or.inl ⟨by rfl, ?_⟩) (by assumption) ?_
                      rotate_left
                      · (intro w hSw; (try dsimp only at hSw); go_simp; try with_reducible rfl)
                      try simp only [Act.put, List.setIfInBounds_toArray, List.set_cons_zero, List.set_cons_succ]
                      refine wpAnyH_take (i := 13) (oi := ⟨some 102, _, _, _, _, _⟩) (v := ?_) rfl (by kernel_rfl) (by kernel_rfl) (by kernel_rfl) (fun _ _ _ h => h) (Or.inl ⟨by rfl, ?_⟩) (by assumption) ?_
                      rotate_left
                      · (intro w hSw; (try dsimp only at hSw); go_simp; try with_reducible rfl)
                      try simp only [Act.put, List.setIfInBounds_toArray, List.set_cons_zero, List.set_cons_succ]
                      refine wpAnyH_take (i := 14) (oi := ⟨some 103, _, _, _, _, _⟩) (v := ?_) rfl (by kernel_rfl) (by kernel_rfl) (by kernel_rfl) (fun _ _ _ h => h) (Or.inl ⟨by rfl, ?_⟩) (by assumption) ?_
                      rotate_left
                      · (intro w hSw; (try dsimp only at hSw); go_simp; try with_reducible rfl)
                      try simp only [Act.put, List.setIfInBounds_toArray, List.set_cons_zero, List.set_cons_succ]
                      refine wpAnyH_take (i := 15) (oi := ⟨some 104, _, _, _, _, _⟩) (v := ?_) rfl (by kernel_rfl) (by kernel_rfl) (by kernel_rfl) (fun _ _ _ h => h) (Or.inl ⟨by rfl, ?_⟩) (by assumption) ?_
                      rotate_left
                      · (intro w hSw; (try dsimp only at hSw); go_simp; try with_reducible rfl)
                      try simp only [Act.put, List.setIfInBounds_toArray, List.set_cons_zero, List.set_cons_succ]
                      refine wpAnyH_take (i := 16) (oi := ⟨some 105, _, _, _, _, _⟩) (v := ?_) rfl (by kernel_rfl) (by kernel_rfl) (by kernel_rfl) (fun _ _ _ h => h) (Or.inl ⟨by rfl, ?_⟩) (by assumption) ?_
                      rotate_left
                      · (intro w hSw; (try dsimp only at hSw); go_simp; try with_reducible rfl)
                      try simp only [Act.put, List.setIfInBounds_toArray, List.set_cons_zero, List.set_cons_succ]
                      refine wpAnyH_take (i := 17) (oi := ⟨some 106, _, _, _, _, _⟩) (v := ?_) rfl (by kernel_rfl) (by kernel_rfl) (by kernel_rfl) (fun _ _ _ h => h) (Or.inl ⟨by rfl, ?_⟩) (by assumption) ?_
                      rotate_left
                      · (intro w hSw; (try dsimp only at hSw); go_simp; try with_reducible rfl)
                      try simp only [Act.put, List.setIfInBounds_toArray, List.set_cons_zero, List.set_cons_succ]
                      refine wpAnyH_take (i := 18) (oi := ⟨some 107, _, _, _, _, _⟩) (v := ?_) rfl (by kernel_rfl) (by kernel_rfl) (by kernel_rfl) (fun _ _ _ h => h) (Or.inl ⟨by rfl, ?_⟩) (by assumption) ?_
                      rotate_left
                      · (intro w hSw; (try dsimp only at hSw); go_simp; try with_reducible rfl)
                      try simp only [Act.put, List.setIfInBounds_toArray, List.set_cons_zero, List.set_cons_succ]
                      refine wpAnyH_take (i := 19) (oi := ⟨some 108, _, _, _, _, _⟩) (v := ?_) rfl (by kernel_rfl) (by kernel_rfl) (by kernel_rfl) (fun _ _ _ h => h) (Or.inl ⟨by rfl, ?_⟩) (by assumption) ?_
                      rotate_left
                      · (intro w hSw; (try dsimp only at hSw); go_simp; try with_reducible rfl)
                      try simp only [Act.put, List.setIfInBounds_toArray, List.set_cons_zero, List.set_cons_succ]
                      refine wpAnyH_take (i := 20) (oi := ⟨some 109, _, _, _, _, _⟩) (v := ?_) rfl (by kernel_rfl) (by kernel_rfl) (by kernel_rfl) (fun _ _ _ h => h) (Or.inl ⟨by rfl, ?_⟩) (by assumption) ?_
                      rotate_left
                      · (intro w hSw; (try dsimp only at hSw); go_simp; try with_reducible rfl)
                      try simp only [Act.put, List.setIfInBounds_toArray, List.set_cons_zero, List.set_cons_succ]
                      refine wpAnyH_take (i := 21) (oi := ⟨some 110, _, _, _, _, _⟩) (v := ?_) rfl (by kernel_rfl) (by kernel_rfl) (by kernel_rfl) (fun _ _ _ h => h) (Or.inl ⟨by rfl, ?_⟩) (by assumption) ?_
                      rotate_left
                      · (intro w hSw; (try dsimp only at hSw); go_simp; try with_reducible rfl)
                      try simp only [Act.put, List.setIfInBounds_toArray, List.set_cons_zero, List.set_cons_succ]
                      refine wpAnyH_take (i := 22) (oi := ⟨some 111, _, _, _, _, _⟩) (v := ?_) rfl (by kernel_rfl) (by kernel_rfl) (by kernel_rfl) (fun _ _ _ h => h) (Or.inl ⟨by rfl, ?_⟩) (by assumption) ?_
                      rotate_left
                      · (intro w hSw; (try dsimp only at hSw); go_simp; try with_reducible rfl)
                      try simp only [Act.put, List.setIfInBounds_toArray, List.set_cons_zero, List.set_cons_succ]
                      refine wpAnyH_take (i := 23) (oi := ⟨some 112, _, _, _, _, _⟩) (v := ?_) rfl (by kernel_rfl) (by kernel_rfl) (by kernel_rfl) (fun _ _ _ h => h) (Or.inl ⟨by rfl, ?_⟩) (by assumption) ?_
                      rotate_left
                      · (intro w hSw; (try dsimp only at hSw); go_simp; try with_reducible rfl)
                      try simp only [Act.put, List.setIfInBounds_toArray, List.set_cons_zero, List.set_cons_succ]
                      refine wpAnyH_take (i := 24) (oi := ⟨some 113, _, _, _, _, _⟩) (v := ?_) rfl (by kernel_rfl) (by kernel_rfl) (by kernel_rfl) (fun _ _ _ h => h) (Or.inl ⟨by rfl, ?_⟩) (by assumption) ?_
                      rotate_left
                      · (intro w hSw; (try dsimp only at hSw); go_simp; try with_reducible rfl)
                      try simp only [Act.put, List.setIfInBounds_toArray, List.set_cons_zero, List.set_cons_succ]
                      refine wpAnyH_take (i := 25) (oi := ⟨some 114, _, _, _, _, _⟩) (v := ?_) rfl (by kernel_rfl) (by kernel_rfl) (by kernel_rfl) (fun _ _ _ h => h) (Or.inl ⟨by rfl, ?_⟩) (by assumption) ?_
                      rotate_left
                      · (intro w hSw; (try dsimp only at hSw); go_simp; try with_reducible rfl)
                      try simp only [Act.put, List.setIfInBounds_toArray, List.set_cons_zero, List.set_cons_succ]
                      refine wpAnyH_take (i := 26) (oi := ⟨some 115, _, _, _, _, _⟩) (v := ?_) rfl (by kernel_rfl) (by kernel_rfl) (by kernel_rfl) (fun _ _ _ h => h) (Or.inl ⟨by rfl, ?_⟩) (by assumption) ?_
                      rotate_left
                      · (intro w hSw; (try dsimp only at hSw); go_simp; try with_reducible rfl)
                      try simp only [Act.put, List.setIfInBounds_toArray, List.set_cons_zero, List.set_cons_succ]
                      refine next_one 27 (by kernel_rfl) rfl (by rfl) fun K' HK' => ?_
                      go_simp
                      refine (HSM.out _ (by (repeat (first | assumption | exact Ext.refl _ | apply Ext.drew | apply Ext.drewN | apply Ext.alloc | refine Ext.trans ?_ (by assumption))); first | done | fail)).mono ?_
                      rintro e w10 ⟨rfl, hx10⟩
                      have hR10 : Ext w9 w10 := (by (repeat (first | assumption | exact Ext.refl _ | apply Ext.drew | apply Ext.drewN | apply Ext.alloc | refine Ext.trans ?_ (by assumption))); first | done | fail)
                      have hS2 := Ext.trans hHeld hx10
                      refine held_go HK' hS2 (fun _ => ?_)
                      clear HK'
                      refine held_more (S' := fun w' => Ext w10 w') (fun _ h => Ext.trans hS2 h) _ _ _ _ ?_
                      clear hHeld hS2
                      have hHeld : Ext w10 w10 := Ext.refl _
                      try simp only [Act.put, List.setIfInBounds_toArray, List.set_cons_zero, List.set_cons_succ]
                      refine wpAnyH_take (i := 28) (oi := ⟨some 117, _, _, _, _, _⟩) (v := ?_) rfl (by kernel_rfl) (by kernel_rfl) (by kernel_rfl) (fun _ _ _ h => h) (Or.inl ⟨by rfl, ?_⟩) (by assumption) ?_
                      rotate_left
                      · (intro w hSw; (try dsimp only at hSw); go_simp; try with_reducible rfl)
                      try simp only [Act.put, List.setIfInBounds_toArray, List.set_cons_zero, List.set_cons_succ]
                      refine wpAnyH_take (i := 29) (oi := ⟨some 4, _, _, _, _, _⟩) (v := ?_) rfl (by kernel_rfl) (by kernel_rfl) (by kernel_rfl) (fun _ _ _ h => h) (Or.inl ⟨by rfl, ?_⟩) (by assumption) ?_
                      rotate_left
                      · (intro w hSw; (try dsimp only at hSw); go_simp; try with_reducible rfl)
                      try simp only [Act.put, List.setIfInBounds_toArray, List.set_cons_zero, List.set_cons_succ]
                      refine wpAnyH_done (by kernel_rfl) ?_ _
                      have X10 := Kp.mk (X9.out.trans hR10)
                      clear c1 hx10 hR10
                      go_wp2_with fail
                      go_ret
                      exact ⟨by first | rfl | simp, X10.out.b⟩
                    · exact absurd ⟨_, HM7.out, HE7.out⟩ hno
              · as_aux_lemma =>
                have HM7 := Kp.mk hno7
                have HX7 := Kp.mk x7
                clear hno7 x7
                have X57 := Kp.mk (X56.out.trans HX7.out)
                have X7 := Kp.mk (X5.out.trans X57.out)
                have S6 := (O6.out.ext HX7.out).bs.str (Ext.refl _)
                have SB := (HB.out.ext X7.out).str (Ext.refl _)
                go_wp2_with fail
                clear S6 SB
                go_loopw [17] (fun iv wq => ∃ (j : Nat) (l : List (BitVec 8)), j ≤ m ∧ iv = .int .i64 (j : Int) ∧ Own wq w5.heap.size (.slice A6 m c6) m l ∧ Mds (fpv (.slice A6 m c6)) w7 wq) (fun i _ => m - (intOf i).toNat)
                case atStart => exact ⟨0, b, Nat.zero_le _, rfl, O6.out.ext HX7.out, Mds.refl _ _⟩
                case round =>
                  obtain ⟨k, l, hk, rfl, hl, hmd⟩ := hrel
                  by_cases hlt : k < m
                  · as_aux_lemma =>
                    obtain ⟨gx, rfl, _, _⟩ := hl.some_ (by omega)
                    have k3 := hl.cell k hlt
                    have k4 := hl.free k
                    have HL8 := Kp.mk (hl.set k (gb l k + 1))
                    have HMd := Kp.mk (hmd.setCell (p := ⟨gx, k, none⟩) (mem_fpv.2 rfl) (.int .u8 (ub (gb l k + 1))))
                    have b0 : (k : Int) < (m : Int) := by omega
                    have b1 : (k : Int) < 9223372036854775807 := by omega
                    have e2 := ub_up9 (gb l k)
                    generalize gb l k = z1 at *
                    generalize ub (z1 + 1) = y1 at *
                    generalize ub z1 = z2 at *
                    clear hl hmd
                    go_wp2_with fail
                    go_roundw
                    case rel => exact ⟨k + 1, _, by omega, by go_num, HL8.out, HMd.out⟩
                    case measure => simp [intOf]; omega
                  · obtain rfl : k = m := by omega
                    obtain ⟨w8, rfl⟩ : ∃ w8 : World, w8 = wr := ⟨_, rfl⟩
                    as_aux_lemma =>
                    have X58 := Kp.mk (hmd.ext X57.out (fun k hk => O6.out.base k (mem_fpv.1 hk)))
                    have X8 := Kp.mk (X5.out.trans X58.out)
                    have b5 : ¬ (k : Int) < (k : Int) := by omega
                    clear hl hmd
                    go_wp2_with fail
                    refine (Read_any (HB.out.ext X8.out) (by omega) (tabs_ext HT.out X8.out)).mono ?_
                    rintro e w9 (⟨ps, A9, c9, F9, hm9, he9, _⟩ | ⟨_, rfl, x9⟩)
                    · exact absurd ⟨_, hm9, he9⟩ HM7.out
                    · skip
                      have X59 := Kp.mk (X58.out.trans x9)
                      have X9 := Kp.mk (X8.out.trans x9)
                      have HSM := Kp.mk (fun (W : World) (hW : Ext w9 W) => (Same_any (Nam.nil W) (Nam.nil W) FitN.nil))
                      rw [show sameN [] [] = true from sameN_yes rfl] at HSM
                      have c1 := fun (W : World) (hW : Ext w9 W) => (HS5.out.ext (X59.out.trans hW)).str (Ext.refl _)
                      clear x9
                      go_wp2_with fail
                      refine wp_region_held_drew (S := fun w' => Ext w9 w') (by kernel_rfl) (Ext.refl w9).drew (fun hHeld => ?_)
                      refine wpAnyH_take (i := 0) (oi := ⟨some 89, _, _, _, _, _⟩) (v := ?_) rfl (by kernel_rfl) (by kernel_rfl) (by kernel_rfl) (fun _ _ _ h => h) (Or.inl ⟨by rfl, ?_⟩) (by assumption) ?_
                      rotate_left
                      · (intro w hSw; (try dsimp only at hSw); go_simp; try with_reducible rfl)
                      try simp only [Act.put, List.setIfInBounds_toArray, List.set_cons_zero, List.set_cons_succ]
                      refine wpAnyH_take (i := 1) (oi := ⟨some 90, _, _, _, _, _⟩) (v := ?_) rfl (by kernel_rfl) (by kernel_rfl) (by kernel_rfl) (fun _ _ _ h => h) (Or.inl ⟨by rfl, ?_⟩) (by assumption) ?_
                      rotate_left
                      · (intro w hSw; (try dsimp only at hSw); go_simp; try with_reducible rfl)
                      try simp only [Act.put, List.setIfInBounds_toArray, List.set_cons_zero, List.set_cons_succ]
                      refine wpAnyH_take (i := 2) (oi := ⟨some 91, _, _, _, _, _⟩) (v := ?_) rfl (by kernel_rfl) (by kernel_rfl) (by kernel_rfl) (fun _ _ _ h => h) (Or.inl ⟨by rfl, ?_⟩) (by assumption) ?_
                      rotate_left
                      · (intro w hSw; (try dsimp only at hSw); go_simp; try with_reducible rfl)
                      try simp only [Act.put, List.setIfInBounds_toArray, List.set_cons_zero, List.set_cons_succ]
                      refine wpAnyH_take (i := 3) (oi := ⟨some 92, _, _, _, _, _⟩) (v := ?_) rfl (by kernel_rfl) (by kernel_rfl) (by kernel_rfl) (fun _ _ _ h => h) (Or.inl ⟨by rfl, ?_⟩) (by assumption) ?_
                      rotate_left
                      · (intro w hSw; (try dsimp only at hSw); go_simp; try with_reducible rfl)
                      try simp only [Act.put, List.setIfInBounds_toArray, List.set_cons_zero, List.set_cons_succ]
                      refine wpAnyH_take (i := 4) (oi := ⟨some 93, _, _, _, _, _⟩) (v := ?_) rfl (by kernel_rfl) (by kernel_rfl) (by kernel_rfl) (fun _ _ _ h => h) (Or.inl ⟨by rfl, ?_⟩) (by assumption) ?_
                      rotate_left
                      · (intro w hSw; (try dsimp only at hSw); go_simp; try with_reducible rfl)
                      try simp only [Act.put, List.setIfInBounds_toArray, List.set_cons_zero, List.set_cons_succ]
                      refine wpAnyH_take (i := 5) (oi := ⟨some 94, _, _, _, _, _⟩) (v := ?_) rfl (by kernel_rfl) (by kernel_rfl) (by kernel_rfl) (fun _ _ _ h => h) (Or.inl ⟨by rfl, ?_⟩) (by assumption) ?_
                      rotate_left
                      · (intro w hSw; (try dsimp only at hSw); go_simp; try with_reducible rfl)
                      try simp only [Act.put, List.setIfInBounds_toArray, List.set_cons_zero, List.set_cons_succ]
                      refine wpAnyH_take (i := 6) (oi := ⟨some 95, _, _, _, _, _⟩) (v := ?_) rfl (by kernel_rfl) (by kernel_rfl) (by kernel_rfl) (fun _ _ _ h => h) (Or.inl ⟨by rfl, ?_⟩) (by assumption) ?_
                      rotate_left
                      · (intro w hSw; (try dsimp only at hSw); go_simp; try with_reducible rfl)
                      try simp only [Act.put, List.setIfInBounds_toArray, List.set_cons_zero, List.set_cons_succ]
                      refine wpAnyH_take (i := 7) (oi := ⟨some 96, _, _, _, _, _⟩) (v := ?_) rfl (by kernel_rfl) (by kernel_rfl) (by kernel_rfl) (fun _ _ _ h => h) (Or.inl ⟨by rfl, ?_⟩) (by assumption) ?_
                      rotate_left
                      · (intro w hSw; (try dsimp only at hSw); go_simp; try with_reducible rfl)
                      try simp only [Act.put, List.setIfInBounds_toArray, List.set_cons_zero, List.set_cons_succ]
                      refine wpAnyH_take (i := 8) (oi := ⟨some 97, _, _, _, _, _⟩) (v := ?_) rfl (by kernel_rfl) (by kernel_rfl) (by kernel_rfl) (fun _ _ _ h => h) (Or.inl ⟨by rfl, ?_⟩) (by assumption) ?_
                      rotate_left
                      · (intro w hSw; (try dsimp only at hSw); go_simp; try with_reducible rfl)
                      try simp only [Act.put, List.setIfInBounds_toArray, List.set_cons_zero, List.set_cons_succ]
                      refine wpAnyH_take (i := 9) (oi := ⟨some 98, _, _, _, _, _⟩) (v := ?_) rfl (by kernel_rfl) (by kernel_rfl) (by kernel_rfl) (fun _ _ _ h => h) (Or.inl ⟨by rfl, ?_⟩) (by assumption) ?_
                      rotate_left
                      · (intro w hSw; (try dsimp only at hSw); go_simp; try with_reducible rfl)
                      try simp only [Act.put, List.setIfInBounds_toArray, List.set_cons_zero, List.set_cons_succ]
                      refine wpAnyH_take (i := 10) (oi := ⟨some 99, _, _, _, _, _⟩) (v := ?_) rfl (by kernel_rfl) (by kernel_rfl) (by kernel_rfl) (fun _ _ _ h => h) (Or.inl ⟨by rfl, ?_⟩) (by assumption) ?_
                      rotate_left
                      · (intro w hSw; (try dsimp only at hSw); go_simp; try with_reducible rfl)
                      try simp only [Act.put, List.setIfInBounds_toArray, List.set_cons_zero, List.set_cons_succ]
                      refine wpAnyH_take (i := 11) (oi := ⟨some 100, _, _, _, _, _⟩) (v := ?_) rfl (by kernel_rfl) (by kernel_rfl) (by kernel_rfl) (fun _ _ _ h => h) (Or.inl ⟨by rfl, ?_⟩) (by assumption) ?_
                      rotate_left
                      · (intro w hSw; (try dsimp only at hSw); go_simp; try with_reducible rfl)
                      try simp only [Act.put, List.setIfInBounds_toArray, List.set_cons_zero, List.set_cons_succ]
                      refine wpAnyH_take (i := 12) (oi := ⟨some 101, _, _, _, _, _⟩) (v := ?_) rfl (by kernel_rfl) (by kernel_rfl) (by kernel_rfl) (fun _ _ _ h => h) (Or.inl ⟨by rfl, ?_⟩) (by assumption) ?_
                      rotate_left
                      · (intro w hSw; (try dsimp only at hSw); go_simp; try with_reducible rfl)
                      try simp only [Act.put, List.setIfInBounds_toArray, List.set_cons_zero, List.set_cons_succ]
                      refine wpAnyH_take (i := 13) (oi := ⟨some 102, _, _, _, _, _⟩) (v := ?_) rfl (by kernel_rfl) (by kernel_rfl) (by kernel_rfl) (fun _ _ _ h => h) (Or.inl ⟨by rfl, ?_⟩) (by assumption) ?_
                      rotate_left
                      · (intro w hSw; (try dsimp only at hSw); go_simp; try with_reducible rfl)
                      try simp only [Act.put, List.setIfInBounds_toArray, List.set_cons_zero, List.set_cons_succ]
                      refine wpAnyH_take (i := 14) (oi := ⟨some 103, _, _, _, _, _⟩) (v := ?_) rfl (by kernel_rfl) (by kernel_rfl) (by kernel_rfl) (fun _ _ _ h => h) (Or.inl ⟨by rfl, ?_⟩) (by assumption) ?_
                      rotate_left
                      · (intro w hSw; (try dsimp only at hSw); go_simp; try with_reducible rfl)
                      try simp only [Act.put, List.setIfInBounds_toArray, List.set_cons_zero, List.set_cons_succ]
                      refine wpAnyH_take (i := 15) (oi := ⟨some 104, _, _, _, _, _⟩) (v := ?_) rfl (by kernel_rfl) (by kernel_rfl) (by kernel_rfl) (fun _ _ _ h => h) (Or.inl ⟨by rfl, ?_⟩) (by assumption) ?_
                      rotate_left
                      · (intro w hSw; (try dsimp only at hSw); go_simp; try with_reducible rfl)
                      try simp only [Act.put, List.setIfInBounds_toArray, List.set_cons_zero, List.set_cons_succ]
                      refine wpAnyH_take (i := 16) (oi := ⟨some 105, _, _, _, _, _⟩) (v := ?_) rfl (by kernel_rfl) (by kernel_rfl) (by kernel_rfl) (fun _ _ _ h => h) (Or.inl ⟨by rfl, ?_⟩) (by assumption) ?_
                      rotate_left
                      · (intro w hSw; (try dsimp only at hSw); go_simp; try with_reducible rfl)
                      try simp only [Act.put, List.setIfInBounds_toArray, List.set_cons_zero, List.set_cons_succ]
                      refine wpAnyH_take (i := 17) (oi := ⟨some 106, _, _, _, _, _⟩) (v := ?_) rfl (by kernel_rfl) (by kernel_rfl) (by kernel_rfl) (fun _ _ _ h => h) (Or.inl ⟨by rfl, ?_⟩) (by assumption) ?_
                      rotate_left
                      · (intro w hSw; (try dsimp only at hSw); go_simp; try with_reducible rfl)
                      try simp only [Act.put, List.setIfInBounds_toArray, List.set_cons_zero, List.set_cons_succ]
                      refine wpAnyH_take (i := 18) (oi := ⟨some 107, _, _, _, _, _⟩) (v := ?_) rfl (by kernel_rfl) (by kernel_rfl) (by kernel_rfl) (fun _ _ _ h => h) (Or.inl ⟨by rfl, ?_⟩) (by assumption) ?_
                      rotate_left
                      · (intro w hSw; (try dsimp only at hSw); go_simp; try with_reducible rfl)
                      try simp only [Act.put, List.setIfInBounds_toArray, List.set_cons_zero, List.set_cons_succ]
                      refine wpAnyH_take (i := 19) (oi := ⟨some 108, _, _, _, _, _⟩) (v := ?_) rfl (by kernel_rfl) (by kernel_rfl) (by kernel_rfl) (fun _ _ _ h => h) (Or.inl ⟨by rfl, ?_⟩) (by assumption) ?_
                      rotate_left
                      · (intro w hSw; (try dsimp only at hSw); go_simp; try with_reducible rfl)
                      try simp only [Act.put, List.setIfInBounds_toArray, List.set_cons_zero, List.set_cons_succ]
                      refine wpAnyH_take (i := 20) (oi := ⟨some 109, _, _, _, _, _⟩) (v := ?_) rfl (by kernel_rfl) (by kernel_rfl) (by kernel_rfl) (fun _ _ _ h => h) (Or.inl ⟨by rfl, ?_⟩) (by assumption) ?_
                      rotate_left
                      · (intro w hSw; (try dsimp only at hSw); go_simp; try with_reducible rfl)
                      try simp only [Act.put, List.setIfInBounds_toArray, List.set_cons_zero, List.set_cons_succ]
                      refine wpAnyH_take (i := 21) (oi := ⟨some 110, _, _, _, _, _⟩) (v := ?_) rfl (by kernel_rfl) (by kernel_rfl) (by kernel_rfl) (fun _ _ _ h => h) (Or.inl ⟨by rfl, ?_⟩) (by assumption) ?_
                      rotate_left
                      · (intro w hSw; (try dsimp only at hSw); go_simp; try with_reducible rfl)
                      try simp only [Act.put, List.setIfInBounds_toArray, List.set_cons_zero, List.set_cons_succ]
                      refine wpAnyH_take (i := 22) (oi := ⟨some 111, _, _, _, _, _⟩) (v := ?_) rfl (by kernel_rfl) (by kernel_rfl) (by kernel_rfl) (fun _ _ _ h => h) (Or.inl ⟨by rfl, ?_⟩) (by assumption) ?_
                      rotate_left
                      · (intro w hSw; (try dsimp only at hSw); go_simp; try with_reducible rfl)
                      try simp only [Act.put, List.setIfInBounds_toArray, List.set_cons_zero, List.set_cons_succ]
                      refine wpAnyH_take (i := 23) (oi := ⟨some 112, _, _, _, _, _⟩) (v := ?_) rfl (by kernel_rfl) (by kernel_rfl) (by kernel_rfl) (fun _ _ _ h => h) (Or.inl ⟨by rfl, ?_⟩) (by assumption) ?_
                      rotate_left
                      · (intro w hSw; (try dsimp only at hSw); go_simp; try with_reducible rfl)
                      try simp only [Act.put, List.setIfInBounds_toArray, List.set_cons_zero, List.set_cons_succ]
                      refine wpAnyH_take (i := 24) (oi := ⟨some 113, _, _, _, _, _⟩) (v := ?_) rfl (by kernel_rfl) (by kernel_rfl) (by kernel_rfl) (fun _ _ _ h => h) (Or.inl ⟨by rfl, ?_⟩) (by assumption) ?_
                      rotate_left
                      · (intro w hSw; (try dsimp only at hSw); go_simp; try with_reducible rfl)
                      try simp only [Act.put, List.setIfInBounds_toArray, List.set_cons_zero, List.set_cons_succ]
                      refine wpAnyH_take (i := 25) (oi := ⟨some 114, _, _, _, _, _⟩) (v := ?_) rfl (by kernel_rfl) (by kernel_rfl) (by kernel_rfl) (fun _ _ _ h => h) (Or.inl ⟨by rfl, ?_⟩) (by assumption) ?_
                      rotate_left
                      · (intro w hSw; (try dsimp only at hSw); go_simp; try with_reducible rfl)
                      try simp only [Act.put, List.setIfInBounds_toArray, List.set_cons_zero, List.set_cons_succ]
                      refine wpAnyH_take (i := 26) (oi := ⟨some 115, _, _, _, _, _⟩) (v := ?_) rfl (by kernel_rfl) (by kernel_rfl) (by kernel_rfl) (fun _ _ _ h => h) (Or.inl ⟨by rfl, ?_⟩) (by assumption) ?_
                      rotate_left
                      · (intro w hSw; (try dsimp only at hSw); go_simp; try with_reducible rfl)
                      try simp only [Act.put, List.setIfInBounds_toArray, List.set_cons_zero, List.set_cons_succ]
                      refine next_one 27 (by kernel_rfl) rfl (by rfl) fun K' HK' => ?_
                      go_simp
                      refine (HSM.out _ (by (repeat (first | assumption | exact Ext.refl _ | apply Ext.drew | apply Ext.drewN | apply Ext.alloc | refine Ext.trans ?_ (by assumption))); first | done | fail)).mono ?_
                      rintro e w10 ⟨rfl, hx10⟩
                      have hR10 : Ext w9 w10 := (by (repeat (first | assumption | exact Ext.refl _ | apply Ext.drew | apply Ext.drewN | apply Ext.alloc | refine Ext.trans ?_ (by assumption))); first | done | fail)
                      have hS2 := Ext.trans hHeld hx10
                      refine held_go HK' hS2 (fun _ => ?_)
                      clear HK'
                      refine held_more (S' := fun w' => Ext w10 w') (fun _ h => Ext.trans hS2 h) _ _ _ _ ?_
                      clear hHeld hS2
                      have hHeld : Ext w10 w10 := Ext.refl _
                      try simp only [Act.put, List.setIfInBounds_toArray, List.set_cons_zero, List.set_cons_succ]
                      refine wpAnyH_take (i := 28) (oi := ⟨some 117, _, _, _, _, _⟩) (v := ?_) rfl (by kernel_rfl) (by kernel_rfl) (by kernel_rfl) (fun _ _ _ h => h) (Or.inl ⟨by rfl, ?_⟩) (by assumption) ?_
                      rotate_left
                      · (intro w hSw; (try dsimp only at hSw); go_simp; try with_reducible rfl)
                      try simp only [Act.put, List.setIfInBounds_toArray, List.set_cons_zero, List.set_cons_succ]
                      refine wpAnyH_take (i := 29) (oi := ⟨some 4, _, _, _, _, _⟩) (v := ?_) rfl (by kernel_rfl) (by kernel_rfl) (by kernel_rfl) (fun _ _ _ h => h) (Or.inl ⟨by rfl, ?_⟩) (by assumption) ?_
                      rotate_left
                      · (intro w hSw; (try dsimp only at hSw); go_simp; try with_reducible rfl)
                      try simp only [Act.put, List.setIfInBounds_toArray, List.set_cons_zero, List.set_cons_succ]
                      refine wpAnyH_done (by kernel_rfl) ?_ _
                      have X10 := Kp.mk (X9.out.trans hR10)
                      clear c1 hx10 hR10
                      go_wp2_with fail
                      go_ret
                      exact ⟨by first | rfl | simp, X10.out.b⟩
end Go.Proofs.YthookcnkmlmgcaaDoor
