/-
  The walk of unicode/utf8.Valid, whatever the bytes.
-/
import Derived.Test.YthookcnkmlmgcaaGreatDoorVZa
import Derived.Shelf.Unicode.DecodeSlow
import Derived.Deep.LoopGhost
import Derived.Deep.DeepMust
import Derived.BigQuiet
import Derived.Laws.BitsAllLaws
import Derived.Deep.CutBlock
namespace Go.Proofs.YthookcnkmlmgcaaGreatDoor
open Go Go.RowKit Go.Lib
set_option maxRecDepth 4000

theorem cell_lt8 {w : World} {p : Addr} {v : Value} (h : w.cell? p = some v) : ∀ w', Ext w w' → w'.cell? p = some v := fun _ hx => (hx.b.cell (World.block_lt_of_cell? _ _ h)).trans h
/-- p[:len(p):len(p)] -/
theorem run_cutAll (A : Option Addr) (n C : Nat) (h : n ≤ C) (hA : A = none → n = 0) : ∃ A', (0 < n → A' = A) ∧ ∀ w : World, (Instr.sliceAt 22 (.slice A n C) none (some (.int .i64 (n : Int))) (some (.int .i64 (n : Int)))).run Tryz.prog w = .ok (.slice A' n n) w := by
  have hs := szB
  refine ⟨A, fun _ => rfl, fun w => ?_⟩
  cases hq : Tryz.prog.info? 5 with
  | none => simp [hq] at hs
  | some i =>
    cases A with
    | none =>
      obtain rfl := hA rfl
      simp [Instr.sliceAt, Instr.slice, run_underlying Tryz.underlying22, Instr.sliceBounds, Instr.sliceBound, asIntOf, sizeOf, typeInfo, hq, Addr.add]
    | some a =>
      obtain ⟨b, o, p⟩ := a
      cases p <;> simp [Instr.sliceAt, Instr.slice, run_underlying Tryz.underlying22, Instr.sliceBounds, Instr.sliceBound, asIntOf, sizeOf, typeInfo, hq, h, Addr.add]
theorem Bs.cutF {w : World} {A : Option Addr} {n : Nat} {l : List (BitVec 8)} (h : Bs w A n n l) (k : Nat) (x : Int) (hx : x = (k : Int)) (hk : k ≤ n) :
    ∃ (A' : Option Addr) (m : Nat), m + k = n ∧ Bs w A' m m (l.drop k) ∧ ∀ W : World, (Instr.sliceAt 22 (.slice A n n) (some (.int .i64 x)) none none).run Tryz.prog W = .ok (.slice A' m m) W := by
  obtain ⟨A', hA', hD⟩ := h.cut k hk
  refine ⟨A', n - k, by omega, hD, fun W => ?_⟩
  rw [← hA']
  exact run_from (P := Tryz.prog) A n n 22 5 Tryz.underlying22 szB k x hx hk W
set_option maxRecDepth 100000 in
theorem and7_ : ∀ X : Fin 256, bits .and .u8 ((X.val : Nat) : Int) 7 = ((X.val % 8 : Nat) : Int) := by decide
theorem tabs_ext {g3 g4 : Nat} {w w' : World} (h : Utf8Tabs g3 g4 w) (hx : Ext w w') : Utf8Tabs g3 g4 w' :=
  ⟨fun c hc => cell_lt8 (h.1 c hc) _ hx, fun i hi => ⟨cell_lt8 (h.2 i hi).1 _ hx, cell_lt8 (h.2 i hi).2 _ hx⟩⟩
set_option maxHeartbeats 16000000 in
set_option maxRecDepth 100000 in
theorem Valid_any {b : List (BitVec 8)} {A0 : Option Addr} {n0 c0 : Nat} {w : World} (h : Bs w A0 n0 c0 b) (hT : Utf8Tabs 1 2 w) :
    Calls Tryz.prog 92 #[.slice A0 n0 c0] w fun e w' => e = .returned (.bool (validD (oct b))) ∧ Ext w w' := by
  obtain ⟨ANS, hANS⟩ : ∃ ANS, validD (oct b) = ANS := ⟨_, rfl⟩
  rw [hANS]
  obtain ⟨A1, hA1, hcut⟩ := run_cutAll A0 n0 c0 h.cap (fun e => (h.s.2.2.1 e).1)
  have hb0 : Bs w A1 n0 n0 b := by
    refine ⟨h.len, Nat.le_refl _, fun e => ?_, fun hn => ?_⟩
    · by_cases h0 : 0 < n0
      · obtain rfl := hA1 h0
        exact ⟨(h.s.2.2.1 e).1, (h.s.2.2.1 e).1⟩
      · exact ⟨by omega, by omega⟩
    · obtain rfl := hA1 hn
      exact h.s.2.2.2 hn
  clear hA1 h
  have HT := Kp.mk hT
  have HB := Kp.mk hb0
  clear hT hb0
  go_enter Tryz.func92, Tryz.ntmps92
  go_wp2
  clear hcut
  go_loopg [0] (n0 + 1) (fun gk s0 wx => Ext w wx ∧ ∃ (A : Option Addr) (n : Nat) (t : List (BitVec 8)), s0 = .slice A n n ∧ Bs wx A n n t ∧ validD (oct t) = ANS ∧ n < gk)
  case atStart => exact ⟨Ext.refl _, A1, n0, b, rfl, HB.out, hANS, by omega⟩
  case round =>
    obtain ⟨hbw, A, n, t, rfl, hbt, hv, hg⟩ := hrel
    clear hANS
    have hl := hbt.len
    have hTr := tabs_ext HT.out hbw
    have HW := Kp.mk hbw
    clear hbw
    by_cases h0 : 0 < n
    · obtain ⟨g', rfl⟩ : ∃ g', gk = g' + 1 := ⟨gk - 1, by omega⟩
      have h0z : (0 : Int) < (n : Int) := by omega
      obtain ⟨g, o, rfl, hc⟩ := hbt.s.2.2.2 h0
      obtain ⟨x0, hx0⟩ : ∃ x0, (gb t 0).toNat = x0 := ⟨_, rfl⟩
      have k0 := hc 0 h0
      rw [Nat.add_zero] at k0
      unfold ub at k0
      rw [hx0] at k0
      have hx0lt : x0 < 256 := hx0 ▸ (gb t 0).isLt
      by_cases hasc : x0 < 128
      · -- a byte below 128: the fast path
        have hascz : (x0 : Int) < 128 := by omega
        have a1 : LoA t 1 := lo_one t (by omega) (by rw [hx0]; exact hasc)
        obtain ⟨B1, n1, z1, hb1, r1⟩ := hbt.cutF 1 1 rfl h0
        have v1 : validD (oct (t.drop 1)) = ANS := by rw [valid_lo t 1 a1]; exact hv
        generalize t.drop 1 = t1 at *
        clear hTr hv a1 hbt hl hc
        by_cases c8 : 8 < n1
        · have c8z : (8 : Int) < (n1 : Int) := by omega
          obtain ⟨P1, hP1⟩ : ∃ P, w8 t1 = P := ⟨_, rfl⟩
          have lP1 : P1 < 18446744073709551616 := hP1 ▸ w8_lt t1 (by rw [hb1.len]; omega)
          have cP1 : ∀ W, Ext wr W → Calls Tryz.prog 106 #[.slice B1 n1 n1] W fun e w' => e = .returned (.int .u64 (P1 : Int)) ∧ ∃ q, w' = W.drewN q := fun W hx => by rw [← hP1]; exact word8_any (hb1.ext hx) (by omega)
          have kP1 := w8_lo t1 (by rw [hb1.len]; omega)
          rw [hP1] at kP1
          clear hP1
          have hand1 : bits .and .u64 (P1 : Int) 9259542123273814144 = ((P1 &&& 9259542123273814144 : Nat) : Int) := u64_and_nat P1 9259542123273814144 lP1 (by omega)
          obtain ⟨Z1, hZ1⟩ : ∃ Z1, P1 &&& 9259542123273814144 = Z1 := ⟨_, rfl⟩
          rw [hZ1] at hand1 kP1
          clear hZ1
          by_cases hz1 : Z1 = 0
          · have hz1b : ((Z1 : Int) == 0) = true := by simp [hz1]
            have a8 : LoA t1 8 := kP1.1 hz1
            obtain ⟨B2, n2, z2, hb2, r2⟩ := hb1.cutF 8 8 rfl (by omega)
            have v2 : validD (oct (t1.drop 8)) = ANS := by rw [valid_lo t1 8 a8]; exact v1
            generalize t1.drop 8 = t2 at *
            clear kP1 a8 v1 hb1
            go_wp2_with (go_at_call 106; go_must (refine (cP1 _ (by (repeat (first | assumption | exact Ext.refl _ | apply Ext.drew | apply Ext.drewN | apply Ext.alloc | refine Ext.trans ?_ (by assumption))); first | done | fail)).mono ?_; rintro e W1 ⟨rfl, q1, rfl⟩))
            have hxq : Ext wr (wr.drewN q1) := (by (repeat (first | assumption | exact Ext.refl _ | apply Ext.drew | apply Ext.drewN | apply Ext.alloc | refine Ext.trans ?_ (by assumption))); first | done | fail)
            have HW1 := Kp.mk (HW.out.trans hxq)
            have hb2' := hb2.ext hxq
            generalize wr.drewN q1 = wq at hb2' HW1 ⊢
            clear cP1 hb2 hxq k0
            by_cases c16 : 16 < n2
            · have c16z : (16 : Int) < (n2 : Int) := by omega
              have s8z : (8 : Int) ≤ (n2 : Int) := by omega
              obtain ⟨B2b, n2b, z2b, hb2b, r2b⟩ := hb2'.cutF 8 8 rfl (by omega)
              obtain ⟨t2b, ht2b⟩ : ∃ t2b, t2.drop 8 = t2b := ⟨_, rfl⟩
              rw [ht2b] at hb2b
              obtain ⟨P2, hP2⟩ : ∃ P, w8 t2 = P := ⟨_, rfl⟩
              have lP2 : P2 < 18446744073709551616 := hP2 ▸ w8_lt t2 (by rw [hb2'.len]; omega)
              have cP2 : ∀ W, Ext wq W → Calls Tryz.prog 106 #[.slice B2 n2 n2] W fun e w' => e = .returned (.int .u64 (P2 : Int)) ∧ ∃ q, w' = W.drewN q := fun W hx => by rw [← hP2]; exact word8_any (hb2'.ext hx) (by omega)
              have kP2 := w8_lo t2 (by rw [hb2'.len]; omega)
              rw [hP2] at kP2
              clear hP2
              obtain ⟨P3, hP3⟩ : ∃ P, w8 t2b = P := ⟨_, rfl⟩
              have lP3 : P3 < 18446744073709551616 := hP3 ▸ w8_lt t2b (by rw [hb2b.len]; omega)
              have cP3 : ∀ W, Ext wq W → Calls Tryz.prog 106 #[.slice B2b n2b n2b] W fun e w' => e = .returned (.int .u64 (P3 : Int)) ∧ ∃ q, w' = W.drewN q := fun W hx => by rw [← hP3]; exact word8_any (hb2b.ext hx) (by omega)
              have kP3 := w8_lo t2b (by rw [hb2b.len]; omega)
              rw [hP3] at kP3
              clear hP3
              have hor2 : bits .or .u64 (P2 : Int) (P3 : Int) = ((P2 ||| P3 : Nat) : Int) := u64_or_nat P2 P3 lP2 lP3
              have lor2 : P2 ||| P3 < 18446744073709551616 := Nat.or_lt_two_pow (n := 64) lP2 lP3
              have hand2 : bits .and .u64 ((P2 ||| P3 : Nat) : Int) 9259542123273814144 = (((P2 ||| P3) &&& 9259542123273814144 : Nat) : Int) := u64_and_nat _ 9259542123273814144 lor2 (by omega)
              have k2 : (P2 ||| P3) &&& 9259542123273814144 = 0 → LoA t2 16 := fun h0' => by
                obtain ⟨e1, e2⟩ := (or_mask P2 P3 _).1 h0'
                exact lo_add t2 8 8 (kP2.1 e1) (by rw [ht2b]; exact kP3.1 e2)
              obtain ⟨O2, hO2⟩ : ∃ O2, P2 ||| P3 = O2 := ⟨_, rfl⟩
              rw [hO2] at hor2 hand2 k2
              obtain ⟨Z2, hZ2⟩ : ∃ Z2, O2 &&& 9259542123273814144 = Z2 := ⟨_, rfl⟩
              rw [hZ2] at hand2 k2
              clear kP2 kP3 lor2 hO2 hZ2 ht2b hb2b
              by_cases hz2 : Z2 = 0
              · as_aux_lemma =>
                have hz2b : ((Z2 : Int) == 0) = true := by simp [hz2]
                have a16 := k2 hz2
                obtain ⟨B3, n3, z3, hb3, r3⟩ := hb2'.cutF 16 16 rfl (by omega)
                have v3 : validD (oct (t2.drop 16)) = ANS := by rw [valid_lo t2 16 a16]; exact v2
                generalize t2.drop 16 = t3 at *
                clear k2 a16 v2 hb2'
                go_big_quiet (first | (go_at_call 106; with_reducible exact Calls.quiet_of (cP2 _ ((Ext.refl wq).drewN _))) | (go_at_call 106; with_reducible exact Calls.quiet_of (cP3 _ ((Ext.refl wq).drewN _))))
                have hxq : Ext wq (wq.drewN nq) := (by (repeat (first | assumption | exact Ext.refl _ | apply Ext.drew | apply Ext.drewN | apply Ext.alloc | refine Ext.trans ?_ (by assumption))); first | done | fail)
                have HW2 := Kp.mk (HW1.out.trans hxq)
                have hb3' := hb3.ext hxq
                generalize wq.drewN nq = wq2 at hb3' HW2 ⊢
                clear cP2 cP3 hb3 hxq
                go_wp2
                -- 32 bytes a round
                go_loopg [0] (n3 + 1) (fun g2 s0 wx => Ext wq2 wx ∧ ∃ (A : Option Addr) (m : Nat) (u : List (BitVec 8)), s0 = .slice A m m ∧ Bs wx A m m u ∧ validD (oct u) = ANS ∧ m < g2 ∧ m ≤ n3)
                case atStart => exact ⟨Ext.refl _, B3, n3, t3, rfl, hb3', v3, by omega, Nat.le_refl _⟩
                case round =>
                  obtain ⟨hbu, C0, m, u, rfl, hu, vu, hgu, hut⟩ := hrel
                  have HU := Kp.mk hbu
                  clear hbu v3
                  by_cases c32 : 32 < m
                  · as_aux_lemma =>
                    obtain ⟨g3, rfl⟩ : ∃ g3, gk = g3 + 1 := ⟨gk - 1, by omega⟩
                    have c32z : (32 : Int) < (m : Int) := by omega
                    have s8u : (8 : Int) ≤ (m : Int) := by omega
                    have s16u : (16 : Int) ≤ (m : Int) := by omega
                    have s24u : (24 : Int) ≤ (m : Int) := by omega
                    obtain ⟨C1, m1, zm1, hu1, s1⟩ := hu.cutF 8 8 rfl (by omega)
                    obtain ⟨C2, m2, zm2, hu2, s2⟩ := hu.cutF 16 16 rfl (by omega)
                    obtain ⟨C3, m3, zm3, hu3, s3⟩ := hu.cutF 24 24 rfl (by omega)
                    obtain ⟨u1, hu1e⟩ : ∃ u1, u.drop 8 = u1 := ⟨_, rfl⟩
                    obtain ⟨u2, hu2e⟩ : ∃ u1, u.drop 16 = u1 := ⟨_, rfl⟩
                    obtain ⟨u3, hu3e⟩ : ∃ u1, u.drop 24 = u1 := ⟨_, rfl⟩
                    rw [hu1e] at hu1
                    rw [hu2e] at hu2
                    rw [hu3e] at hu3
                    obtain ⟨P4, hP4⟩ : ∃ P, w8 u = P := ⟨_, rfl⟩
                    have lP4 : P4 < 18446744073709551616 := hP4 ▸ w8_lt u (by rw [hu.len]; omega)
                    have cP4 : ∀ W, Ext wr W → Calls Tryz.prog 106 #[.slice C0 m m] W fun e w' => e = .returned (.int .u64 (P4 : Int)) ∧ ∃ q, w' = W.drewN q := fun W hx => by rw [← hP4]; exact word8_any (hu.ext hx) (by omega)
                    have kP4 := w8_lo u (by rw [hu.len]; omega)
                    rw [hP4] at kP4
                    clear hP4
                    obtain ⟨P5, hP5⟩ : ∃ P, w8 u1 = P := ⟨_, rfl⟩
                    have lP5 : P5 < 18446744073709551616 := hP5 ▸ w8_lt u1 (by rw [hu1.len]; omega)
                    have cP5 : ∀ W, Ext wr W → Calls Tryz.prog 106 #[.slice C1 m1 m1] W fun e w' => e = .returned (.int .u64 (P5 : Int)) ∧ ∃ q, w' = W.drewN q := fun W hx => by rw [← hP5]; exact word8_any (hu1.ext hx) (by omega)
                    have kP5 := w8_lo u1 (by rw [hu1.len]; omega)
                    rw [hP5] at kP5
                    clear hP5
                    obtain ⟨P6, hP6⟩ : ∃ P, w8 u2 = P := ⟨_, rfl⟩
                    have lP6 : P6 < 18446744073709551616 := hP6 ▸ w8_lt u2 (by rw [hu2.len]; omega)
                    have cP6 : ∀ W, Ext wr W → Calls Tryz.prog 106 #[.slice C2 m2 m2] W fun e w' => e = .returned (.int .u64 (P6 : Int)) ∧ ∃ q, w' = W.drewN q := fun W hx => by rw [← hP6]; exact word8_any (hu2.ext hx) (by omega)
                    have kP6 := w8_lo u2 (by rw [hu2.len]; omega)
                    rw [hP6] at kP6
                    clear hP6
                    obtain ⟨P7, hP7⟩ : ∃ P, w8 u3 = P := ⟨_, rfl⟩
                    have lP7 : P7 < 18446744073709551616 := hP7 ▸ w8_lt u3 (by rw [hu3.len]; omega)
                    have cP7 : ∀ W, Ext wr W → Calls Tryz.prog 106 #[.slice C3 m3 m3] W fun e w' => e = .returned (.int .u64 (P7 : Int)) ∧ ∃ q, w' = W.drewN q := fun W hx => by rw [← hP7]; exact word8_any (hu3.ext hx) (by omega)
                    have kP7 := w8_lo u3 (by rw [hu3.len]; omega)
                    rw [hP7] at kP7
                    clear hP7
                    have ho1 : bits .or .u64 (P4 : Int) (P5 : Int) = ((P4 ||| P5 : Nat) : Int) := u64_or_nat P4 P5 lP4 lP5
                    have ho2 : bits .or .u64 (P6 : Int) (P7 : Int) = ((P6 ||| P7 : Nat) : Int) := u64_or_nat P6 P7 lP6 lP7
                    have lo1 : P4 ||| P5 < 18446744073709551616 := Nat.or_lt_two_pow (n := 64) lP4 lP5
                    have lo2 : P6 ||| P7 < 18446744073709551616 := Nat.or_lt_two_pow (n := 64) lP6 lP7
                    have ho3 : bits .or .u64 ((P4 ||| P5 : Nat) : Int) ((P6 ||| P7 : Nat) : Int) = (((P4 ||| P5) ||| (P6 ||| P7) : Nat) : Int) := u64_or_nat _ _ lo1 lo2
                    have lo3 : (P4 ||| P5) ||| (P6 ||| P7) < 18446744073709551616 := Nat.or_lt_two_pow (n := 64) lo1 lo2
                    have hand3 : bits .and .u64 (((P4 ||| P5) ||| (P6 ||| P7) : Nat) : Int) 9259542123273814144 = ((((P4 ||| P5) ||| (P6 ||| P7)) &&& 9259542123273814144 : Nat) : Int) := u64_and_nat _ 9259542123273814144 lo3 (by omega)
                    have k3 : ((P4 ||| P5) ||| (P6 ||| P7)) &&& 9259542123273814144 = 0 → LoA u 32 := fun h0' => by
                      obtain ⟨e01, e23⟩ := (or_mask _ _ _).1 h0'
                      obtain ⟨e0, e1⟩ := (or_mask _ _ _).1 e01
                      obtain ⟨e2, e3⟩ := (or_mask _ _ _).1 e23
                      have s16 : LoA u 16 := lo_add u 8 8 (kP4.1 e0) (by rw [hu1e]; exact kP5.1 e1)
                      have s24 : LoA u 24 := lo_add u 16 8 s16 (by rw [hu2e]; exact kP6.1 e2)
                      exact lo_add u 24 8 s24 (by rw [hu3e]; exact kP7.1 e3)
                    obtain ⟨Y1, hY1⟩ : ∃ Y1, P4 ||| P5 = Y1 := ⟨_, rfl⟩
                    obtain ⟨Y2, hY2⟩ : ∃ Y2, P6 ||| P7 = Y2 := ⟨_, rfl⟩
                    rw [hY1, hY2] at ho3 hand3 k3
                    rw [hY1] at ho1
                    rw [hY2] at ho2
                    obtain ⟨Y3, hY3⟩ : ∃ Y3, Y1 ||| Y2 = Y3 := ⟨_, rfl⟩
                    rw [hY3] at ho3 hand3 k3
                    obtain ⟨Z3, hZ3⟩ : ∃ Z3, Y3 &&& 9259542123273814144 = Z3 := ⟨_, rfl⟩
                    rw [hZ3] at hand3 k3
                    clear kP4 kP5 kP6 kP7 lo1 lo2 lo3 hY1 hY2 hY3 hZ3 hu1 hu2 hu3 hu1e hu2e hu3e
                    by_cases hz3 : Z3 = 0
                    · have hz3b : ((Z3 : Int) == 0) = true := by simp [hz3]
                      have a32 := k3 hz3
                      obtain ⟨C4, m4, zm4, hu4, s4⟩ := hu.cutF 32 32 rfl (by omega)
                      have vu2 : validD (oct (u.drop 32)) = ANS := by rw [valid_lo u 32 a32]; exact vu
                      generalize u.drop 32 = u4 at *
                      clear k3 a32 vu hu
                      go_wp2_with fail
                      go_big_quiet (first | (go_at_call 106; with_reducible exact Calls.quiet_of (cP4 _ ((Ext.refl wr).drewN _))) | (go_at_call 106; with_reducible exact Calls.quiet_of (cP5 _ ((Ext.refl wr).drewN _))) | (go_at_call 106; with_reducible exact Calls.quiet_of (cP6 _ ((Ext.refl wr).drewN _))) | (go_at_call 106; with_reducible exact Calls.quiet_of (cP7 _ ((Ext.refl wr).drewN _))))
                      have hxq : Ext wr (wr.drewN nq) := (by (repeat (first | assumption | exact Ext.refl _ | apply Ext.drew | apply Ext.drewN | apply Ext.alloc | refine Ext.trans ?_ (by assumption))); first | done | fail)
                      go_wp2
                      go_roundg g3
                      case measure => omega
                      case rel => exact ⟨HU.out.trans hxq, C4, m4, u4, rfl, hu4.ext hxq, vu2, by omega, by omega⟩
                    · have hz3b : ((Z3 : Int) == 0) = false := by simp; omega
                      clear k3
                      go_wp2_with fail
                      go_big_quiet (first | (go_at_call 106; with_reducible exact Calls.quiet_of (cP4 _ ((Ext.refl wr).drewN _))) | (go_at_call 106; with_reducible exact Calls.quiet_of (cP5 _ ((Ext.refl wr).drewN _))) | (go_at_call 106; with_reducible exact Calls.quiet_of (cP6 _ ((Ext.refl wr).drewN _))) | (go_at_call 106; with_reducible exact Calls.quiet_of (cP7 _ ((Ext.refl wr).drewN _))))
                      have hxq : Ext wr (wr.drewN nq) := (by (repeat (first | assumption | exact Ext.refl _ | apply Ext.drew | apply Ext.drewN | apply Ext.alloc | refine Ext.trans ?_ (by assumption))); first | done | fail)
                      go_wp2
                      go_roundg g'
                      case measure => omega
                      case rel => exact ⟨(HW2.out.trans HU.out).trans hxq, C0, m, u, rfl, hu.ext hxq, vu, by omega⟩
                  · as_aux_lemma =>
                    have c32z : ¬ ((32 : Int) < (m : Int)) := by omega
                    have c32b : decide ((32 : Int) < (m : Int)) = false := decide_eq_false c32z
                    go_wp2_with fail
                    go_big_quiet (fail)
                    have hxq : Ext wr (wr.drewN nq) := (by (repeat (first | assumption | exact Ext.refl _ | apply Ext.drew | apply Ext.drewN | apply Ext.alloc | refine Ext.trans ?_ (by assumption))); first | done | fail)
                    go_wp2
                    go_roundg g'
                    case measure => omega
                    case rel => exact ⟨(HW2.out.trans HU.out).trans hxq, C0, m, u, rfl, hu.ext hxq, vu, by omega⟩
              · as_aux_lemma =>
                have hz2b : ((Z2 : Int) == 0) = false := by simp; omega
                clear k2
                go_big_quiet (first | (go_at_call 106; with_reducible exact Calls.quiet_of (cP2 _ ((Ext.refl wq).drewN _))) | (go_at_call 106; with_reducible exact Calls.quiet_of (cP3 _ ((Ext.refl wq).drewN _))))
                have hxq : Ext wq (wq.drewN nq) := (by (repeat (first | assumption | exact Ext.refl _ | apply Ext.drew | apply Ext.drewN | apply Ext.alloc | refine Ext.trans ?_ (by assumption))); first | done | fail)
                go_wp2
                go_roundg g'
                case measure => omega
                case rel => exact ⟨HW1.out.trans hxq, B2, n2, t2, rfl, hb2'.ext hxq, v2, by omega⟩
            · as_aux_lemma =>
              have c16z : ¬ ((16 : Int) < (n2 : Int)) := by omega
              have c16b : decide ((16 : Int) < (n2 : Int)) = false := decide_eq_false c16z
              go_big_quiet (fail)
              have hxq : Ext wq (wq.drewN nq) := (by (repeat (first | assumption | exact Ext.refl _ | apply Ext.drew | apply Ext.drewN | apply Ext.alloc | refine Ext.trans ?_ (by assumption))); first | done | fail)
              go_wp2
              go_roundg g'
              case measure => omega
              case rel => exact ⟨HW1.out.trans hxq, B2, n2, t2, rfl, hb2'.ext hxq, v2, by omega⟩
          · as_aux_lemma =>
            have hz1b : ((Z1 : Int) == 0) = false := by simp; omega
            clear kP1
            go_wp2_with (go_at_call 106; go_must (refine (cP1 _ (by (repeat (first | assumption | exact Ext.refl _ | apply Ext.drew | apply Ext.drewN | apply Ext.alloc | refine Ext.trans ?_ (by assumption))); first | done | fail)).mono ?_; rintro e W1 ⟨rfl, q1, rfl⟩))
            have hxq : Ext wr (wr.drewN q1) := (by (repeat (first | assumption | exact Ext.refl _ | apply Ext.drew | apply Ext.drewN | apply Ext.alloc | refine Ext.trans ?_ (by assumption))); first | done | fail)
            go_roundg g'
            case measure => omega
            case rel => exact ⟨HW.out.trans hxq, B1, n1, t1, rfl, hb1.ext hxq, v1, by omega⟩
        · as_aux_lemma =>
          have c8z : ¬ ((8 : Int) < (n1 : Int)) := by omega
          go_wp2
          go_roundg g'
          case measure => omega
          case rel => exact ⟨HW.out, B1, n1, t1, rfl, hb1, v1, by omega⟩
      · -- a byte from 128 on
        have hge : 128 ≤ x0 := by omega
        have hascz : ¬ ((x0 : Int) < 128) := by omega
        obtain ⟨x1, hx1⟩ : ∃ x1, (gb t 1).toNat = x1 := ⟨_, rfl⟩
        obtain ⟨x2, hx2⟩ : ∃ x2, (gb t 2).toNat = x2 := ⟨_, rfl⟩
        obtain ⟨x3, hx3⟩ : ∃ x3, (gb t 3).toNat = x3 := ⟨_, rfl⟩
        have l1 : x1 < 256 := hx1 ▸ (gb t 1).isLt
        have l2 : x2 < 256 := hx2 ▸ (gb t 2).isLt
        have l3 : x3 < 256 := hx3 ▸ (gb t 3).isLt
        have hlead := validD_lead (oct t) (fun h => by have := congrArg List.length h; rw [oct_len, hl] at this; simp at this; omega) (by rw [oct_getD, hx0]; exact hge)
        rw [oct_getD, oct_getD, oct_getD, oct_getD, hx0, hx1, hx2, hx3, oct_len, hl, hv] at hlead
        have kk1 : 1 < n → ∀ w', Ext wr w' → w'.cell? ⟨g, o + 1, none⟩ = some (.int .u8 (x1 : Int)) := fun h => by have := cell_lt8 (hc 1 h); unfold ub at this; rwa [hx1] at this
        have kk2 : 2 < n → ∀ w', Ext wr w' → w'.cell? ⟨g, o + 2, none⟩ = some (.int .u8 (x2 : Int)) := fun h => by have := cell_lt8 (hc 2 h); unfold ub at this; rwa [hx2] at this
        have kk3 : 3 < n → ∀ w', Ext wr w' → w'.cell? ⟨g, o + 3, none⟩ = some (.int .u8 (x3 : Int)) := fun h => by have := cell_lt8 (hc 3 h); unfold ub at this; rwa [hx3] at this
        have hc0 := hTr.1 x0 hx0lt
        have hXlt : firstT x0 < 256 := by rcases firstT_cases x0 with h | h | h | h | h | h | h | h | h <;> omega
        obtain ⟨X, hX⟩ : ∃ X, firstT x0 = X := ⟨_, rfl⟩
        rw [hX] at hc0 hXlt hlead
        have h7 := and7_ ⟨X, hXlt⟩
        simp only at h7
        have ha0 : wr.cell? ⟨2, X / 16 * 2, none⟩ = some (.int .u8 (accLo (X / 16))) := by rw [Nat.mul_comm]; exact (hTr.2 (X / 16) (by omega)).1
        have ha1 : wr.cell? ⟨2, X / 16 * 2 + 1, none⟩ = some (.int .u8 (accHi (X / 16))) := by rw [Nat.mul_comm]; exact (hTr.2 (X / 16) (by omega)).2
        obtain ⟨LO, hLO⟩ : ∃ LO, accLo (X / 16) = LO := ⟨_, rfl⟩
        obtain ⟨HI, hHI⟩ : ∃ HI, accHi (X / 16) = HI := ⟨_, rfl⟩
        rw [hLO] at ha0 hlead
        rw [hHI] at ha1 hlead
        obtain ⟨SZ, hSZ⟩ : ∃ SZ, X % 8 = SZ := ⟨_, rfl⟩
        rw [hSZ] at hlead
        clear hTr hX hv hLO hHI hc hx1 hx2 hx3 hx0
        have HBT := Kp.mk hbt
        clear hbt
        by_cases s2 : SZ = 2
        · as_aux_lemma =>
          subst s2
          have hSZz : (X : Int) % 8 = 2 := by omega
          simp only [checkN, Nat.reduceEqDiff, if_true, if_false] at hlead
          go_upto_region 18 with fail
          go_cut [103] from 85 to 103 (fun c wx => c = .bool (decide (n < 2 ∨ x1 < LO ∨ HI < x1)) ∧ Ext wr wx)
          case first =>
            by_cases q0 : n < 2
            · have q0z : (n : Int) < 2 := by omega
              go_big_quiet (fail)
              go_wp2
              go_meet
              exact ⟨congrArg Value.bool (decide_eq_true (p := n < 2 ∨ x1 < LO ∨ HI < x1) (by omega)).symm, (by (repeat (first | assumption | exact Ext.refl _ | apply Ext.drew | apply Ext.drewN | apply Ext.alloc | refine Ext.trans ?_ (by assumption))); first | done | fail)⟩
            · have q0z : ¬ ((n : Int) < 2) := by omega
              have hz1 : (1 : Int) < (n : Int) := by omega
              have ck1 := kk1 (by omega)
              by_cases q1 : x1 < LO
              · have q1z : ((x1 : Int) < (LO : Int)) := by omega
                go_big_quiet (fail)
                go_wp2
                go_meet
                exact ⟨congrArg Value.bool (decide_eq_true (p := n < 2 ∨ x1 < LO ∨ HI < x1) (by omega)).symm, (by (repeat (first | assumption | exact Ext.refl _ | apply Ext.drew | apply Ext.drewN | apply Ext.alloc | refine Ext.trans ?_ (by assumption))); first | done | fail)⟩
              · have q1z : ¬ ((x1 : Int) < (LO : Int)) := by omega
                by_cases q2 : HI < x1
                · have q2z : ((HI : Int) < (x1 : Int)) := by omega
                  go_big_quiet (fail)
                  go_wp2
                  go_meet
                  exact ⟨congrArg Value.bool (decide_eq_true (p := n < 2 ∨ x1 < LO ∨ HI < x1) (by omega)).symm, (by (repeat (first | assumption | exact Ext.refl _ | apply Ext.drew | apply Ext.drewN | apply Ext.alloc | refine Ext.trans ?_ (by assumption))); first | done | fail)⟩
                · have q2z : ¬ ((HI : Int) < (x1 : Int)) := by omega
                  go_big_quiet (fail)
                  go_wp2
                  go_meet
                  exact ⟨congrArg Value.bool (decide_eq_false (p := n < 2 ∨ x1 < LO ∨ HI < x1) (by omega)).symm, (by (repeat (first | assumption | exact Ext.refl _ | apply Ext.drew | apply Ext.drewN | apply Ext.alloc | refine Ext.trans ?_ (by assumption))); first | done | fail)⟩
          case rest =>
            obtain ⟨rfl, hbc⟩ := hcut
            by_cases hb : n < 2 ∨ x1 < LO ∨ HI < x1
            · have hbd : decide (n < 2 ∨ x1 < LO ∨ HI < x1) = true := decide_eq_true hb
              rw [if_pos hb] at hlead
              go_wp2
              all_goals (go_ret; exact ⟨by first | rfl | rw [hlead], HW.out.trans hbc⟩)
            · have hbd : decide (n < 2 ∨ x1 < LO ∨ HI < x1) = false := decide_eq_false hb
              rw [if_neg hb] at hlead
              obtain ⟨B1, n1, z1, hb1, r1⟩ := HBT.out.cutF 2 2 rfl (by omega)
              have v1 : validD (oct (t.drop 2)) = ANS := by rw [oct_drop]; exact hlead.symm
              go_wp2
              go_roundg g'
              case measure => omega
              case rel => exact ⟨HW.out.trans hbc, B1, n1, _, rfl, hb1.ext hbc, v1, by omega⟩
        by_cases s3 : SZ = 3
        · as_aux_lemma =>
          subst s3
          have hSZz : (X : Int) % 8 = 3 := by omega
          simp only [checkN, Nat.reduceEqDiff, if_true, if_false] at hlead
          go_upto_region 22 with fail
          go_cut [138] from 108 to 138 (fun c wx => c = .bool (decide (n < 3 ∨ x1 < LO ∨ HI < x1 ∨ x2 < 128 ∨ 191 < x2)) ∧ Ext wr wx)
          case first =>
            by_cases q0 : n < 3
            · have q0z : (n : Int) < 3 := by omega
              go_big_quiet (fail)
              go_wp2
              go_meet
              exact ⟨congrArg Value.bool (decide_eq_true (p := n < 3 ∨ x1 < LO ∨ HI < x1 ∨ x2 < 128 ∨ 191 < x2) (by omega)).symm, (by (repeat (first | assumption | exact Ext.refl _ | apply Ext.drew | apply Ext.drewN | apply Ext.alloc | refine Ext.trans ?_ (by assumption))); first | done | fail)⟩
            · have q0z : ¬ ((n : Int) < 3) := by omega
              have hz1 : (1 : Int) < (n : Int) := by omega
              have ck1 := kk1 (by omega)
              have hz2 : (2 : Int) < (n : Int) := by omega
              have ck2 := kk2 (by omega)
              by_cases q1 : x1 < LO
              · have q1z : ((x1 : Int) < (LO : Int)) := by omega
                go_big_quiet (fail)
                go_wp2
                go_meet
                exact ⟨congrArg Value.bool (decide_eq_true (p := n < 3 ∨ x1 < LO ∨ HI < x1 ∨ x2 < 128 ∨ 191 < x2) (by omega)).symm, (by (repeat (first | assumption | exact Ext.refl _ | apply Ext.drew | apply Ext.drewN | apply Ext.alloc | refine Ext.trans ?_ (by assumption))); first | done | fail)⟩
              · have q1z : ¬ ((x1 : Int) < (LO : Int)) := by omega
                by_cases q2 : HI < x1
                · have q2z : ((HI : Int) < (x1 : Int)) := by omega
                  go_big_quiet (fail)
                  go_wp2
                  go_meet
                  exact ⟨congrArg Value.bool (decide_eq_true (p := n < 3 ∨ x1 < LO ∨ HI < x1 ∨ x2 < 128 ∨ 191 < x2) (by omega)).symm, (by (repeat (first | assumption | exact Ext.refl _ | apply Ext.drew | apply Ext.drewN | apply Ext.alloc | refine Ext.trans ?_ (by assumption))); first | done | fail)⟩
                · have q2z : ¬ ((HI : Int) < (x1 : Int)) := by omega
                  by_cases q3 : x2 < 128
                  · have q3z : ((x2 : Int) < 128) := by omega
                    go_big_quiet (fail)
                    go_wp2
                    go_meet
                    exact ⟨congrArg Value.bool (decide_eq_true (p := n < 3 ∨ x1 < LO ∨ HI < x1 ∨ x2 < 128 ∨ 191 < x2) (by omega)).symm, (by (repeat (first | assumption | exact Ext.refl _ | apply Ext.drew | apply Ext.drewN | apply Ext.alloc | refine Ext.trans ?_ (by assumption))); first | done | fail)⟩
                  · have q3z : ¬ ((x2 : Int) < 128) := by omega
                    by_cases q4 : 191 < x2
                    · have q4z : ((191 : Int) < (x2 : Int)) := by omega
                      go_big_quiet (fail)
                      go_wp2
                      go_meet
                      exact ⟨congrArg Value.bool (decide_eq_true (p := n < 3 ∨ x1 < LO ∨ HI < x1 ∨ x2 < 128 ∨ 191 < x2) (by omega)).symm, (by (repeat (first | assumption | exact Ext.refl _ | apply Ext.drew | apply Ext.drewN | apply Ext.alloc | refine Ext.trans ?_ (by assumption))); first | done | fail)⟩
                    · have q4z : ¬ ((191 : Int) < (x2 : Int)) := by omega
                      go_big_quiet (fail)
                      go_wp2
                      go_meet
                      exact ⟨congrArg Value.bool (decide_eq_false (p := n < 3 ∨ x1 < LO ∨ HI < x1 ∨ x2 < 128 ∨ 191 < x2) (by omega)).symm, (by (repeat (first | assumption | exact Ext.refl _ | apply Ext.drew | apply Ext.drewN | apply Ext.alloc | refine Ext.trans ?_ (by assumption))); first | done | fail)⟩
          case rest =>
            obtain ⟨rfl, hbc⟩ := hcut
            by_cases hb : n < 3 ∨ x1 < LO ∨ HI < x1 ∨ x2 < 128 ∨ 191 < x2
            · have hbd : decide (n < 3 ∨ x1 < LO ∨ HI < x1 ∨ x2 < 128 ∨ 191 < x2) = true := decide_eq_true hb
              rw [if_pos hb] at hlead
              go_wp2
              all_goals (go_ret; exact ⟨by first | rfl | rw [hlead], HW.out.trans hbc⟩)
            · have hbd : decide (n < 3 ∨ x1 < LO ∨ HI < x1 ∨ x2 < 128 ∨ 191 < x2) = false := decide_eq_false hb
              rw [if_neg hb] at hlead
              obtain ⟨B1, n1, z1, hb1, r1⟩ := HBT.out.cutF 3 3 rfl (by omega)
              have v1 : validD (oct (t.drop 3)) = ANS := by rw [oct_drop]; exact hlead.symm
              go_wp2
              go_roundg g'
              case measure => omega
              case rel => exact ⟨HW.out.trans hbc, B1, n1, _, rfl, hb1.ext hbc, v1, by omega⟩
        by_cases s4 : SZ = 4
        · as_aux_lemma =>
          subst s4
          have hSZz : (X : Int) % 8 = 4 := by omega
          simp only [checkN, Nat.reduceEqDiff, if_true, if_false] at hlead
          go_upto_region 26 with fail
          go_cut [185] from 143 to 185 (fun c wx => c = .bool (decide (n < 4 ∨ x1 < LO ∨ HI < x1 ∨ x2 < 128 ∨ 191 < x2 ∨ x3 < 128 ∨ 191 < x3)) ∧ Ext wr wx)
          case first =>
            by_cases q0 : n < 4
            · have q0z : (n : Int) < 4 := by omega
              go_big_quiet (fail)
              go_wp2
              go_meet
              exact ⟨congrArg Value.bool (decide_eq_true (p := n < 4 ∨ x1 < LO ∨ HI < x1 ∨ x2 < 128 ∨ 191 < x2 ∨ x3 < 128 ∨ 191 < x3) (by omega)).symm, (by (repeat (first | assumption | exact Ext.refl _ | apply Ext.drew | apply Ext.drewN | apply Ext.alloc | refine Ext.trans ?_ (by assumption))); first | done | fail)⟩
            · have q0z : ¬ ((n : Int) < 4) := by omega
              have hz1 : (1 : Int) < (n : Int) := by omega
              have ck1 := kk1 (by omega)
              have hz2 : (2 : Int) < (n : Int) := by omega
              have ck2 := kk2 (by omega)
              have hz3 : (3 : Int) < (n : Int) := by omega
              have ck3 := kk3 (by omega)
              by_cases q1 : x1 < LO
              · have q1z : ((x1 : Int) < (LO : Int)) := by omega
                go_big_quiet (fail)
                go_wp2
                go_meet
                exact ⟨congrArg Value.bool (decide_eq_true (p := n < 4 ∨ x1 < LO ∨ HI < x1 ∨ x2 < 128 ∨ 191 < x2 ∨ x3 < 128 ∨ 191 < x3) (by omega)).symm, (by (repeat (first | assumption | exact Ext.refl _ | apply Ext.drew | apply Ext.drewN | apply Ext.alloc | refine Ext.trans ?_ (by assumption))); first | done | fail)⟩
              · have q1z : ¬ ((x1 : Int) < (LO : Int)) := by omega
                by_cases q2 : HI < x1
                · have q2z : ((HI : Int) < (x1 : Int)) := by omega
                  go_big_quiet (fail)
                  go_wp2
                  go_meet
                  exact ⟨congrArg Value.bool (decide_eq_true (p := n < 4 ∨ x1 < LO ∨ HI < x1 ∨ x2 < 128 ∨ 191 < x2 ∨ x3 < 128 ∨ 191 < x3) (by omega)).symm, (by (repeat (first | assumption | exact Ext.refl _ | apply Ext.drew | apply Ext.drewN | apply Ext.alloc | refine Ext.trans ?_ (by assumption))); first | done | fail)⟩
                · have q2z : ¬ ((HI : Int) < (x1 : Int)) := by omega
                  by_cases q3 : x2 < 128
                  · have q3z : ((x2 : Int) < 128) := by omega
                    go_big_quiet (fail)
                    go_wp2
                    go_meet
                    exact ⟨congrArg Value.bool (decide_eq_true (p := n < 4 ∨ x1 < LO ∨ HI < x1 ∨ x2 < 128 ∨ 191 < x2 ∨ x3 < 128 ∨ 191 < x3) (by omega)).symm, (by (repeat (first | assumption | exact Ext.refl _ | apply Ext.drew | apply Ext.drewN | apply Ext.alloc | refine Ext.trans ?_ (by assumption))); first | done | fail)⟩
                  · have q3z : ¬ ((x2 : Int) < 128) := by omega
                    by_cases q4 : 191 < x2
                    · have q4z : ((191 : Int) < (x2 : Int)) := by omega
                      go_big_quiet (fail)
                      go_wp2
                      go_meet
                      exact ⟨congrArg Value.bool (decide_eq_true (p := n < 4 ∨ x1 < LO ∨ HI < x1 ∨ x2 < 128 ∨ 191 < x2 ∨ x3 < 128 ∨ 191 < x3) (by omega)).symm, (by (repeat (first | assumption | exact Ext.refl _ | apply Ext.drew | apply Ext.drewN | apply Ext.alloc | refine Ext.trans ?_ (by assumption))); first | done | fail)⟩
                    · have q4z : ¬ ((191 : Int) < (x2 : Int)) := by omega
                      by_cases q5 : x3 < 128
                      · have q5z : ((x3 : Int) < 128) := by omega
                        go_big_quiet (fail)
                        go_wp2
                        go_meet
                        exact ⟨congrArg Value.bool (decide_eq_true (p := n < 4 ∨ x1 < LO ∨ HI < x1 ∨ x2 < 128 ∨ 191 < x2 ∨ x3 < 128 ∨ 191 < x3) (by omega)).symm, (by (repeat (first | assumption | exact Ext.refl _ | apply Ext.drew | apply Ext.drewN | apply Ext.alloc | refine Ext.trans ?_ (by assumption))); first | done | fail)⟩
                      · have q5z : ¬ ((x3 : Int) < 128) := by omega
                        by_cases q6 : 191 < x3
                        · have q6z : ((191 : Int) < (x3 : Int)) := by omega
                          go_big_quiet (fail)
                          go_wp2
                          go_meet
                          exact ⟨congrArg Value.bool (decide_eq_true (p := n < 4 ∨ x1 < LO ∨ HI < x1 ∨ x2 < 128 ∨ 191 < x2 ∨ x3 < 128 ∨ 191 < x3) (by omega)).symm, (by (repeat (first | assumption | exact Ext.refl _ | apply Ext.drew | apply Ext.drewN | apply Ext.alloc | refine Ext.trans ?_ (by assumption))); first | done | fail)⟩
                        · have q6z : ¬ ((191 : Int) < (x3 : Int)) := by omega
                          go_big_quiet (fail)
                          go_wp2
                          go_meet
                          exact ⟨congrArg Value.bool (decide_eq_false (p := n < 4 ∨ x1 < LO ∨ HI < x1 ∨ x2 < 128 ∨ 191 < x2 ∨ x3 < 128 ∨ 191 < x3) (by omega)).symm, (by (repeat (first | assumption | exact Ext.refl _ | apply Ext.drew | apply Ext.drewN | apply Ext.alloc | refine Ext.trans ?_ (by assumption))); first | done | fail)⟩
          case rest =>
            obtain ⟨rfl, hbc⟩ := hcut
            by_cases hb : n < 4 ∨ x1 < LO ∨ HI < x1 ∨ x2 < 128 ∨ 191 < x2 ∨ x3 < 128 ∨ 191 < x3
            · have hbd : decide (n < 4 ∨ x1 < LO ∨ HI < x1 ∨ x2 < 128 ∨ 191 < x2 ∨ x3 < 128 ∨ 191 < x3) = true := decide_eq_true hb
              rw [if_pos hb] at hlead
              go_wp2
              all_goals (go_ret; exact ⟨by first | rfl | rw [hlead], HW.out.trans hbc⟩)
            · have hbd : decide (n < 4 ∨ x1 < LO ∨ HI < x1 ∨ x2 < 128 ∨ 191 < x2 ∨ x3 < 128 ∨ 191 < x3) = false := decide_eq_false hb
              rw [if_neg hb] at hlead
              obtain ⟨B1, n1, z1, hb1, r1⟩ := HBT.out.cutF 4 4 rfl (by omega)
              have v1 : validD (oct (t.drop 4)) = ANS := by rw [oct_drop]; exact hlead.symm
              go_wp2
              go_roundg g'
              case measure => omega
              case rel => exact ⟨HW.out.trans hbc, B1, n1, _, rfl, hb1.ext hbc, v1, by omega⟩
        · as_aux_lemma =>
          have e2 : ¬ ((X : Int) % 8 = 2) := by omega
          have e3 : ¬ ((X : Int) % 8 = 3) := by omega
          have e4 : ¬ ((X : Int) % 8 = 4) := by omega
          have e2b : (((X : Int) % 8) == 2) = false := by simp; omega
          have e3b : (((X : Int) % 8) == 3) = false := by simp; omega
          have e4b : (((X : Int) % 8) == 4) = false := by simp; omega
          simp only [checkN, s2, s3, s4, if_false] at hlead
          go_wp2
          all_goals (go_ret; exact ⟨by first | rfl | rw [hlead], HW.out.alloc _⟩)
    · as_aux_lemma =>
      obtain rfl : n = 0 := by omega
      have ht0 : t = [] := List.eq_nil_of_length_eq_zero hl
      rw [ht0] at hv
      have hv' : ANS = true := hv.symm
      subst hv'
      have h0z : ¬ ((0 : Int) < ((0 : Nat) : Int)) := by omega
      go_wp2
      go_ret
      exact ⟨rfl, HW.out⟩
end Go.Proofs.YthookcnkmlmgcaaGreatDoor
