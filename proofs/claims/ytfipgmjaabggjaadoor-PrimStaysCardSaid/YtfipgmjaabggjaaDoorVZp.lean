/-
  The walk of the law PrimStays.
-/
import Derived.Test.YtfipgmjaabggjaaDoorVZo
namespace Go.Proofs.YtfipgmjaabggjaaDoor
open Go Go.RowKit
set_option maxRecDepth 4000

set_option maxHeartbeats 16000000 in
theorem PrimStays_any {la : List Nat} {A0 : Option Addr} {a0 d0 : Nat} {w : World} (hA : Rd vL w A0 a0 d0 la) (hAd : Dg BB la) {b : List (BitVec 8)} {B : Option Addr} {m e0 : Nat} (hb : Bs w B m e0 b) {ps : List SP} {A2 : Option Addr} {n2 c2 : Nat} (hP : Sls w A2 n2 c2 ps) :
    Calls Tryd.prog 6 #[.slice A0 a0 d0, .slice B m e0, .slice A2 n2 c2] w fun e w' => e = .returned (.bool true) ∧ Below w.heap.size w w' := by
  have HA := Kp.mk hA
  have HAd := Kp.mk hAd
  have HB := Kp.mk hb
  have HP := Kp.mk hP
  clear hA hAd hb hP
  by_cases h60 : 60 < a0
  · as_aux_lemma =>
    have bz : decide ((60 : Int) < (a0 : Int)) = true := decide_eq_true (by omega)
    clear h60
    go_enter Tryd.func6, Tryd.ntmps6
    go_wp2_with fail
    refine (up8 _).mono ?_
    rintro e w1 ⟨rfl, x1⟩
    have X1 := Kp.mk x1
    clear x1
    go_wp2_with fail
    go_ret
    exact ⟨rfl, X1.out.b⟩
  have b_h60 : decide ((60 : Int) < (a0 : Int)) = false := decide_eq_false (by omega)
  by_cases h300 : 300 < m
  · as_aux_lemma =>
    have bz : decide ((300 : Int) < (m : Int)) = true := decide_eq_true (by omega)
    clear h300
    go_enter Tryd.func6, Tryd.ntmps6
    go_wp2_with fail
    refine (up8 _).mono ?_
    rintro e w1 ⟨rfl, x1⟩
    have X1 := Kp.mk x1
    clear x1
    go_wp2_with fail
    go_ret
    exact ⟨rfl, X1.out.b⟩
  have b_h300 : decide ((300 : Int) < (m : Int)) = false := decide_eq_false (by omega)
  by_cases h30 : 30 < n2
  · as_aux_lemma =>
    have bz : decide ((30 : Int) < (n2 : Int)) = true := decide_eq_true (by omega)
    clear h30
    go_enter Tryd.func6, Tryd.ntmps6
    go_wp2_with fail
    refine (up8 _).mono ?_
    rintro e w1 ⟨rfl, x1⟩
    have X1 := Kp.mk x1
    clear x1
    go_wp2_with fail
    go_ret
    exact ⟨rfl, X1.out.b⟩
  have b_h30 : decide ((30 : Int) < (n2 : Int)) = false := decide_eq_false (by omega)
  have HNv := Kp.mk (Nv.small HA.out HAd.out (by omega))
  have hvb := vl_len HA.out HAd.out
  obtain ⟨v, hv⟩ : ∃ v, vl BB la = v := ⟨_, rfl⟩
  rw [hv] at HNv hvb
  have HSh := Kp.mk (short_of (Nat.lt_of_lt_of_le hvb (Nat.pow_le_pow_right (by decide) (show a0 ≤ 60 by omega))) (by decide))
  have hm : m ≤ 300 := by omega
  have hn2 : n2 ≤ 30 := by omega
  have hbl : b.length ≤ 300 := by rw [HB.out.len]; exact hm
  obtain ⟨EB, DB, LB, uB, hEB, hLB, hbits⟩ := bits_all b hbl
  obtain ⟨EN, DN, VN, hEN, hVN, hbig⟩ := big_all b (by omega)
  obtain ⟨EO, DO, LO, hEO, hLO, hoid⟩ := oid_all b
  have KEB := Kp.mk hEB
  have KEN := Kp.mk hEN
  have KEO := Kp.mk hEO
  have hVN2 : VN < BB ^ 64 := by
    rw [show BB = 256 ^ 4 by decide, ← Nat.pow_mul]
    exact hVN
  have KVN := Kp.mk hVN2
  have KSN := Kp.mk (short_of hVN2 (Nat.le_refl _))
  have KBits := Kp.mk (fun (w : World) (A : Option Addr) (n c : Nat) (h : Bs w A n c b) => hbits h)
  have KBig := Kp.mk (fun (w : World) (A : Option Addr) (n c : Nat) (h : Bs w A n c b) => hbig h)
  have KOid := Kp.mk (fun (w : World) (A : Option Addr) (n c : Nat) (h : Bs w A n c b) => hoid h)
  clear h60 h300 h30 hv hvb HA HAd hbl hEB hbits hEN hVN hVN2 hbig hEO hoid
  generalize LB.length = NB at *
  generalize hNO : LO.length = NO at *
  have KNO := Kp.mk hNO
  clear hNO
  go_enter Tryd.func6, Tryd.ntmps6
  go_wp2_with fail
  refine (up8 _).mono ?_
  rintro e w1 ⟨rfl, x1⟩
  have X1 := Kp.mk x1
  clear x1
  have hb1 := HB.out.ext X1.out
  have hx1 : Ext w1 (w1.alloc (.cells (bv []) 5)) := (by (repeat (first | assumption | exact Ext.refl _ | apply Ext.drew | apply Ext.drewN | apply Ext.alloc | refine Ext.trans ?_ (by assumption))); first | done | fail)
  have hb1' := hb1.ext hx1
  have ho1 := Own.new w1 w1.heap.size 0 [] rfl (Nat.le_refl _) (Nat.zero_le _)
  go_upto_region 5 with (first | (at_builtin; refine wpList_append_bs rfl (.tmp 47) (.tmp 48) rfl w1.heap.size _ 0 [] rfl ho1 B m e0 b rfl hb1' (by omega) m (by omega) b rfl w1 hx1 (Nat.le_refl _) hx1.size ?_; intro Ao co w2 ho2 hx2 hap2) | fail)
  have X12 := Kp.mk hx2
  have O2 := Kp.mk ho2
  have X2 := Kp.mk (X1.out.trans hx2)
  clear hb1 hx1 hb1' ho1 hx2 ho2 hap2
  have hx1 : Ext w2 (w2.alloc (.cells #[] 24)) := (by (repeat (first | assumption | exact Ext.refl _ | apply Ext.drew | apply Ext.drewN | apply Ext.alloc | refine Ext.trans ?_ (by assumption))); first | done | fail)
  have hr2 : Rw 24 sv (w2.alloc (.cells #[] 24)) w2.heap.size (.slice (some ⟨w2.heap.size, 0, none⟩) 0 0) 0 [] := Rw.has (l := []) (e := sv) (T := 24) (Has.new w2 24 #[] _ rfl) rfl (Nat.le_refl _) (Nat.zero_le _)
  have hl2 := (HP.out.ext (X2.out.trans hx1)).rd
  go_upto_region 6 with (first | (at_builtin; refine wpList_append_rd 67 (.slice none 0 0) 24 Tryd.underlying67 inSl rfl (by decide) (fun _ => rfl) rfl (.tmp 50) (.tmp 51) rfl w2.heap.size _ 0 [] rfl hr2 A2 n2 c2 (ps.map Prod.fst) rfl hl2 (by omega) n2 (by omega) (ps.map Prod.fst) rfl w2 hx1 (Nat.le_refl _) hx1.size ?_; intro Al cl w3 rl3 hx3 hap3) | fail)
  have X3 := Kp.mk (X2.out.trans hx3)
  have X13 := Kp.mk (X12.out.trans hx3)
  have X23 := Kp.mk hx3
  have HLs := Kp.mk (Sls.of_rd rl3.rd (fun p hp => (HP.out.bs p hp).ext X3.out))
  clear hx1 hr2 hl2 hx3 hap3 rl3
  go_wp2_with fail
  refine (KBits.out _ _ _ _ (O2.out.bs.ext X23.out)).mono ?_
  rintro e w4 ⟨A4, c4, rfl, o4, x4⟩
  have HB4 := Kp.mk (Blk.new w4 bit #[.slice A4 NB c4, .int .i64 uB])
  have O4 := Kp.mk o4
  have hx4 : Ext w4 (w4.alloc (.cells #[.slice A4 NB c4, .int .i64 uB] bit)) := (by (repeat (first | assumption | exact Ext.refl _ | apply Ext.drew | apply Ext.drewN | apply Ext.alloc | refine Ext.trans ?_ (by assumption))); first | done | fail)
  have X34 := Kp.mk (x4.trans hx4)
  have X44 := Kp.mk hx4
  have hs34 := x4.size
  clear x4 hx4 o4
  go_wp2_with fail
  refine (KBig.out _ _ _ _ (O2.out.bs.ext (X23.out.trans X34.out))).mono ?_
  rintro e w5 ⟨A5, n5, c5, rfl, r5, x5⟩
  have R5 := Kp.mk r5
  have X45 := Kp.mk x5
  clear r5 x5
  go_wp2_with fail
  refine (KOid.out _ _ _ _ (O2.out.bs.ext ((X23.out.trans X34.out).trans X45.out))).mono ?_
  rintro e w6 ⟨A6, c6, rfl, r6, x6⟩
  have R6 := Kp.mk r6
  have X56 := Kp.mk x6
  clear r6 x6
  have X36 := Kp.mk (X34.out.trans (X45.out.trans X56.out))
  go_wp2_with fail
  refine (Sorted_any (HLs.out.ext X36.out) (by omega)).mono ?_
  rintro e w7 ⟨A7, c7, qs, rfl, _, _, _, x7⟩
  have X67 := Kp.mk x7
  have X37 := Kp.mk (X36.out.trans x7)
  clear x7
  have X27 := Kp.mk (X23.out.trans X37.out)
  have X7 := Kp.mk (X3.out.trans X37.out)
  have S1 := (O2.out.bs.ext X27.out).str (Ext.refl _)
  have S2 := (HB.out.ext X7.out).str (Ext.refl _)
  go_wp2_with fail
  clear S1 S2
  go_loopw [18] (fun iv wr => ∃ i : Nat, i ≤ n2 ∧ iv = .int .i64 (i : Int) ∧ Ext w7 wr) (fun i _ => n2 - (intOf i).toNat)
  case atStart => exact ⟨0, Nat.zero_le _, rfl, Ext.refl _⟩
  case round =>
    obtain ⟨i, hi, rfl, hxr⟩ := hrel
    have XR := Kp.mk hxr
    clear hxr
    by_cases hlt : i < n2
    · as_aux_lemma =>
      obtain ⟨g, o, X, mx, dx, x, rfl, ⟨p, hp, hpx⟩, ci, bi⟩ := (HLs.out.ext (X37.out.trans XR.out)).at' i hlt
      obtain ⟨g2, o2, Y, my, dy, x', rfl, ⟨p2, hp2, hpx2⟩, ci2, bi2⟩ := (HP.out.ext (X7.out.trans XR.out)).at' i hlt
      rw [hp] at hp2
      cases hp2
      rw [hpx] at hpx2
      subst hpx2
      have b0 : (i : Int) < (n2 : Int) := by omega
      have l1 := cell_lz ci
      have l2 := cell_lz ci2
      have B1 := Kp.mk bi
      have B2 := Kp.mk bi2
      have h1 := fun (w' : World) (hx : Ext wr w') => (B1.out.ext hx).str (Ext.refl _)
      have h2 := fun (w' : World) (hx : Ext wr w') => (B2.out.ext hx).str (Ext.refl _)
      clear hp hpx bi bi2 ci ci2
      go_wp2_with fail
      refine wp_region_held_drew (S := fun w' => Ext wr w') (by kernel_rfl) (Ext.refl wr).drew (fun hHeld => ?_)
      refine wpAnyH_take (i := 0) (oi := ⟨some 88, _, _, _, _, _⟩) (v := ?_) rfl (by kernel_rfl) (by kernel_rfl) (by kernel_rfl) (fun _ _ _ h => h) (Or.inl ⟨by rfl, ?_⟩) (by assumption) ?_
      rotate_left
      · (intro w hSw; (try dsimp only at hSw); go_simp; try with_reducible rfl)
      try simp only [Act.put, List.setIfInBounds_toArray, List.set_cons_zero, List.set_cons_succ]
      refine wpAnyH_take (i := 1) (oi := ⟨some 89, _, _, _, _, _⟩) (v := ?_) rfl (by kernel_rfl) (by kernel_rfl) (by kernel_rfl) (fun _ _ _ h => h) (Or.inl ⟨by rfl, ?_⟩) (by assumption) ?_
      rotate_left
      · (intro w hSw; (try dsimp only at hSw); go_simp; try with_reducible rfl)
      try simp only [Act.put, List.setIfInBounds_toArray, List.set_cons_zero, List.set_cons_succ]
      refine wpAnyH_take (i := 2) (oi := ⟨some 90, _, _, _, _, _⟩) (v := ?_) rfl (by kernel_rfl) (by kernel_rfl) (by kernel_rfl) (fun _ _ _ h => h) (Or.inl ⟨by rfl, ?_⟩) (by assumption) ?_
      rotate_left
      · (intro w hSw; (try dsimp only at hSw); go_simp; try with_reducible rfl)
      try simp only [Act.put, List.setIfInBounds_toArray, List.set_cons_zero, List.set_cons_succ]
      refine wpAnyH_take (i := 3) (oi := ⟨some 91, _, _, _, _, _⟩) (v := ?_) rfl (by kernel_rfl) (by kernel_rfl) (by kernel_rfl) (fun _ _ _ h => h) (Or.inl ⟨by rfl, ?_⟩) (by assumption) ?_
      rotate_left
      · (intro w hSw; (try dsimp only at hSw); go_simp; try with_reducible rfl)
      try simp only [Act.put, List.setIfInBounds_toArray, List.set_cons_zero, List.set_cons_succ]
      refine wpAnyH_take (i := 4) (oi := ⟨some 92, _, _, _, _, _⟩) (v := ?_) rfl (by kernel_rfl) (by kernel_rfl) (by kernel_rfl) (fun _ _ _ h => h) (Or.inl ⟨by rfl, ?_⟩) (by assumption) ?_
      rotate_left
      · (intro w hSw; (try dsimp only at hSw); go_simp; try with_reducible rfl)
      try simp only [Act.put, List.setIfInBounds_toArray, List.set_cons_zero, List.set_cons_succ]
      refine wpAnyH_take (i := 5) (oi := ⟨some 93, _, _, _, _, _⟩) (v := ?_) rfl (by kernel_rfl) (by kernel_rfl) (by kernel_rfl) (fun _ _ _ h => h) (Or.inl ⟨by rfl, ?_⟩) (by assumption) ?_
      rotate_left
      · (intro w hSw; (try dsimp only at hSw); go_simp; try with_reducible rfl)
      try simp only [Act.put, List.setIfInBounds_toArray, List.set_cons_zero, List.set_cons_succ]
      refine wpAnyH_take (i := 6) (oi := ⟨some 94, _, _, _, _, _⟩) (v := ?_) rfl (by kernel_rfl) (by kernel_rfl) (by kernel_rfl) (fun _ _ _ h => h) (Or.inl ⟨by rfl, ?_⟩) (by assumption) ?_
      rotate_left
      · (intro w hSw; (try dsimp only at hSw); go_simp; try with_reducible rfl)
      try simp only [Act.put, List.setIfInBounds_toArray, List.set_cons_zero, List.set_cons_succ]
      refine wpAnyH_take (i := 7) (oi := ⟨some 95, _, _, _, _, _⟩) (v := ?_) rfl (by kernel_rfl) (by kernel_rfl) (by kernel_rfl) (fun _ _ _ h => h) (Or.inl ⟨by rfl, ?_⟩) (by assumption) ?_
      rotate_left
      · (intro w hSw; (try dsimp only at hSw); go_simp; try with_reducible rfl)
      try simp only [Act.put, List.setIfInBounds_toArray, List.set_cons_zero, List.set_cons_succ]
      refine wpAnyH_take (i := 8) (oi := ⟨some 96, _, _, _, _, _⟩) (v := ?_) rfl (by kernel_rfl) (by kernel_rfl) (by kernel_rfl) (fun _ _ _ h => h) (Or.inl ⟨by rfl, ?_⟩) (by assumption) ?_
      rotate_left
      · (intro w hSw; (try dsimp only at hSw); go_simp; try with_reducible rfl)
      try simp only [Act.put, List.setIfInBounds_toArray, List.set_cons_zero, List.set_cons_succ]
      refine wpAnyH_take (i := 9) (oi := ⟨some 97, _, _, _, _, _⟩) (v := ?_) rfl (by kernel_rfl) (by kernel_rfl) (by kernel_rfl) (fun _ _ _ h => h) (Or.inl ⟨by rfl, ?_⟩) (by assumption) ?_
      rotate_left
      · (intro w hSw; (try dsimp only at hSw); go_simp; try with_reducible rfl)
      try simp only [Act.put, List.setIfInBounds_toArray, List.set_cons_zero, List.set_cons_succ]
      refine wpAnyH_take (i := 10) (oi := ⟨some 98, _, _, _, _, _⟩) (v := ?_) rfl (by kernel_rfl) (by kernel_rfl) (by kernel_rfl) (fun _ _ _ h => h) (Or.inl ⟨by rfl, ?_⟩) (by assumption) ?_
      rotate_left
      · (intro w hSw; (try dsimp only at hSw); go_simp; try with_reducible rfl)
      try simp only [Act.put, List.setIfInBounds_toArray, List.set_cons_zero, List.set_cons_succ]
      refine wpAnyH_done (by kernel_rfl) ?_ _
      clear l1 l2 h1 h2
      go_wp2_with fail
      go_roundw
      case rel => exact ⟨i + 1, by omega, by go_num, XR.out.trans (by (repeat (first | assumption | exact Ext.refl _ | apply Ext.drew | apply Ext.drewN | apply Ext.alloc | refine Ext.trans ?_ (by assumption))); first | done | fail)⟩
      case measure => simp [intOf]; omega
    · obtain rfl : i = n2 := by omega
      obtain ⟨w8, rfl⟩ : ∃ w8 : World, w8 = wr := ⟨_, rfl⟩
      have X18 := Kp.mk ((X13.out.trans X37.out).trans XR.out)
      have X28 := Kp.mk (X27.out.trans XR.out)
      have HGl := Kp.mk (fun (k : Nat) (hk : k ∈ fpv (.slice Ao m co)) => (⟨O2.out.base k (mem_fpv.1 hk), O2.out.lt k (mem_fpv.1 hk)⟩ : w1.heap.size ≤ k ∧ k < w2.heap.size))
      have O8 := Kp.mk (O2.out.ext X28.out)
      go_wp2_with fail
      go_loopw [19] (fun iv wq => ∃ (j : Nat) (l : List (BitVec 8)), j ≤ m ∧ iv = .int .i64 (j : Int) ∧ Own wq w1.heap.size (.slice Ao m co) m l ∧ Mds (fpv (.slice Ao m co)) w8 wq) (fun i _ => m - (intOf i).toNat)
      case atStart => exact ⟨0, b, Nat.zero_le _, rfl, O8.out, Mds.refl _ _⟩
      case round =>
        obtain ⟨j, l, hj, rfl, hl, hmd⟩ := hrel
        by_cases hlt2 : j < m
        · as_aux_lemma =>
          obtain ⟨gx, rfl, _, _⟩ := hl.some_ (by omega)
          have k3 := hl.cell j hlt2
          have k4 := hl.free j
          have HL8 := Kp.mk (hl.set j (gb l j + 1))
          have HM := Kp.mk (hmd.setCell (p := ⟨gx, j, none⟩) (mem_fpv.2 rfl) (.int .u8 (ub (gb l j + 1))))
          have b0 : (j : Int) < (m : Int) := by omega
          have b1 : (j : Int) < 9223372036854775807 := by omega
          have e2 := ub_up8 (gb l j)
          generalize gb l j = x at *
          generalize ub (x + 1) = y at *
          generalize ub x = z at *
          clear hl hmd
          go_wp2_with fail
          go_roundw
          case rel => exact ⟨j + 1, _, by omega, by go_num, HL8.out, HM.out⟩
          case measure => simp [intOf]; omega
        · obtain rfl : j = m := by omega
          obtain ⟨w9, rfl⟩ : ∃ w9 : World, w9 = wr := ⟨_, rfl⟩
          as_aux_lemma =>
          have HMd := Kp.mk hmd
          clear hmd hl
          have X19 := Kp.mk (HMd.out.ext X18.out (fun k hk => (HGl.out k hk).1))
          have X9 := Kp.mk (X1.out.trans X19.out)
          have hs2 : w2.heap.size ≤ w3.heap.size := X23.out.size
          have hs4 : w3.heap.size ≤ w4.heap.size := hs34
          have hs4' : (w4.alloc (.cells #[.slice A4 NB c4, .int .i64 uB] bit)).heap.size = w4.heap.size + 1 := by simp
          have hs5 := X45.out.size
          have HB9 := Kp.mk ((HB4.out.ext (X45.out.trans (X56.out.trans (X67.out.trans XR.out)))).mds HMd.out (fun hk => by have := (HGl.out _ hk).2; omega))
          have P4 := Kp.mk ((O4.out.ext (X44.out.trans (X45.out.trans (X56.out.trans (X67.out.trans XR.out))))).bs.mds HMd.out (fun ad h0 e hk => by
            obtain ⟨g, e2, h1, _⟩ := O4.out.some_ h0
            rw [e2] at e
            cases e
            have := (HGl.out _ hk).2
            have h3 : w3.heap.size ≤ g := h1
            have h4 : g < w2.heap.size := this
            omega))
          have P5 := Kp.mk ((R5.out.ext (X56.out.trans (X67.out.trans XR.out))).mds HMd.out (fun k hk hk2 => by
            have h1 := R5.out.base k (mem_fpv.1 hk)
            have h2 := (HGl.out _ hk2).2
            omega))
          have P6 := Kp.mk ((R6.out.ext (X67.out.trans XR.out)).mds HMd.out (fun k hk hk2 => by
            have h1 := R6.out.base k (mem_fpv.1 hk)
            have h2 := (HGl.out _ hk2).2
            omega))
          clear hs2 hs4 hs4' hs5 hs34 HMd HGl O8 X28 X18 O2 X12 X23 X13 HLs X34 X44 X45 X56 X36 X67 X37 X27 X7 XR HB4 O4 R5 R6
          go_wp2_with fail
          refine (KBits.out _ _ _ _ (HB.out.ext X9.out)).mono ?_
          rintro e w10 ⟨A10, c10, rfl, o10, x10⟩
          have HB10 := Kp.mk (Blk.new w10 bit #[.slice A10 NB c10, .int .i64 uB])
          have O10 := Kp.mk o10.bs
          have hx10 : Ext w10 (w10.alloc (.cells #[.slice A10 NB c10, .int .i64 uB] bit)) := (by (repeat (first | assumption | exact Ext.refl _ | apply Ext.drew | apply Ext.drewN | apply Ext.alloc | refine Ext.trans ?_ (by assumption))); first | done | fail)
          have Z10 := Kp.mk (x10.trans hx10)
          have Z10' := Kp.mk hx10
          clear x10 hx10 o10
          go_wp2_with fail
          refine (KBig.out _ _ _ _ (HB.out.ext (X9.out.trans Z10.out))).mono ?_
          rintro e w11 ⟨A11, n11, c11, rfl, r11, x11⟩
          have R11 := Kp.mk (Nv.of r11 KSN.out)
          have Z11 := Kp.mk x11
          clear r11 x11
          go_wp2_with fail
          refine (KOid.out _ _ _ _ (HB.out.ext (X9.out.trans (Z10.out.trans Z11.out)))).mono ?_
          rintro e w12 ⟨A12, c12, rfl, r12, x12⟩
          have R12 := Kp.mk r12.rd
          have Z12 := Kp.mk x12
          have X12 := Kp.mk (X9.out.trans (Z10.out.trans (Z11.out.trans x12)))
          clear r12 x12
          go_wp2_with fail
          refine (Big_any (HNv.out.ext X12.out)).mono ?_
          rintro e w13 (⟨hno, _⟩ | ⟨_, A13, c13, rfl, s13, o13, x13⟩)
          · exact absurd hno HSh.out
          have HBg := Kp.mk (fun (W : World) (hx : Ext w12 W) => Big_any (HNv.out.ext (X12.out.trans hx)))
          have hln : (bigL v).length ≤ 1000000 := by
            have h1 := lng_nb HSh.out
            have h2 := sml_len v
            unfold bigL
            split
            · simp; omega
            · omega
          generalize bigL v = Lx at *
          generalize Lx.length = NX at *
          have O13 := Kp.mk o13
          have Z13 := Kp.mk x13
          have S13 := s13.str (Ext.refl _)
          clear x13 s13 o13
          go_wp2_with fail
          clear S13
          have HGx := Kp.mk (fun (k : Nat) (hk : k ∈ fpv (.slice A13 NX c13)) => O13.out.base k (mem_fpv.1 hk))
          go_loopw [29] (fun iv wq => ∃ (j : Nat) (l : List (BitVec 8)), j ≤ NX ∧ iv = .int .i64 (j : Int) ∧ Own wq w12.heap.size (.slice A13 NX c13) NX l ∧ Mds (fpv (.slice A13 NX c13)) w13 wq) (fun i _ => NX - (intOf i).toNat)
          case atStart => exact ⟨0, Lx, Nat.zero_le _, rfl, O13.out, Mds.refl _ _⟩
          case round =>
            obtain ⟨j, l, hj, rfl, hl, hmd⟩ := hrel
            by_cases hlt3 : j < NX
            · as_aux_lemma =>
              obtain ⟨gx, rfl, _, _⟩ := hl.some_ (by omega)
              have k3 := hl.cell j hlt3
              have k4 := hl.free j
              have HL8 := Kp.mk (hl.set j (gb l j + 1))
              have HM := Kp.mk (hmd.setCell (p := ⟨gx, j, none⟩) (mem_fpv.2 rfl) (.int .u8 (ub (gb l j + 1))))
              have b0 : (j : Int) < (NX : Int) := by omega
              have b1 : (j : Int) < 9223372036854775807 := by omega
              have e2 := ub_up8 (gb l j)
              generalize gb l j = x at *
              generalize ub (x + 1) = y at *
              generalize ub x = z at *
              clear hl hmd
              go_wp2_with fail
              go_roundw
              case rel => exact ⟨j + 1, _, by omega, by go_num, HL8.out, HM.out⟩
              case measure => simp [intOf]; omega
            · obtain rfl : j = NX := by omega
              obtain ⟨w14, rfl⟩ : ∃ w14 : World, w14 = wr := ⟨_, rfl⟩
              as_aux_lemma =>
              have Z14 := Kp.mk (hmd.ext Z13.out (fun k hk => HGx.out k hk))
              clear hmd hl hln
              go_wp2_with fail
              refine (HBg.out _ Z14.out).mono ?_
              rintro e w15 (⟨hno, _⟩ | ⟨_, A15, c15, rfl, s15, _, x15⟩)
              · exact absurd hno HSh.out
              have Z1215 := Kp.mk (Z14.out.trans x15)
              have S15 := Kp.mk s15
              have Z1115 := Kp.mk (Z12.out.trans Z1215.out)
              have Z1015 := Kp.mk (Z11.out.trans Z1115.out)
              have Z915 := Kp.mk (Z10.out.trans Z1015.out)
              have X15 := Kp.mk (X12.out.trans Z1215.out)
              clear x15 s15
              go_wp2_with fail
              have qa := fun (W : World) (hx : Ext w15 W) => (box2b HB9.out (Z915.out.trans hx)).1
              have qb := fun (W : World) (hx : Ext w15 W) => (box2b HB10.out (Z1015.out.trans hx)).1
              have qc := fun (W : World) (hx : Ext w15 W) => (P4.out.ext (Z915.out.trans hx)).str (Ext.refl _)
              have qd := fun (W : World) (hx : Ext w15 W) => (O10.out.ext (Z10'.out.trans (Z1015.out.trans hx))).str (Ext.refl _)
              have s1 := KEB.out.eq
              have s2 := KEB.out.grd
              have s3 := KEN.out.eq
              have s4 := KEN.out.grd
              have s5 := KEO.out.eq
              have s6 := KEO.out.grd
              refine wp_region_held_drew (S := fun w' => Ext w15 w') (by kernel_rfl) (Ext.refl w15).drew (fun hHeld => ?_)
              refine wpAnyH_take (i := 0) (oi := ⟨some 154, _, _, _, _, _⟩) (v := ?_) rfl (by kernel_rfl) (by kernel_rfl) (by kernel_rfl) (fun _ _ _ h => h) (Or.inl ⟨by rfl, ?_⟩) (by assumption) ?_
              rotate_left
              · (intro w hSw; (try dsimp only at hSw); go_simp; try with_reducible rfl)
              try simp only [Act.put, List.setIfInBounds_toArray, List.set_cons_zero, List.set_cons_succ]
              refine wpAnyH_take (i := 1) (oi := ⟨some 155, _, _, _, _, _⟩) (v := ?_) rfl (by kernel_rfl) (by kernel_rfl) (by kernel_rfl) (fun _ _ _ h => h) (Or.inl ⟨by rfl, ?_⟩) (by assumption) ?_
              rotate_left
              · (intro w hSw; (try dsimp only at hSw); go_simp; try with_reducible rfl)
              try simp only [Act.put, List.setIfInBounds_toArray, List.set_cons_zero, List.set_cons_succ]
              refine wpAnyH_take (i := 2) (oi := ⟨some 156, _, _, _, _, _⟩) (v := ?_) rfl (by kernel_rfl) (by kernel_rfl) (by kernel_rfl) (fun _ _ _ h => h) (Or.inl ⟨by rfl, ?_⟩) (by assumption) ?_
              rotate_left
              · (intro w hSw; (try dsimp only at hSw); go_simp; try with_reducible rfl)
              try simp only [Act.put, List.setIfInBounds_toArray, List.set_cons_zero, List.set_cons_succ]
              refine wpAnyH_take (i := 3) (oi := ⟨some 157, _, _, _, _, _⟩) (v := ?_) rfl (by kernel_rfl) (by kernel_rfl) (by kernel_rfl) (fun _ _ _ h => h) (Or.inl ⟨by rfl, ?_⟩) (by assumption) ?_
              rotate_left
              · (intro w hSw; (try dsimp only at hSw); go_simp; try with_reducible rfl)
              try simp only [Act.put, List.setIfInBounds_toArray, List.set_cons_zero, List.set_cons_succ]
              refine wpAnyH_take (i := 4) (oi := ⟨some 158, _, _, _, _, _⟩) (v := ?_) rfl (by kernel_rfl) (by kernel_rfl) (by kernel_rfl) (fun _ _ _ h => h) (Or.inl ⟨by rfl, ?_⟩) (by assumption) ?_
              rotate_left
              · (intro w hSw; (try dsimp only at hSw); go_simp; try with_reducible rfl)
              try simp only [Act.put, List.setIfInBounds_toArray, List.set_cons_zero, List.set_cons_succ]
              refine wpAnyH_take (i := 5) (oi := ⟨some 159, _, _, _, _, _⟩) (v := ?_) rfl (by kernel_rfl) (by kernel_rfl) (by kernel_rfl) (fun _ _ _ h => h) (Or.inl ⟨by rfl, ?_⟩) (by assumption) ?_
              rotate_left
              · (intro w hSw; (try dsimp only at hSw); go_simp; try with_reducible rfl)
              try simp only [Act.put, List.setIfInBounds_toArray, List.set_cons_zero, List.set_cons_succ]
              refine wpAnyH_take (i := 6) (oi := ⟨some 160, _, _, _, _, _⟩) (v := ?_) rfl (by kernel_rfl) (by kernel_rfl) (by kernel_rfl) (fun _ _ _ h => h) (Or.inl ⟨by rfl, ?_⟩) (by assumption) ?_
              rotate_left
              · (intro w hSw; (try dsimp only at hSw); go_simp; try with_reducible rfl)
              try simp only [Act.put, List.setIfInBounds_toArray, List.set_cons_zero, List.set_cons_succ]
              refine wpAnyH_take (i := 7) (oi := ⟨some 161, _, _, _, _, _⟩) (v := ?_) rfl (by kernel_rfl) (by kernel_rfl) (by kernel_rfl) (fun _ _ _ h => h) (Or.inl ⟨by rfl, ?_⟩) (by assumption) ?_
              rotate_left
              · (intro w hSw; (try dsimp only at hSw); go_simp; try with_reducible rfl)
              try simp only [Act.put, List.setIfInBounds_toArray, List.set_cons_zero, List.set_cons_succ]
              refine wpAnyH_take (i := 8) (oi := ⟨some 162, _, _, _, _, _⟩) (v := ?_) rfl (by kernel_rfl) (by kernel_rfl) (by kernel_rfl) (fun _ _ _ h => h) (Or.inl ⟨by rfl, ?_⟩) (by assumption) ?_
              rotate_left
              · (intro w hSw; (try dsimp only at hSw); go_simp; try with_reducible rfl)
              try simp only [Act.put, List.setIfInBounds_toArray, List.set_cons_zero, List.set_cons_succ]
              refine wpAnyH_take (i := 9) (oi := ⟨some 163, _, _, _, _, _⟩) (v := ?_) rfl (by kernel_rfl) (by kernel_rfl) (by kernel_rfl) (fun _ _ _ h => h) (Or.inl ⟨by rfl, ?_⟩) (by assumption) ?_
              rotate_left
              · (intro w hSw; (try dsimp only at hSw); go_simp; try with_reducible rfl)
              try simp only [Act.put, List.setIfInBounds_toArray, List.set_cons_zero, List.set_cons_succ]
              refine wpAnyH_take (i := 10) (oi := ⟨some 164, _, _, _, _, _⟩) (v := ?_) rfl (by kernel_rfl) (by kernel_rfl) (by kernel_rfl) (fun _ _ _ h => h) (Or.inl ⟨by rfl, ?_⟩) (by assumption) ?_
              rotate_left
              · (intro w hSw; (try dsimp only at hSw); go_simp; try with_reducible rfl)
              try simp only [Act.put, List.setIfInBounds_toArray, List.set_cons_zero, List.set_cons_succ]
              refine wpAnyH_take (i := 11) (oi := ⟨some 165, _, _, _, _, _⟩) (v := ?_) rfl (by kernel_rfl) (by kernel_rfl) (by kernel_rfl) (fun _ _ _ h => h) (Or.inl ⟨by rfl, ?_⟩) (by assumption) ?_
              rotate_left
              · (intro w hSw; (try dsimp only at hSw); go_simp; try with_reducible rfl)
              try simp only [Act.put, List.setIfInBounds_toArray, List.set_cons_zero, List.set_cons_succ]
              refine wpAnyH_take (i := 12) (oi := ⟨some 166, _, _, _, _, _⟩) (v := ?_) rfl (by kernel_rfl) (by kernel_rfl) (by kernel_rfl) (fun _ _ _ h => h) (Or.inl ⟨by rfl, ?_⟩) (by assumption) ?_
              rotate_left
              · (intro w hSw; (try dsimp only at hSw); go_simp; try with_reducible rfl)
              try simp only [Act.put, List.setIfInBounds_toArray, List.set_cons_zero, List.set_cons_succ]
              refine wpAnyH_take (i := 13) (oi := ⟨some 167, _, _, _, _, _⟩) (v := ?_) rfl (by kernel_rfl) (by kernel_rfl) (by kernel_rfl) (fun _ _ _ h => h) (Or.inl ⟨by rfl, ?_⟩) (by assumption) ?_
              rotate_left
              · (intro w hSw; (try dsimp only at hSw); go_simp; try with_reducible rfl)
              try simp only [Act.put, List.setIfInBounds_toArray, List.set_cons_zero, List.set_cons_succ]
              refine wpAnyH_take (i := 14) (oi := ⟨some 168, _, _, _, _, _⟩) (v := ?_) rfl (by kernel_rfl) (by kernel_rfl) (by kernel_rfl) (fun _ _ _ h => h) (Or.inl ⟨by rfl, ?_⟩) (by assumption) ?_
              rotate_left
              · (intro w hSw; (try dsimp only at hSw); go_simp; try with_reducible rfl)
              try simp only [Act.put, List.setIfInBounds_toArray, List.set_cons_zero, List.set_cons_succ]
              refine wpAnyH_take (i := 15) (oi := ⟨some 169, _, _, _, _, _⟩) (v := ?_) rfl (by kernel_rfl) (by kernel_rfl) (by kernel_rfl) (fun _ _ _ h => h) (Or.inl ⟨by rfl, ?_⟩) (by assumption) ?_
              rotate_left
              · (intro w hSw; (try dsimp only at hSw); go_simp; try with_reducible rfl)
              try simp only [Act.put, List.setIfInBounds_toArray, List.set_cons_zero, List.set_cons_succ]
              refine wpAnyH_take (i := 16) (oi := ⟨some 170, _, _, _, _, _⟩) (v := ?_) rfl (by kernel_rfl) (by kernel_rfl) (by kernel_rfl) (fun _ _ _ h => h) (Or.inl ⟨by rfl, ?_⟩) (by assumption) ?_
              rotate_left
              · (intro w hSw; (try dsimp only at hSw); go_simp; try with_reducible rfl)
              try simp only [Act.put, List.setIfInBounds_toArray, List.set_cons_zero, List.set_cons_succ]
              refine wpAnyH_take (i := 17) (oi := ⟨some 171, _, _, _, _, _⟩) (v := ?_) rfl (by kernel_rfl) (by kernel_rfl) (by kernel_rfl) (fun _ _ _ h => h) (Or.inl ⟨by rfl, ?_⟩) (by assumption) ?_
              rotate_left
              · (intro w hSw; (try dsimp only at hSw); go_simp; try with_reducible rfl)
              try simp only [Act.put, List.setIfInBounds_toArray, List.set_cons_zero, List.set_cons_succ]
              refine wpAnyH_take (i := 18) (oi := ⟨some 172, _, _, _, _, _⟩) (v := ?_) rfl (by kernel_rfl) (by kernel_rfl) (by kernel_rfl) (fun _ _ _ h => h) (Or.inl ⟨by rfl, ?_⟩) (by assumption) ?_
              rotate_left
              · (intro w hSw; (try dsimp only at hSw); go_simp; try with_reducible rfl)
              try simp only [Act.put, List.setIfInBounds_toArray, List.set_cons_zero, List.set_cons_succ]
              refine wpAnyH_take (i := 19) (oi := ⟨some 173, _, _, _, _, _⟩) (v := ?_) rfl (by kernel_rfl) (by kernel_rfl) (by kernel_rfl) (fun _ _ _ h => h) (Or.inl ⟨by rfl, ?_⟩) (by assumption) ?_
              rotate_left
              · (intro w hSw; (try dsimp only at hSw); go_simp; try with_reducible rfl)
              try simp only [Act.put, List.setIfInBounds_toArray, List.set_cons_zero, List.set_cons_succ]
              refine wpAnyH_take (i := 20) (oi := ⟨some 174, _, _, _, _, _⟩) (v := ?_) rfl (by kernel_rfl) (by kernel_rfl) (by kernel_rfl) (fun _ _ _ h => h) (Or.inl ⟨by rfl, ?_⟩) (by assumption) ?_
              rotate_left
              · (intro w hSw; (try dsimp only at hSw); go_simp; try with_reducible rfl)
              try simp only [Act.put, List.setIfInBounds_toArray, List.set_cons_zero, List.set_cons_succ]
              refine wpAnyH_take (i := 21) (oi := ⟨some 175, _, _, _, _, _⟩) (v := ?_) rfl (by kernel_rfl) (by kernel_rfl) (by kernel_rfl) (fun _ _ _ h => h) (Or.inl ⟨by rfl, ?_⟩) (by assumption) ?_
              rotate_left
              · (intro w hSw; (try dsimp only at hSw); go_simp; try with_reducible rfl)
              try simp only [Act.put, List.setIfInBounds_toArray, List.set_cons_zero, List.set_cons_succ]
              refine wpAnyH_take (i := 22) (oi := ⟨some 176, _, _, _, _, _⟩) (v := ?_) rfl (by kernel_rfl) (by kernel_rfl) (by kernel_rfl) (fun _ _ _ h => h) (Or.inl ⟨by rfl, ?_⟩) (by assumption) ?_
              rotate_left
              · (intro w hSw; (try dsimp only at hSw); go_simp; try with_reducible rfl)
              try simp only [Act.put, List.setIfInBounds_toArray, List.set_cons_zero, List.set_cons_succ]
              refine wpAnyH_take (i := 23) (oi := ⟨some 177, _, _, _, _, _⟩) (v := ?_) rfl (by kernel_rfl) (by kernel_rfl) (by kernel_rfl) (fun _ _ _ h => h) (Or.inl ⟨by rfl, ?_⟩) (by assumption) ?_
              rotate_left
              · (intro w hSw; (try dsimp only at hSw); go_simp; try with_reducible rfl)
              try simp only [Act.put, List.setIfInBounds_toArray, List.set_cons_zero, List.set_cons_succ]
              refine wpAnyH_take (i := 24) (oi := ⟨some 178, _, _, _, _, _⟩) (v := ?_) rfl (by kernel_rfl) (by kernel_rfl) (by kernel_rfl) (fun _ _ _ h => h) (Or.inl ⟨by rfl, ?_⟩) (by assumption) ?_
              rotate_left
              · (intro w hSw; (try dsimp only at hSw); go_simp; try with_reducible rfl)
              try simp only [Act.put, List.setIfInBounds_toArray, List.set_cons_zero, List.set_cons_succ]
              refine wpAnyH_take (i := 25) (oi := ⟨some 179, _, _, _, _, _⟩) (v := ?_) rfl (by kernel_rfl) (by kernel_rfl) (by kernel_rfl) (fun _ _ _ h => h) (Or.inl ⟨by rfl, ?_⟩) (by assumption) ?_
              rotate_left
              · (intro w hSw; (try dsimp only at hSw); go_simp; try with_reducible rfl)
              try simp only [Act.put, List.setIfInBounds_toArray, List.set_cons_zero, List.set_cons_succ]
              refine wpAnyH_take (i := 26) (oi := ⟨some 180, _, _, _, _, _⟩) (v := ?_) rfl (by kernel_rfl) (by kernel_rfl) (by kernel_rfl) (fun _ _ _ h => h) (Or.inl ⟨by rfl, ?_⟩) (by assumption) ?_
              rotate_left
              · (intro w hSw; (try dsimp only at hSw); go_simp; try with_reducible rfl)
              try simp only [Act.put, List.setIfInBounds_toArray, List.set_cons_zero, List.set_cons_succ]
              refine wpAnyH_take (i := 27) (oi := ⟨some 181, _, _, _, _, _⟩) (v := ?_) rfl (by kernel_rfl) (by kernel_rfl) (by kernel_rfl) (fun _ _ _ h => h) (Or.inl ⟨by rfl, ?_⟩) (by assumption) ?_
              rotate_left
              · (intro w hSw; (try dsimp only at hSw); go_simp; try with_reducible rfl)
              try simp only [Act.put, List.setIfInBounds_toArray, List.set_cons_zero, List.set_cons_succ]
              refine wpAnyH_take (i := 28) (oi := ⟨some 182, _, _, _, _, _⟩) (v := ?_) rfl (by kernel_rfl) (by kernel_rfl) (by kernel_rfl) (fun _ _ _ h => h) (Or.inl ⟨by rfl, ?_⟩) (by assumption) ?_
              rotate_left
              · (intro w hSw; (try dsimp only at hSw); go_simp; try with_reducible rfl)
              try simp only [Act.put, List.setIfInBounds_toArray, List.set_cons_zero, List.set_cons_succ]
              refine wpAnyH_take (i := 29) (oi := ⟨some 183, _, _, _, _, _⟩) (v := ?_) rfl (by kernel_rfl) (by kernel_rfl) (by kernel_rfl) (fun _ _ _ h => h) (Or.inl ⟨by rfl, ?_⟩) (by assumption) ?_
              rotate_left
              · (intro w hSw; (try dsimp only at hSw); go_simp; try with_reducible rfl)
              try simp only [Act.put, List.setIfInBounds_toArray, List.set_cons_zero, List.set_cons_succ]
              refine next_one 30 (by kernel_rfl) rfl (by rfl) fun K' HK' => ?_
              go_simp
              refine (OfV (R11.out.ext (Z1115.out.trans (by (repeat (first | assumption | exact Ext.refl _ | apply Ext.drew | apply Ext.drewN | apply Ext.alloc | refine Ext.trans ?_ (by assumption))); first | done | fail)))).mono ?_
              rintro e w16 ⟨A16, n16, c16, rfl, r16, _, x16⟩
              have I16 := Kp.mk (Ni.of r16 KVN.out (by decide))
              have Z16 := Kp.mk (show Ext w15 w16 from (by (repeat (first | assumption | exact Ext.refl _ | apply Ext.drew | apply Ext.drewN | apply Ext.alloc | refine Ext.trans ?_ (by assumption))); first | done | fail))
              clear r16
              have hS2 := Ext.trans hHeld x16
              refine held_go HK' hS2 (fun _ => ?_)
              clear HK'
              refine held_more (S' := fun w' => Ext w16 w') (fun _ h => Ext.trans hS2 h) _ _ _ _ ?_
              clear hHeld hS2
              have hHeld : Ext w16 w16 := Ext.refl _
              try simp only [Act.put, List.setIfInBounds_toArray, List.set_cons_zero, List.set_cons_succ]
              refine next_one 31 (by kernel_rfl) rfl (by rfl) fun K' HK' => ?_
              go_simp
              refine (SameV (P5.out.rd.ext ((Z915.out.trans Z16.out).trans (by (repeat (first | assumption | exact Ext.refl _ | apply Ext.drew | apply Ext.drewN | apply Ext.alloc | refine Ext.trans ?_ (by assumption))); first | done | fail))) (I16.out.ext (by (repeat (first | assumption | exact Ext.refl _ | apply Ext.drew | apply Ext.drewN | apply Ext.alloc | refine Ext.trans ?_ (by assumption))); first | done | fail))).mono ?_
              rintro e w17 ⟨rfl, x17⟩
              have Z17 := Kp.mk (show Ext w15 w17 from Z16.out.trans (by (repeat (first | assumption | exact Ext.refl _ | apply Ext.drew | apply Ext.drewN | apply Ext.alloc | refine Ext.trans ?_ (by assumption))); first | done | fail))
              have hS2 := Ext.trans hHeld x17
              refine held_go HK' hS2 (fun _ => ?_)
              clear HK'
              refine held_more (S' := fun w' => Ext w17 w') (fun _ h => Ext.trans hS2 h) _ _ _ _ ?_
              clear hHeld hS2
              have hHeld : Ext w17 w17 := Ext.refl _
              try simp only [Act.put, List.setIfInBounds_toArray, List.set_cons_zero, List.set_cons_succ]
              refine wpAnyH_take (i := 32) (oi := ⟨some 186, _, _, _, _, _⟩) (v := ?_) rfl (by kernel_rfl) (by kernel_rfl) (by kernel_rfl) (fun _ _ _ h => h) (Or.inl ⟨by rfl, ?_⟩) (by assumption) ?_
              rotate_left
              · (intro w hSw; (try dsimp only at hSw); go_simp; try with_reducible rfl)
              try simp only [Act.put, List.setIfInBounds_toArray, List.set_cons_zero, List.set_cons_succ]
              refine wpAnyH_take (i := 33) (oi := ⟨some 187, _, _, _, _, _⟩) (v := ?_) rfl (by kernel_rfl) (by kernel_rfl) (by kernel_rfl) (fun _ _ _ h => h) (Or.inl ⟨by rfl, ?_⟩) (by assumption) ?_
              rotate_left
              · (intro w hSw; (try dsimp only at hSw); go_simp; try with_reducible rfl)
              try simp only [Act.put, List.setIfInBounds_toArray, List.set_cons_zero, List.set_cons_succ]
              refine wpAnyH_take (i := 34) (oi := ⟨some 188, _, _, _, _, _⟩) (v := ?_) rfl (by kernel_rfl) (by kernel_rfl) (by kernel_rfl) (fun _ _ _ h => h) (Or.inl ⟨by rfl, ?_⟩) (by assumption) ?_
              rotate_left
              · (intro w hSw; (try dsimp only at hSw); go_simp; try with_reducible rfl)
              try simp only [Act.put, List.setIfInBounds_toArray, List.set_cons_zero, List.set_cons_succ]
              refine wpAnyH_take (i := 35) (oi := ⟨some 189, _, _, _, _, _⟩) (v := ?_) rfl (by kernel_rfl) (by kernel_rfl) (by kernel_rfl) (fun _ _ _ h => h) (Or.inl ⟨by rfl, ?_⟩) (by assumption) ?_
              rotate_left
              · (intro w hSw; (try dsimp only at hSw); go_simp; try with_reducible rfl)
              try simp only [Act.put, List.setIfInBounds_toArray, List.set_cons_zero, List.set_cons_succ]
              refine wpAnyH_take (i := 36) (oi := ⟨some 190, _, _, _, _, _⟩) (v := ?_) rfl (by kernel_rfl) (by kernel_rfl) (by kernel_rfl) (fun _ _ _ h => h) (Or.inl ⟨by rfl, ?_⟩) (by assumption) ?_
              rotate_left
              · (intro w hSw; (try dsimp only at hSw); go_simp; try with_reducible rfl)
              try simp only [Act.put, List.setIfInBounds_toArray, List.set_cons_zero, List.set_cons_succ]
              refine wpAnyH_take (i := 37) (oi := ⟨some 191, _, _, _, _, _⟩) (v := ?_) rfl (by kernel_rfl) (by kernel_rfl) (by kernel_rfl) (fun _ _ _ h => h) (Or.inl ⟨by rfl, ?_⟩) (by assumption) ?_
              rotate_left
              · (intro w hSw; (try dsimp only at hSw); go_simp; try with_reducible rfl)
              try simp only [Act.put, List.setIfInBounds_toArray, List.set_cons_zero, List.set_cons_succ]
              refine wpAnyH_take (i := 38) (oi := ⟨some 192, _, _, _, _, _⟩) (v := ?_) rfl (by kernel_rfl) (by kernel_rfl) (by kernel_rfl) (fun _ _ _ h => h) (Or.inl ⟨by rfl, ?_⟩) (by assumption) ?_
              rotate_left
              · (intro w hSw; (try dsimp only at hSw); go_simp; try with_reducible rfl)
              try simp only [Act.put, List.setIfInBounds_toArray, List.set_cons_zero, List.set_cons_succ]
              refine wpAnyH_take (i := 39) (oi := ⟨some 193, _, _, _, _, _⟩) (v := ?_) rfl (by kernel_rfl) (by kernel_rfl) (by kernel_rfl) (fun _ _ _ h => h) (Or.inl ⟨by rfl, ?_⟩) (by assumption) ?_
              rotate_left
              · (intro w hSw; (try dsimp only at hSw); go_simp; try with_reducible rfl)
              try simp only [Act.put, List.setIfInBounds_toArray, List.set_cons_zero, List.set_cons_succ]
              refine wpAnyH_take (i := 40) (oi := ⟨some 194, _, _, _, _, _⟩) (v := ?_) rfl (by kernel_rfl) (by kernel_rfl) (by kernel_rfl) (fun _ _ _ h => h) (Or.inl ⟨by rfl, ?_⟩) (by assumption) ?_
              rotate_left
              · (intro w hSw; (try dsimp only at hSw); go_simp; try with_reducible rfl)
              try simp only [Act.put, List.setIfInBounds_toArray, List.set_cons_zero, List.set_cons_succ]
              refine wpAnyH_take (i := 41) (oi := ⟨some 195, _, _, _, _, _⟩) (v := ?_) rfl (by kernel_rfl) (by kernel_rfl) (by kernel_rfl) (fun _ _ _ h => h) (Or.inl ⟨by rfl, ?_⟩) (by assumption) ?_
              rotate_left
              · (intro w hSw; (try dsimp only at hSw); go_simp; try with_reducible rfl)
              try simp only [Act.put, List.setIfInBounds_toArray, List.set_cons_zero, List.set_cons_succ]
              refine wpAnyH_take (i := 42) (oi := ⟨some 196, _, _, _, _, _⟩) (v := ?_) rfl (by kernel_rfl) (by kernel_rfl) (by kernel_rfl) (fun _ _ _ h => h) (Or.inl ⟨by rfl, ?_⟩) (by assumption) ?_
              rotate_left
              · (intro w hSw; (try dsimp only at hSw); go_simp; try with_reducible rfl)
              try simp only [Act.put, List.setIfInBounds_toArray, List.set_cons_zero, List.set_cons_succ]
              refine next_one 43 (by kernel_rfl) rfl (by rfl) fun K' HK' => ?_
              go_simp
              refine (sameArcs_any (P6.out.rd.ext ((Z915.out.trans Z17.out).trans (by (repeat (first | assumption | exact Ext.refl _ | apply Ext.drew | apply Ext.drewN | apply Ext.alloc | refine Ext.trans ?_ (by assumption))); first | done | fail))) (R12.out.ext ((Z1215.out.trans Z17.out).trans (by (repeat (first | assumption | exact Ext.refl _ | apply Ext.drew | apply Ext.drewN | apply Ext.alloc | refine Ext.trans ?_ (by assumption))); first | done | fail))) (by have := KNO.out; omega)).mono ?_
              rintro e w18 ⟨rfl, x18⟩
              have Z18 := Kp.mk (show Ext w15 w18 from Z17.out.trans (by (repeat (first | assumption | exact Ext.refl _ | apply Ext.drew | apply Ext.drewN | apply Ext.alloc | refine Ext.trans ?_ (by assumption))); first | done | fail))
              have qe := fun (W : World) (hx : Ext w18 W) => (S15.out.ext (Z18.out.trans hx)).str (Ext.refl _)
              have hS2 := Ext.trans hHeld x18
              refine held_go HK' hS2 (fun _ => ?_)
              clear HK'
              refine held_more (S' := fun w' => Ext w18 w') (fun _ h => Ext.trans hS2 h) _ _ _ _ ?_
              clear hHeld hS2
              have hHeld : Ext w18 w18 := Ext.refl _
              try simp only [Act.put, List.setIfInBounds_toArray, List.set_cons_zero, List.set_cons_succ]
              refine wpAnyH_take (i := 44) (oi := ⟨some 198, _, _, _, _, _⟩) (v := ?_) rfl (by kernel_rfl) (by kernel_rfl) (by kernel_rfl) (fun _ _ _ h => h) (Or.inl ⟨by rfl, ?_⟩) (by assumption) ?_
              rotate_left
              · (intro w hSw; (try dsimp only at hSw); go_simp; try with_reducible rfl)
              try simp only [Act.put, List.setIfInBounds_toArray, List.set_cons_zero, List.set_cons_succ]
              refine wpAnyH_take (i := 45) (oi := ⟨some 199, _, _, _, _, _⟩) (v := ?_) rfl (by kernel_rfl) (by kernel_rfl) (by kernel_rfl) (fun _ _ _ h => h) (Or.inl ⟨by rfl, ?_⟩) (by assumption) ?_
              rotate_left
              · (intro w hSw; (try dsimp only at hSw); go_simp; try with_reducible rfl)
              try simp only [Act.put, List.setIfInBounds_toArray, List.set_cons_zero, List.set_cons_succ]
              refine wpAnyH_take (i := 46) (oi := ⟨some 200, _, _, _, _, _⟩) (v := ?_) rfl (by kernel_rfl) (by kernel_rfl) (by kernel_rfl) (fun _ _ _ h => h) (Or.inl ⟨by rfl, ?_⟩) (by assumption) ?_
              rotate_left
              · (intro w hSw; (try dsimp only at hSw); go_simp; try with_reducible rfl)
              try simp only [Act.put, List.setIfInBounds_toArray, List.set_cons_zero, List.set_cons_succ]
              refine wpAnyH_take (i := 47) (oi := ⟨some 201, _, _, _, _, _⟩) (v := ?_) rfl (by kernel_rfl) (by kernel_rfl) (by kernel_rfl) (fun _ _ _ h => h) (Or.inl ⟨by rfl, ?_⟩) (by assumption) ?_
              rotate_left
              · (intro w hSw; (try dsimp only at hSw); go_simp; try with_reducible rfl)
              try simp only [Act.put, List.setIfInBounds_toArray, List.set_cons_zero, List.set_cons_succ]
              refine wpAnyH_take (i := 48) (oi := ⟨some 202, _, _, _, _, _⟩) (v := ?_) rfl (by kernel_rfl) (by kernel_rfl) (by kernel_rfl) (fun _ _ _ h => h) (Or.inl ⟨by rfl, ?_⟩) (by assumption) ?_
              rotate_left
              · (intro w hSw; (try dsimp only at hSw); go_simp; try with_reducible rfl)
              try simp only [Act.put, List.setIfInBounds_toArray, List.set_cons_zero, List.set_cons_succ]
              refine wpAnyH_take (i := 49) (oi := ⟨some 203, _, _, _, _, _⟩) (v := ?_) rfl (by kernel_rfl) (by kernel_rfl) (by kernel_rfl) (fun _ _ _ h => h) (Or.inl ⟨by rfl, ?_⟩) (by assumption) ?_
              rotate_left
              · (intro w hSw; (try dsimp only at hSw); go_simp; try with_reducible rfl)
              try simp only [Act.put, List.setIfInBounds_toArray, List.set_cons_zero, List.set_cons_succ]
              refine wpAnyH_take (i := 50) (oi := ⟨some 204, _, _, _, _, _⟩) (v := ?_) rfl (by kernel_rfl) (by kernel_rfl) (by kernel_rfl) (fun _ _ _ h => h) (Or.inl ⟨by rfl, ?_⟩) (by assumption) ?_
              rotate_left
              · (intro w hSw; (try dsimp only at hSw); go_simp; try with_reducible rfl)
              try simp only [Act.put, List.setIfInBounds_toArray, List.set_cons_zero, List.set_cons_succ]
              refine wpAnyH_take (i := 51) (oi := ⟨some 205, _, _, _, _, _⟩) (v := ?_) rfl (by kernel_rfl) (by kernel_rfl) (by kernel_rfl) (fun _ _ _ h => h) (Or.inl ⟨by rfl, ?_⟩) (by assumption) ?_
              rotate_left
              · (intro w hSw; (try dsimp only at hSw); go_simp; try with_reducible rfl)
              try simp only [Act.put, List.setIfInBounds_toArray, List.set_cons_zero, List.set_cons_succ]
              refine wpAnyH_take (i := 52) (oi := ⟨some 206, _, _, _, _, _⟩) (v := ?_) rfl (by kernel_rfl) (by kernel_rfl) (by kernel_rfl) (fun _ _ _ h => h) (Or.inl ⟨by rfl, ?_⟩) (by assumption) ?_
              rotate_left
              · (intro w hSw; (try dsimp only at hSw); go_simp; try with_reducible rfl)
              try simp only [Act.put, List.setIfInBounds_toArray, List.set_cons_zero, List.set_cons_succ]
              refine wpAnyH_take (i := 53) (oi := ⟨some 207, _, _, _, _, _⟩) (v := ?_) rfl (by kernel_rfl) (by kernel_rfl) (by kernel_rfl) (fun _ _ _ h => h) (Or.inl ⟨by rfl, ?_⟩) (by assumption) ?_
              rotate_left
              · (intro w hSw; (try dsimp only at hSw); go_simp; try with_reducible rfl)
              try simp only [Act.put, List.setIfInBounds_toArray, List.set_cons_zero, List.set_cons_succ]
              refine wpAnyH_take (i := 54) (oi := ⟨some 208, _, _, _, _, _⟩) (v := ?_) rfl (by kernel_rfl) (by kernel_rfl) (by kernel_rfl) (fun _ _ _ h => h) (Or.inl ⟨by rfl, ?_⟩) (by assumption) ?_
              rotate_left
              · (intro w hSw; (try dsimp only at hSw); go_simp; try with_reducible rfl)
              try simp only [Act.put, List.setIfInBounds_toArray, List.set_cons_zero, List.set_cons_succ]
              refine wpAnyH_take (i := 55) (oi := ⟨some 209, _, _, _, _, _⟩) (v := ?_) rfl (by kernel_rfl) (by kernel_rfl) (by kernel_rfl) (fun _ _ _ h => h) (Or.inl ⟨by rfl, ?_⟩) (by assumption) ?_
              rotate_left
              · (intro w hSw; (try dsimp only at hSw); go_simp; try with_reducible rfl)
              try simp only [Act.put, List.setIfInBounds_toArray, List.set_cons_zero, List.set_cons_succ]
              refine wpAnyH_take (i := 56) (oi := ⟨some 210, _, _, _, _, _⟩) (v := ?_) rfl (by kernel_rfl) (by kernel_rfl) (by kernel_rfl) (fun _ _ _ h => h) (Or.inl ⟨by rfl, ?_⟩) (by assumption) ?_
              rotate_left
              · (intro w hSw; (try dsimp only at hSw); go_simp; try with_reducible rfl)
              try simp only [Act.put, List.setIfInBounds_toArray, List.set_cons_zero, List.set_cons_succ]
              refine wpAnyH_take (i := 57) (oi := ⟨some 211, _, _, _, _, _⟩) (v := ?_) rfl (by kernel_rfl) (by kernel_rfl) (by kernel_rfl) (fun _ _ _ h => h) (Or.inl ⟨by rfl, ?_⟩) (by assumption) ?_
              rotate_left
              · (intro w hSw; (try dsimp only at hSw); go_simp; try with_reducible rfl)
              try simp only [Act.put, List.setIfInBounds_toArray, List.set_cons_zero, List.set_cons_succ]
              refine wpAnyH_take (i := 58) (oi := ⟨some 6, _, _, _, _, _⟩) (v := ?_) rfl (by kernel_rfl) (by kernel_rfl) (by kernel_rfl) (fun _ _ _ h => h) (Or.inl ⟨by rfl, ?_⟩) (by assumption) ?_
              rotate_left
              · (intro w hSw; (try dsimp only at hSw); go_simp; try with_reducible rfl)
              try simp only [Act.put, List.setIfInBounds_toArray, List.set_cons_zero, List.set_cons_succ]
              refine wpAnyH_done (by kernel_rfl) ?_ _
              clear qa qb qc qd qe s1 s2 s3 s4 s5 s6
              go_wp2_with fail
              go_ret
              exact ⟨by first | rfl | simp, (X15.out.trans (Z18.out.trans (by (repeat (first | assumption | exact Ext.refl _ | apply Ext.drew | apply Ext.drewN | apply Ext.alloc | refine Ext.trans ?_ (by assumption))); first | done | fail))).b⟩
end Go.Proofs.YtfipgmjaabggjaaDoor
