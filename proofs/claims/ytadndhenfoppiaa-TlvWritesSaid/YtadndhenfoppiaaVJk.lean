/-
  The walk of the law TlvWrites.
-/
import Derived.Test.YtadndhenfoppiaaVJj
import Derived.Test.YtadndhenfoppiaaVJd
namespace Go.Proofs.Ytadndhenfoppiaa
open Go Go.RowKit
set_option maxRecDepth 4000

abbrev ddt : TypeId := 38
theorem szDd : (Try.prog.info? ddt).map (·.size) = some 3 := by kernel_rfl
theorem one_dd (a : Int) (x : Int) (B : Option Addr) (k d : Nat) : (#[Value.int .i64 a, .int .u8 x, .slice B k d]).all (·.oneCell') = true := by simp [Value.oneCell']
/-- what holds between two rounds -/
structure Tws (w wr : World) (b p q i : Nat) (s : TWs) : Prop where
  h : Pr3 b wr p q s s
  v : VW s
  c : okC s
  z : szW s ≤ 400 * i
  x : Ext w wr
theorem pk3 (a : Int) : pk a 3 = 0 ∨ pk a 3 = 1 ∨ pk a 3 = 2 := by
  have h1 : 0 ≤ pk a 3 := Int.emod_nonneg _ (by decide)
  have h2 : pk a 3 < 3 := Int.emod_lt_of_pos _ (by decide)
  omega
set_option maxHeartbeats 32000000 in
theorem TlvWrites_any {w : World} {A : Option Addr} {n c : Nat} (hd : Dds w A n c) : Calls Try.prog 4 #[.slice A n c] w fun e w' => e = .returned (.bool true) ∧ Below w.heap.size w w' := by
  have HU := Kp.mk (fun u => up7_any u)
  have HD := Kp.mk hd
  clear hd
  go_enter Try.func4, Try.ntmps4
  go_wp2_with fail
  refine (HU.out _).mono ?_
  rintro e w1 ⟨rfl, x1⟩
  have X1 := Kp.mk x1
  clear x1
  go_wp2_with fail
  refine (NewWriter_any w1).mono ?_
  rintro e w2 ⟨rfl, ⟨G, hw, hG⟩, x2⟩
  have HW := Kp.mk hw
  have HG := Kp.mk hG
  have X2 := Kp.mk x2
  clear hw hG x2
  go_wp2_with fail
  refine (refNew_any w2).mono ?_
  rintro e w3 ⟨q, rfl, ⟨H, hr, hH⟩, x3⟩
  have T3 : Kp (Tws w w3 w1.heap.size w1.heap.size q 0 (.ok [] [])) := ⟨⟨⟨⟨G, H, HW.out.ext x3, hr, (Ap.of_lo hH HW.out.hi).symm, HG.out, hH.mono X2.out.size, Nat.le_trans X2.out.size x3.size⟩⟩, ⟨by decide, fun _ h => by cases h⟩, trivial, Nat.le_refl _, X1.out.trans (X2.out.trans x3)⟩⟩
  clear hr hH x3
  go_wp2_with fail
  go_loopw [6] (fun iv wr => ∃ (i : Nat) (s : TWs), i ≤ n ∧ iv = .int .i64 (i : Int) ∧ Tws w wr w1.heap.size w1.heap.size q i s) (fun iv _ => n - (intOf iv).toNat)
  case atStart => exact ⟨0, _, Nat.zero_le _, rfl, T3.out⟩
  case round =>
    obtain ⟨i, s, hi, rfl, ht⟩ := hrel
    have HT := Kp.mk ht
    clear ht
    have HI := Kp.mk hi
    clear hi
    by_cases hlt : i < n
    · by_cases h80 : i < 80
      · have b1 : (i : Int) < (n : Int) := by omega
        have b2 : (i : Int) < 80 := by omega
        have b3 : IntKind.i64.wrap ((i : Int) + 1) = (i : Int) + 1 := by rw [IntKind.wrap_i64]; omega
        obtain ⟨g, o, rfl, hall⟩ := HD.out.at_ (by omega)
        obtain ⟨a, m, B, k, d, l, r1, r2, e0, e1, e2, hb⟩ := hall i hlt
        have HRG : Kp (wr.rangeAt g (o + i * 3) [.int .i64 a, .int .u8 (ub m), .slice B k d]) := ⟨fun j v hj => by
          match j with
          | 0 => rw [← hj]; exact (HT.out.x.b.cell (p := ⟨g, o + i * 3, none⟩) (block_lt_of_cell e0)).trans e0
          | 1 => rw [← hj]; exact (HT.out.x.b.cell (p := ⟨g, o + i * 3 + 1, none⟩) (block_lt_of_cell e1)).trans e1
          | 2 => rw [← hj]; exact (HT.out.x.b.cell (p := ⟨g, o + i * 3 + 2, none⟩) (block_lt_of_cell e2)).trans e2
          | j + 3 => simp at hj⟩
        have HB := Kp.mk hb
        have HNB := Kp.mk (Blk.new wr ddt #[.int .i64 0, .int .u8 0, .slice none 0 0])
        have HX5 : Kp (Ext wr ((wr.alloc (.cells #[.int .i64 0, .int .u8 0, .slice none 0 0] ddt)).setRow wr.heap.size #[.int .i64 a, .int .u8 (ub m), .slice B k d])) := ⟨Ext.setRow ((by (repeat (first | assumption | exact Ext.refl _ | apply Ext.drew | apply Ext.drewN | apply Ext.alloc | refine Ext.trans ?_ (by assumption))); first | done | fail) : Ext wr (wr.alloc (.cells #[.int .i64 0, .int .u8 0, .slice none 0 0] ddt))) (Nat.le_refl _) _⟩
        have HD5 : Kp (Blk ((wr.alloc (.cells #[.int .i64 0, .int .u8 0, .slice none 0 0] ddt)).setRow wr.heap.size #[.int .i64 a, .int .u8 (ub m), .slice B k d]) wr.heap.size ddt #[.int .i64 a, .int .u8 (ub m), .slice B k d]) := ⟨HNB.out.row _⟩
        have PK := Kp.mk (fun u => pick_any a 3 r1 r2 (by decide) (by decide) u)
        have H80 := Kp.mk (show i ≤ 79 by omega)
        have HLT := Kp.mk hlt
        clear hall r1 r2 e0 e1 e2 hb hlt h80
        obtain ⟨gd, hgd⟩ : ∃ gd, gd = wr.heap.size := ⟨_, rfl⟩
        by_cases hk : 300 < k
        · have c1 : (300 : Int) < (k : Int) := by omega
          clear hk hgd
          go_wp2_with (first | ((with_reducible refine at_load_to 30 29 ?_); refine wpList_load_mid rfl ddt (.tmp 29) rfl g (o + i * 3) rfl [.int .i64 a, .int .u8 (ub m), .slice B k d] _ HRG.out Try.underlying38 rfl szDd ?_) | ((with_reducible refine at_store 7 30 ?_); refine wpList_store_row rfl ddt _ _ rfl wr.heap.size #[.int .i64 a, .int .u8 (ub m), .slice B k d] rfl rfl ddt _ HNB.out.h szDd rfl (one_dd _ _ _ _ _) ?_; generalize (wr.alloc (.cells #[.int .i64 0, .int .u8 0, .slice none 0 0] ddt)).setRow wr.heap.size #[.int .i64 a, .int .u8 (ub m), .slice B k d] = w5 at *; have k50 := HD5.out.h.cell 0; have k51 := HD5.out.h.cell 1; have k52 := HD5.out.h.cell 2) | fail)
          go_roundw
          case rel => exact ⟨i + 1, s, HLT.out, by go_num, HT.out.h.ext HX5.out, HT.out.v, HT.out.c, by have := HT.out.z; omega, HT.out.x.trans HX5.out⟩
          case measure => have := HLT.out; simp [intOf]; omega
        · have c1 : decide ((300 : Int) < (k : Int)) = false := decide_eq_false (by omega)
          have c1' : decide (300 < k) = false := decide_eq_false (by omega)
          have HK := Kp.mk (show k ≤ 300 by omega)
          have HSZ := Kp.mk (show szW s ≤ 10000000000000 by have := HT.out.z; have := H80.out; omega)
          clear hk hgd
          rcases pk3 a with hpk | hpk | hpk
          · have PK2 := Kp.mk (fun u => (hpk ▸ PK.out u : Calls Try.prog 14 #[.int .i64 a, .int .i64 3] u fun e w' => e = .returned (.int .i64 0) ∧ w' = u))
            clear hpk
            go_wp2_with (first | ((with_reducible refine at_load_to 30 29 ?_); refine wpList_load_mid rfl ddt (.tmp 29) rfl g (o + i * 3) rfl [.int .i64 a, .int .u8 (ub m), .slice B k d] _ HRG.out Try.underlying38 rfl szDd ?_) | ((with_reducible refine at_store 7 30 ?_); refine wpList_store_row rfl ddt _ _ rfl wr.heap.size #[.int .i64 a, .int .u8 (ub m), .slice B k d] rfl rfl ddt _ HNB.out.h szDd rfl (one_dd _ _ _ _ _) ?_; generalize (wr.alloc (.cells #[.int .i64 0, .int .u8 0, .slice none 0 0] ddt)).setRow wr.heap.size #[.int .i64 a, .int .u8 (ub m), .slice B k d] = w5 at *; have k50 := HD5.out.h.cell 0; have k51 := HD5.out.h.cell 1; have k52 := HD5.out.h.cell 2) | fail)
            refine (PK2.out _).mono ?_
            rintro e w5' ⟨rfl, rfl⟩
            have hp5 := fun (w' : World) (hx : Ext w5' w') => HD5.out.cell hx 1
            have hp52 := fun (w' : World) (hx : Ext w5' w') => HD5.out.cell hx 2
            go_wp2_with fail
            refine (HT.out.h.putL HX5.out m ((HB.out.ext HT.out.x).ext HX5.out) (fun G hl _ => HB.out.off (hl.mono X1.out.size)) HSZ.out).mono ?_
            rintro e w6 ⟨rfl, p6, af6⟩
            have P6 := Kp.mk p6
            have X6 := Kp.mk (af6.n w (HT.out.x.trans HX5.out) X1.out.size)
            have B6 := Kp.mk (af6.blk HD5.out (Nat.le_refl _))
            have k61 := B6.out.h.cell 1
            have k62 := B6.out.h.cell 2
            clear p6 af6
            go_wp2_with fail
            refine (P6.out.putR (Ext.refl w6) m HT.out.v (HB.out.ext X6.out) HSZ.out).mono ?_
            rintro e w7 ⟨rfl, p7, af7⟩
            have P7 := Kp.mk p7
            have X7 := Kp.mk (af7.n w X6.out X1.out.size)
            clear p7 af7 k61 k62 hp5 hp52
            have HV := Kp.mk (HT.out.v.put m l)
            have HC := Kp.mk (HT.out.c.put m l)
            have HZ : Kp (szW (putS m l s) ≤ 400 * (i + 1)) := ⟨by have h1 := szW_put m l s; have h2 := HT.out.z; have h3 := HK.out; have h4 := HB.out.len; omega⟩
            have HZ2 : Kp (szW (putS m l s) ≤ 10000000000000) := ⟨by have := HZ.out; have := H80.out; omega⟩
            obtain ⟨s', hs'⟩ : ∃ s', (putS m l s) = s' := ⟨_, rfl⟩
            rw [hs'] at P7 HV HC HZ HZ2
            clear hs'
            go_wp2_with fail
            refine (P7.out.bytes HV.out HZ2.out).mono ?_
            rintro e w8 ⟨A8, n8, c8, rfl, o8, x8⟩
            have S8 := Kp.mk o8.bs
            have X8 := Kp.mk (X7.out.trans x8)
            have P8 := Kp.mk (P7.out.ext x8)
            clear o8 x8
            go_wp2_with fail
            refine (P8.out.done HV.out).mono ?_
            rintro e w9 ⟨A9, n9, c9, rfl, b9, x9⟩
            have S9 := Kp.mk b9
            have X9 := Kp.mk (X8.out.trans x9)
            have Y9 := Kp.mk x9
            have P9 := Kp.mk (P8.out.ext x9)
            clear b9 x9
            go_wp2_with fail
            refine (Code_any (doneC s') HC.out.done _).mono ?_
            rintro e w10 ⟨rfl, x10⟩
            have X10 := Kp.mk (X9.out.trans x10)
            have P10 := Kp.mk (P9.out.ext x10)
            have t8 := fun (w' : World) (hx : Ext w10 w') => S8.out.str ((Y9.out.trans x10).trans hx)
            have t9 := fun (w' : World) (hx : Ext w10 w') => S9.out.str (x10.trans hx)
            clear x10
            go_wp2_with fail
            go_roundw
            case rel => exact ⟨i + 1, s', HLT.out, by go_num, P10.out.ext (by (repeat (first | assumption | exact Ext.refl _ | apply Ext.drew | apply Ext.drewN | apply Ext.alloc | refine Ext.trans ?_ (by assumption))); first | done | fail), HV.out, HC.out, HZ.out, X10.out.trans (by (repeat (first | assumption | exact Ext.refl _ | apply Ext.drew | apply Ext.drewN | apply Ext.alloc | refine Ext.trans ?_ (by assumption))); first | done | fail)⟩
            case measure => have := HLT.out; simp [intOf]; omega
          · have PK2 := Kp.mk (fun u => (hpk ▸ PK.out u : Calls Try.prog 14 #[.int .i64 a, .int .i64 3] u fun e w' => e = .returned (.int .i64 1) ∧ w' = u))
            clear hpk
            go_wp2_with (first | ((with_reducible refine at_load_to 30 29 ?_); refine wpList_load_mid rfl ddt (.tmp 29) rfl g (o + i * 3) rfl [.int .i64 a, .int .u8 (ub m), .slice B k d] _ HRG.out Try.underlying38 rfl szDd ?_) | ((with_reducible refine at_store 7 30 ?_); refine wpList_store_row rfl ddt _ _ rfl wr.heap.size #[.int .i64 a, .int .u8 (ub m), .slice B k d] rfl rfl ddt _ HNB.out.h szDd rfl (one_dd _ _ _ _ _) ?_; generalize (wr.alloc (.cells #[.int .i64 0, .int .u8 0, .slice none 0 0] ddt)).setRow wr.heap.size #[.int .i64 a, .int .u8 (ub m), .slice B k d] = w5 at *; have k50 := HD5.out.h.cell 0; have k51 := HD5.out.h.cell 1; have k52 := HD5.out.h.cell 2) | fail)
            refine (PK2.out _).mono ?_
            rintro e w5' ⟨rfl, rfl⟩
            have hp5 := fun (w' : World) (hx : Ext w5' w') => HD5.out.cell hx 1
            have hp52 := fun (w' : World) (hx : Ext w5' w') => HD5.out.cell hx 2
            go_wp2_with fail
            refine (HT.out.h.openL HX5.out m HSZ.out).mono ?_
            rintro e w6 ⟨rfl, p6, af6⟩
            have P6 := Kp.mk p6
            have X6 := Kp.mk (af6.n w (HT.out.x.trans HX5.out) X1.out.size)
            have B6 := Kp.mk (af6.blk HD5.out (Nat.le_refl _))
            have k61 := B6.out.h.cell 1
            have k62 := B6.out.h.cell 2
            clear p6 af6
            go_wp2_with fail
            refine (P6.out.openR (Ext.refl w6) m HT.out.v).mono ?_
            rintro e w7 ⟨rfl, p7, af7⟩
            have P7 := Kp.mk p7
            have X7 := Kp.mk (af7.n w X6.out X1.out.size)
            clear p7 af7 k61 k62 hp5 hp52
            have HV := Kp.mk (HT.out.v.open_ m)
            have HC := Kp.mk (HT.out.c.open_ m)
            have HZ : Kp (szW (openS m s) ≤ 400 * (i + 1)) := ⟨by have h1 := szW_open m s; have h2 := HT.out.z; have h3 := HK.out; have h4 := HB.out.len; omega⟩
            have HZ2 : Kp (szW (openS m s) ≤ 10000000000000) := ⟨by have := HZ.out; have := H80.out; omega⟩
            obtain ⟨s', hs'⟩ : ∃ s', (openS m s) = s' := ⟨_, rfl⟩
            rw [hs'] at P7 HV HC HZ HZ2
            clear hs'
            go_wp2_with fail
            refine (P7.out.bytes HV.out HZ2.out).mono ?_
            rintro e w8 ⟨A8, n8, c8, rfl, o8, x8⟩
            have S8 := Kp.mk o8.bs
            have X8 := Kp.mk (X7.out.trans x8)
            have P8 := Kp.mk (P7.out.ext x8)
            clear o8 x8
            go_wp2_with fail
            refine (P8.out.done HV.out).mono ?_
            rintro e w9 ⟨A9, n9, c9, rfl, b9, x9⟩
            have S9 := Kp.mk b9
            have X9 := Kp.mk (X8.out.trans x9)
            have Y9 := Kp.mk x9
            have P9 := Kp.mk (P8.out.ext x9)
            clear b9 x9
            go_wp2_with fail
            refine (Code_any (doneC s') HC.out.done _).mono ?_
            rintro e w10 ⟨rfl, x10⟩
            have X10 := Kp.mk (X9.out.trans x10)
            have P10 := Kp.mk (P9.out.ext x10)
            have t8 := fun (w' : World) (hx : Ext w10 w') => S8.out.str ((Y9.out.trans x10).trans hx)
            have t9 := fun (w' : World) (hx : Ext w10 w') => S9.out.str (x10.trans hx)
            clear x10
            go_wp2_with fail
            go_roundw
            case rel => exact ⟨i + 1, s', HLT.out, by go_num, P10.out.ext (by (repeat (first | assumption | exact Ext.refl _ | apply Ext.drew | apply Ext.drewN | apply Ext.alloc | refine Ext.trans ?_ (by assumption))); first | done | fail), HV.out, HC.out, HZ.out, X10.out.trans (by (repeat (first | assumption | exact Ext.refl _ | apply Ext.drew | apply Ext.drewN | apply Ext.alloc | refine Ext.trans ?_ (by assumption))); first | done | fail)⟩
            case measure => have := HLT.out; simp [intOf]; omega
          · have PK2 := Kp.mk (fun u => (hpk ▸ PK.out u : Calls Try.prog 14 #[.int .i64 a, .int .i64 3] u fun e w' => e = .returned (.int .i64 2) ∧ w' = u))
            clear hpk
            go_wp2_with (first | ((with_reducible refine at_load_to 30 29 ?_); refine wpList_load_mid rfl ddt (.tmp 29) rfl g (o + i * 3) rfl [.int .i64 a, .int .u8 (ub m), .slice B k d] _ HRG.out Try.underlying38 rfl szDd ?_) | ((with_reducible refine at_store 7 30 ?_); refine wpList_store_row rfl ddt _ _ rfl wr.heap.size #[.int .i64 a, .int .u8 (ub m), .slice B k d] rfl rfl ddt _ HNB.out.h szDd rfl (one_dd _ _ _ _ _) ?_; generalize (wr.alloc (.cells #[.int .i64 0, .int .u8 0, .slice none 0 0] ddt)).setRow wr.heap.size #[.int .i64 a, .int .u8 (ub m), .slice B k d] = w5 at *; have k50 := HD5.out.h.cell 0; have k51 := HD5.out.h.cell 1; have k52 := HD5.out.h.cell 2) | fail)
            refine (PK2.out _).mono ?_
            rintro e w5' ⟨rfl, rfl⟩
            have hp5 := fun (w' : World) (hx : Ext w5' w') => HD5.out.cell hx 1
            have hp52 := fun (w' : World) (hx : Ext w5' w') => HD5.out.cell hx 2
            go_wp2_with fail
            refine (HT.out.h.closeL HX5.out HT.out.v HSZ.out).mono ?_
            rintro e w6 ⟨rfl, p6, af6⟩
            have P6 := Kp.mk p6
            have X6 := Kp.mk (af6.n w (HT.out.x.trans HX5.out) X1.out.size)
            have B6 := Kp.mk (af6.blk HD5.out (Nat.le_refl _))
            have k61 := B6.out.h.cell 1
            have k62 := B6.out.h.cell 2
            clear p6 af6
            go_wp2_with fail
            refine (P6.out.closeR (Ext.refl w6) HT.out.v HSZ.out).mono ?_
            rintro e w7 ⟨rfl, p7, af7⟩
            have P7 := Kp.mk p7
            have X7 := Kp.mk (af7.n w X6.out X1.out.size)
            clear p7 af7 k61 k62 hp5 hp52
            have HV := Kp.mk (HT.out.v.close)
            have HC := Kp.mk (HT.out.c.close)
            have HZ : Kp (szW (closeS s) ≤ 400 * (i + 1)) := ⟨by have h1 := szW_close s; have h2 := HT.out.z; have h3 := HK.out; have h4 := HB.out.len; omega⟩
            have HZ2 : Kp (szW (closeS s) ≤ 10000000000000) := ⟨by have := HZ.out; have := H80.out; omega⟩
            obtain ⟨s', hs'⟩ : ∃ s', (closeS s) = s' := ⟨_, rfl⟩
            rw [hs'] at P7 HV HC HZ HZ2
            clear hs'
            go_wp2_with fail
            refine (P7.out.bytes HV.out HZ2.out).mono ?_
            rintro e w8 ⟨A8, n8, c8, rfl, o8, x8⟩
            have S8 := Kp.mk o8.bs
            have X8 := Kp.mk (X7.out.trans x8)
            have P8 := Kp.mk (P7.out.ext x8)
            clear o8 x8
            go_wp2_with fail
            refine (P8.out.done HV.out).mono ?_
            rintro e w9 ⟨A9, n9, c9, rfl, b9, x9⟩
            have S9 := Kp.mk b9
            have X9 := Kp.mk (X8.out.trans x9)
            have Y9 := Kp.mk x9
            have P9 := Kp.mk (P8.out.ext x9)
            clear b9 x9
            go_wp2_with fail
            refine (Code_any (doneC s') HC.out.done _).mono ?_
            rintro e w10 ⟨rfl, x10⟩
            have X10 := Kp.mk (X9.out.trans x10)
            have P10 := Kp.mk (P9.out.ext x10)
            have t8 := fun (w' : World) (hx : Ext w10 w') => S8.out.str ((Y9.out.trans x10).trans hx)
            have t9 := fun (w' : World) (hx : Ext w10 w') => S9.out.str (x10.trans hx)
            clear x10
            go_wp2_with fail
            go_roundw
            case rel => exact ⟨i + 1, s', HLT.out, by go_num, P10.out.ext (by (repeat (first | assumption | exact Ext.refl _ | apply Ext.drew | apply Ext.drewN | apply Ext.alloc | refine Ext.trans ?_ (by assumption))); first | done | fail), HV.out, HC.out, HZ.out, X10.out.trans (by (repeat (first | assumption | exact Ext.refl _ | apply Ext.drew | apply Ext.drewN | apply Ext.alloc | refine Ext.trans ?_ (by assumption))); first | done | fail)⟩
            case measure => have := HLT.out; simp [intOf]; omega
      · have b1 : (i : Int) < (n : Int) := by omega
        have b2 : decide ((i : Int) < 80) = false := decide_eq_false (by omega)
        have b2' : decide (i < 80) = false := decide_eq_false (by omega)
        clear hlt h80
        go_wp2_with fail
        go_ret
        exact ⟨rfl, HT.out.x.b⟩
    · have b1 : decide ((i : Int) < (n : Int)) = false := decide_eq_false (by omega)
      have b1' : decide (i < n) = false := decide_eq_false (by omega)
      clear hlt
      go_wp2_with fail
      go_ret
      exact ⟨rfl, HT.out.x.b⟩
end Go.Proofs.Ytadndhenfoppiaa
