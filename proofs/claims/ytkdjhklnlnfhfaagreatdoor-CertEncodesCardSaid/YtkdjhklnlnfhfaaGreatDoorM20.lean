/-
  nat: bitsOf, hasBit; power.
  nat: power.
  nat: Exp.
  nat: invert.
-/
import Derived.Test.YtkdjhklnlnfhfaaGreatDoorM19
namespace Go.Proofs.YtkdjhklnlnfhfaaGreatDoor
open Go Go.RowKit
set_option maxRecDepth 4000

theorem bitLen_hi (x : Nat) (hx : x < 4294967296) : x < 2 ^ Lib.bitLen x ∧ Lib.bitLen x ≤ 32 := by
  unfold Lib.bitLen
  by_cases h0 : x = 0
  · subst h0
    exact ⟨Nat.pow_pos (by decide), Lib.bitLenAux_le 64 0 32 (by decide)⟩
  · exact ⟨(Lib.bitLenAux_bounds 64 x (by omega) h0).2.2, Lib.bitLenAux_le 64 x 32 (by omega)⟩
theorem bitsOf_any {l : List Nat} {A : Option Addr} {n c : Nat} {w : World} (h : Rd vL w A n c l) (hd : Dg BB l) (hn : n ≤ 1000000) :
    Calls Tryz.prog 171 #[.slice A n c] w fun e w' => ∃ k : Nat, e = .returned (.int .i64 (k : Int)) ∧ vl BB l < 2 ^ k ∧ k ≤ 32 * n ∧ w' = w := by
  have hl := h.len
  by_cases h0 : n = 0
  · subst h0
    have e : l = [] := List.eq_nil_of_length_eq_zero hl
    subst e
    clear h hd
    go_enter Tryz.func171, Tryz.ntmps171
    go_wp2_with fail
    go_ret
    exact ⟨0, rfl, by decide, by omega, rfl⟩
  · obtain ⟨q, rfl⟩ : ∃ q, n = q + 1 := ⟨n - 1, by omega⟩
    obtain ⟨g, o, rfl⟩ := h.some_ (by omega)
    have k1 := h.dig q (by omega)
    unfold vL at k1
    have h1 := hd.at32 q
    have hb := bitLen_hi (dg l q) h1
    have hv : vl BB l < 2 ^ (32 * q + Lib.bitLen (dg l q)) := by
      have h2 := vl_split BB l q (by omega)
      rw [List.drop_eq_nil_of_le (by omega)] at h2
      simp only [vl, Nat.mul_zero, Nat.add_zero] at h2
      have h3 := vl_lt (by decide) (hd.take q)
      rw [List.length_take, Nat.min_eq_left (by omega)] at h3
      have h4 : BB ^ q * (dg l q + 1) ≤ BB ^ q * 2 ^ Lib.bitLen (dg l q) := Nat.mul_le_mul_left _ hb.1
      rw [Nat.mul_succ] at h4
      rw [Nat.pow_add, Nat.pow_mul, show (2 : Nat) ^ 32 = BB from rfl]
      omega
    have hL := Len32_any (dg l q) h1
    have e1 : ((q + 1 : Nat) : Int) - 1 = (q : Int) := by omega
    have b1 : (q : Int) < ((q + 1 : Nat) : Int) := by omega
    have b2 : ¬ ((q + 1 : Nat) : Int) = 0 := by omega
    have hb2 := hb.2
    have HV := Kp.mk hv
    clear h hd hv hb
    generalize dg l q = y at *
    generalize Lib.bitLen y = B at *
    go_enter Tryz.func171, Tryz.ntmps171
    go_wp2_with fail
    refine (hL _).mono ?_
    rintro e w1 ⟨rfl, rfl⟩
    go_wp2_with fail
    go_ret
    exact ⟨32 * q + B, by first | rfl | go_num, HV.out, by omega, rfl⟩
theorem and1 (y : Nat) (hy : y < 4294967296) : bits .and .u32 (y : Int) 1 = ((y % 2 : Nat) : Int) := by
  show IntKind.u32.wrap ((BitVec.ofInt 32 (y : Int) &&& BitVec.ofInt 32 1).toNat : Int) = _
  rw [BitVec.ofInt_natCast, show BitVec.ofInt 32 1 = BitVec.ofNat 32 1 by decide, BitVec.toNat_and, BitVec.toNat_ofNat, BitVec.toNat_ofNat, Nat.mod_eq_of_lt (by omega), show 1 % 2 ^ 32 = 1 by decide, Nat.and_one_is_mod, IntKind.wrap_u32]
  omega
theorem hasBit_any {l : List Nat} {A : Option Addr} {n c i : Nat} {w : World} (h : Rd vL w A n c l) (hd : Dg BB l) (hn : n ≤ 1000000) (hi : i < 32 * n) :
    Calls Tryz.prog 218 #[.slice A n c, .int .i64 (i : Int)] w fun e w' => e = .returned (.bool (decide (vl BB l / 2 ^ i % 2 = 1))) ∧ w' = w := by
  have hq : i / 32 < n := by omega
  rw [show vl BB l / 2 ^ i % 2 = dg l (i / 32) / 2 ^ (i % 32) % 2 from bit_dg 32 l hd i (by decide)]
  obtain ⟨g, o, rfl⟩ := h.some_ (by omega)
  have k1 := h.dig (i / 32) (by omega)
  unfold vL at k1
  have h1 := hd.at32 (i / 32)
  have q1 : (i : Int) / 32 = ((i / 32 : Nat) : Int) := by omega
  have q2 : (i : Int) % 32 = ((i % 32 : Nat) : Int) := by omega
  have hr : i % 32 < 32 := by omega
  have hib : (i : Int) < 32000000 := by omega
  clear h hd
  generalize dg l (i / 32) = y at *
  obtain ⟨q, hqq⟩ : ∃ q, i / 32 = q := ⟨_, rfl⟩
  obtain ⟨r, hrr⟩ : ∃ r, i % 32 = r := ⟨_, rfl⟩
  rw [hqq] at q1 hq k1
  rw [hrr] at q2 hr ⊢
  have hy : y / 2 ^ r < 4294967296 := Nat.lt_of_le_of_lt (Nat.div_le_self _ _) h1
  have e1 : (y : Int) / 2 ^ r = ((y / 2 ^ r : Nat) : Int) := by simp
  have e2 := and1 (y / 2 ^ r) hy
  generalize y / 2 ^ r = z at *
  have b1 : (q : Int) < (n : Int) := by omega
  clear hqq hrr
  go_enter Tryz.func218, Tryz.ntmps218
  go_wp2_with fail
  go_ret
  refine ⟨?_, rfl⟩
  have e3 : ((z : Int) % 2 == 1) = decide (z % 2 = 1) := by
    rw [Bool.eq_iff_iff, beq_iff_eq, decide_eq_true_iff]
    omega
  rw [← e3]
  rfl
end Go.Proofs.YtkdjhklnlnfhfaaGreatDoor
namespace Go.Proofs.YtkdjhklnlnfhfaaGreatDoor
open Go Go.RowKit
set_option maxRecDepth 4000

theorem pw_step {va ve vm V x p : Nat} (hd : vm ∣ V) (hx : x % vm = va ^ (ve / 2 ^ (p + 1)) % vm) :
    (ve / 2 ^ p % 2 ≠ 1 → x * x % V % vm = va ^ (ve / 2 ^ p) % vm) ∧ (ve / 2 ^ p % 2 = 1 → x * x % V * (va % vm) % V % vm = va ^ (ve / 2 ^ p) % vm) := by
  have h := pow_bit va ve vm p
  rw [← hx, ← Nat.mul_mod] at h
  constructor
  · intro hb
    rw [if_neg hb, Nat.mul_one, Nat.mod_mod] at h
    rw [Nat.mod_mod_of_dvd _ hd, h]
  · intro hb
    rw [if_pos hb] at h
    rw [Nat.mod_mod_of_dvd _ hd, h, Nat.mul_mod, Nat.mod_mod_of_dvd _ hd, ← Nat.mul_mod, Nat.mod_mul_mod]
/-- between the rounds -/
structure PwS (w7 : World) (gO gw gt M V : Nat) (lo LW LT : List Nat) (wr : World) : Prop where
  ol : lo.length = M
  od : Dg BB lo
  ov : vl BB lo < V
  ob : Lb wr gO lo
  wl : LW.length = 2 * M
  wb : Lb wr gw LW
  tl : LT.length = M
  td : Dg BB LT
  tb : Lb wr gt LT
  x : Mds [gO, gw, gt] w7 wr
/-- the load of a ring, behind a name: the walk doesn't open it cell by cell -/
def loadR (v : Value) : Sem Value := Instr.loadAt rt v
theorem loadR_eq (v : Value) : Instr.loadAt rt v = loadR v := rfl
attribute [local go_sem ↓] loadR_eq
theorem ring_load {w : World} {g : Nat} {x y z : Value} (h : Blk w g rt #[x, y, z]) : (loadR (.pointer (some ⟨g, 0, none⟩))).run Tryz.prog w = .ok (.agg #[x, y, z]) w :=
  run_loadAt_mid w g 0 rt [x, y, z] _ (fun j v hv => by rw [Nat.zero_add, h.h.cell j, ← hv]; simp) Tryz.underlying240 rfl (by kernel_rfl)
set_option maxHeartbeats 2000000 in
theorem power_any {A E B : Option Addr} {c ec d va ve vm m : Nat} {w : World} (ha : Rd vL w A (nl va) c (dgs BB va)) (he : Rd vL w E (nl ve) ec (dgs BB ve)) (hb : Rd vL w B (m + 1) d (dgs BB vm)) (la : nl va ≤ 64) (le : nl ve ≤ 64) (lm : nl vm = m + 1) (lmb : m + 1 ≤ 64) :
    Calls Tryz.prog 170 #[.slice A (nl va) c, .slice E (nl ve) ec, .slice B (m + 1) d] w (FreshL w (va ^ ve % vm)) := by
  have hm0 : vm ≠ 0 := fun e => by subst e; have : nl 0 = 0 := rfl; omega
  have ht := top_dgs hm0
  rw [lm, Nat.add_sub_cancel] at ht
  have HA := Kp.mk ha
  have HE := Kp.mk he
  have HB := Kp.mk hb
  have HT := Kp.mk ht
  have HM0 := Kp.mk hm0
  have HLM := Kp.mk lm
  have C0 := Kp.mk (headroom_any hb (cn_dgs (by decide) vm).d (by omega) ht (by omega))
  clear ha he hb ht hm0 lm
  go_enter Tryz.func170, Tryz.ntmps170
  go_wp2_with fail
  refine C0.out.mono ?_
  rintro e w1 ⟨s, k, x, rfl, hs, hx, hk, hh, hm1, hm2, rfl⟩
  rw [Nat.add_sub_cancel] at hh
  obtain ⟨M1, hM1⟩ : ∃ M1, m + 1 + k + 1 = M1 := ⟨_, rfl⟩
  obtain ⟨M, hM⟩ : ∃ M, m + k + 1 = M := ⟨_, rfl⟩
  obtain ⟨V, hV⟩ : ∃ V, vm * 2 ^ s = V := ⟨_, rfl⟩
  have C1 := Kp.mk (shiftUp_any HB.out (cn_dgs (by decide) vm).d hs hx (by omega) hk)
  rw [hM1, vl_dgs (B := BB) (by decide), hV] at C1
  have hnl : nl V = M := by
    have h := shift_nl (b := dgs BB vm) HB.out.len (cn_dgs (by decide) vm).d HT.out hs hx hh
    rw [vl_dgs (by decide), hV] at h
    rw [h, hM]
  have hM2 : 2 ≤ M := by
    by_cases h : m = 0
    · have := hm1 (by omega); omega
    · omega
  have hs0 : 0 < 2 ^ s := Nat.pow_pos (by decide)
  have hVm : vm ≤ V := by rw [← hV]; exact Nat.le_mul_of_pos_right _ hs0
  have hVd : vm ∣ V := ⟨2 ^ s, hV.symm⟩
  have HV := Kp.mk (And.intro hnl (And.intro hVm hVd))
  have hMb : M ≤ 66 := by omega
  have hM1b : M1 ≤ 67 := by omega
  have hmM : m + 1 ≤ M := by omega
  clear C0 hs hh hm1 hm2 hM hM1 hnl hVm hVd hV hs0 hx hk
  go_wp2_with fail
  refine C1.out.mono ?_
  rintro e w2 ⟨P, rfl, hPl, hPd, hPv, hP2, hx2⟩
  have C2 := Kp.mk (counted_own (B := w1.heap.size) (hP2.own (Nat.le_refl _) hPl (by unfold maxLen; omega)) hPd (by omega))
  rw [hPv, HV.out.1] at C2
  have HX2 := Kp.mk hx2
  clear hPl hPd hPv hP2 C1 hx2
  go_wp2_with fail
  refine C2.out.mono ?_
  rintro e w3 ⟨rfl, _, hR, rfl⟩
  have HR := Kp.mk hR
  have C3 := Kp.mk (ringOf_any (A := some ⟨w1.heap.size, 0, none⟩) (n := M) (c := M1) (w := w3) (by omega))
  clear hR C2
  go_wp2_with fail
  refine C3.out.mono ?_
  rintro e w4 ⟨gw, gt, rfl, hne, hgw, hgt, hW4, hT4, hx4⟩
  have HX4 := Kp.mk (HX2.out.trans hx4)
  have HW4 := Kp.mk (And.intro hne (And.intro hgw (And.intro hgt (And.intro hW4 hT4))))
  have HR4 := Kp.mk (HR.out.ext hx4)
  clear C3 hne hgw hgt hW4 hT4 hx4
  go_wp2_with fail
  have hbox : Blk (w4.alloc (.cells #[.slice (some ⟨w1.heap.size, 0, none⟩) M M1, .slice (some ⟨gw, 0, none⟩) (2 * M) (2 * M), .slice (some ⟨gt, 0, none⟩) M M] rt)) w4.heap.size rt #[.slice (some ⟨w1.heap.size, 0, none⟩) M M1, .slice (some ⟨gw, 0, none⟩) (2 * M) (2 * M), .slice (some ⟨gt, 0, none⟩) M M] := Blk.new w4 rt _
  have hxa : Ext w4 (w4.alloc (.cells #[.slice (some ⟨w1.heap.size, 0, none⟩) M M1, .slice (some ⟨gw, 0, none⟩) (2 * M) (2 * M), .slice (some ⟨gt, 0, none⟩) M M] rt)) := (by (repeat (first | assumption | exact Ext.refl _ | apply Ext.drew | apply Ext.drewN | apply Ext.alloc | refine Ext.trans ?_ (by assumption))); first | done | fail)
  have C4 := Kp.mk (divide_any (HA.out.ext (HX4.out.trans hxa)) (HB.out.ext (HX4.out.trans hxa)) (cn_dgs (by decide) va).d (cn_dgs (by decide) vm).d (by omega) (by omega) HT.out)
  rw [vl_dgs (B := BB) (by decide), vl_dgs (B := BB) (by decide)] at C4
  have HBOX := Kp.mk (And.intro hbox hxa)
  clear hbox hxa
  refine C4.out.mono ?_
  rintro e w5 ⟨A4, n4, c4, A5, n5, c5, rfl, _, ho5, hx5⟩
  have hx45 : Ext w4 w5 := HBOX.out.2.trans hx5
  have hbx5 := HBOX.out.1.ext hx5
  have hn5 : n5 ≤ M := by
    have h1 := ho5.len
    have h2 : nl (va % vm) ≤ nl vm := nl_mono (Nat.le_of_lt (Nat.mod_lt _ (Nat.pos_of_ne_zero HM0.out)))
    have h3 := HLM.out
    unfold nl at h2 h3
    omega
  have hload : ∀ w' : World, Ext w5 w' → (loadR (.pointer (some ⟨w4.heap.size, 0, none⟩))).run Tryz.prog w' = .ok (.agg #[.slice (some ⟨w1.heap.size, 0, none⟩) M M1, .slice (some ⟨gw, 0, none⟩) (2 * M) (2 * M), .slice (some ⟨gt, 0, none⟩) M M]) w' := fun w' h => ring_load (hbx5.ext h)
  have HX5 := Kp.mk (And.intro hx45 hbx5)
  have CT := Kp.mk (fun w' (h : Ext w5 w') => take_any (R0 := some ⟨w1.heap.size, 0, none⟩) (R1 := some ⟨gw, 0, none⟩) (R2 := some ⟨gt, 0, none⟩) (m0 := M) (d0 := M1) (m1 := 2 * M) (d1 := 2 * M) (m2 := M) (d2 := M) (ho5.rd.ext h) (cn_dgs (by decide) (va % vm)).d hn5 (by omega))
  rw [vl_dgs (B := BB) (by decide)] at CT
  have CO := Kp.mk (fun w' A' (h : Rd vL w' A' 1 1 [1]) => take_any (R0 := some ⟨w1.heap.size, 0, none⟩) (R1 := some ⟨gw, 0, none⟩) (R2 := some ⟨gt, 0, none⟩) (m0 := M) (d0 := M1) (m1 := 2 * M) (d1 := 2 * M) (m2 := M) (d2 := M) h (Dg.one (by decide)) (by omega) (by omega))
  clear C4 ho5 hx5 hx45 hbx5 hn5
  go_wp2_with fail
  refine wp_region_held_drew (S := fun w' => Ext w5 w') (by kernel_rfl) (Ext.refl w5).drew (fun hHeld => ?_)
  refine wpAnyH_take (i := 0) (oi := ⟨some 26, _, _, _, _, _⟩) (v := ?_) rfl (by kernel_rfl) (by kernel_rfl) (by kernel_rfl) (fun _ _ _ h => h) (Or.inl ⟨by rfl, ?_⟩) (by assumption) ?_
  rotate_left
  · (intro w hSw; (try dsimp only at hSw); go_simp; try with_reducible rfl)
  try simp only [Act.put, List.setIfInBounds_toArray, List.set_cons_zero, List.set_cons_succ]
  refine wpAnyH_take (i := 1) (oi := ⟨some 27, _, _, _, _, _⟩) (v := ?_) rfl (by kernel_rfl) (by kernel_rfl) (by kernel_rfl) (fun _ _ _ h => h) (Or.inl ⟨by rfl, ?_⟩) (by assumption) ?_
  rotate_left
  · (intro w hSw; (try dsimp only at hSw); go_simp; try with_reducible rfl)
  try simp only [Act.put, List.setIfInBounds_toArray, List.set_cons_zero, List.set_cons_succ]
  refine wpAnyH_take (i := 3) (oi := ⟨some 29, _, _, _, _, _⟩) (v := ?_) rfl (by kernel_rfl) (by kernel_rfl) (by kernel_rfl) (fun _ _ _ h => h) (Or.inl ⟨by rfl, ?_⟩) (by assumption) ?_
  rotate_left
  · (intro w hSw; (try dsimp only at hSw); go_simp; try with_reducible rfl)
  try simp only [Act.put, List.setIfInBounds_toArray, List.set_cons_zero, List.set_cons_succ]
  refine next_two 2 4 (by kernel_rfl) rfl rfl (by rfl) (by rfl) (fun K' HK' => ?onecall) (fun K' HK' => ?onelit)
  case' onecall =>
    go_simp
    refine (CT.out _ (Ext.refl _).drew).mono ?_
    rintro e w6 ⟨g6, lb, rfl, hg6, hlb, hdb, hvb, hL6, hx6'⟩
    have hx6 : Ext w5 w6 := ((Ext.refl w5).drew).trans hx6'
    have hS2 := Ext.trans hHeld hx6'
    refine held_go HK' hS2 (fun _ => ?_)
    clear HK'
    refine held_more (S' := fun w' => Ext w6 w') (fun _ h => Ext.trans hS2 h) _ _ _ _ ?_
    clear hHeld hS2
    have hHeld : Ext w6 w6 := Ext.refl _
    try simp only [Act.put, List.setIfInBounds_toArray, List.set_cons_zero, List.set_cons_succ]
    refine next_one 4 (by kernel_rfl) rfl (by rfl) fun K' HK' => ?_
    go_simp
    refine held_go HK' (by (repeat (first | assumption | exact Ext.refl _ | apply Ext.drew | apply Ext.drewN | apply Ext.alloc | refine Ext.trans ?_ (by assumption))); first | done | fail) (fun hHeld => ?_)
    clear HK'
    try simp only [Act.put, List.setIfInBounds_toArray, List.set_cons_zero, List.set_cons_succ]
    refine next_one 5 (by kernel_rfl) rfl (by rfl) fun K' HK' => ?_
    go_simp
    refine (CO.out _ _ ((lit_lb w6 [1] w6.heap.size rfl).whole 1 1 rfl (Nat.le_refl _))).mono ?_
    rintro e w7 ⟨g7, lo, rfl, hg7, hlo, hdo, hvo, hL7, hx7'⟩
    have hx7 : Ext w6 w7 := ((Ext.refl w6).alloc _).trans hx7'
    have hS2 := Ext.trans hHeld hx7'
    refine held_go HK' hS2 (fun _ => ?_)
    clear HK'
    refine held_more (S' := fun w' => Ext w7 w') (fun _ h => Ext.trans hS2 h) _ _ _ _ ?_
    clear hHeld hS2
    have hHeld : Ext w7 w7 := Ext.refl _
    try simp only [Act.put, List.setIfInBounds_toArray, List.set_cons_zero, List.set_cons_succ]
    refine wpAnyH_take (i := 6) (oi := ⟨some 10, _, _, _, _, _⟩) (v := ?_) rfl (by kernel_rfl) (by kernel_rfl) (by kernel_rfl) (fun _ _ _ h => h) (Or.inl ⟨by rfl, ?_⟩) (by assumption) ?_
    rotate_left
    · (intro w hSw; (try dsimp only at hSw); go_simp; try with_reducible rfl)
    try simp only [Act.put, List.setIfInBounds_toArray, List.set_cons_zero, List.set_cons_succ]
    refine wpAnyH_take (i := 7) (oi := ⟨some 11, _, _, _, _, _⟩) (v := ?_) rfl (by kernel_rfl) (by kernel_rfl) (by kernel_rfl) (fun _ _ _ h => h) (Or.inl ⟨by rfl, ?_⟩) (by assumption) ?_
    rotate_left
    · (intro w hSw; (try dsimp only at hSw); go_simp; try with_reducible rfl)
    try simp only [Act.put, List.setIfInBounds_toArray, List.set_cons_zero, List.set_cons_succ]
    refine wpAnyH_done (by kernel_rfl) ?_ _
    have hx57 : Ext w5 w7 := hx6.trans hx7
    have hBO : Lb w7 g6 lb := hL6.ext hx7
    have hne67 : g6 ≠ g7 := by have h1 := hL6.lt; have h2 := hx7.size; simp at hg7; omega
    have hg6' : w5.heap.size ≤ g6 := hg6
    have hg7' : w5.heap.size ≤ g7 := by have h2 := hx6.size; simp at hg7; omega
    clear hHeld hx6' hx7' hx6 hx7 hL6 hg6 hg7
  case' onelit =>
    go_simp
    refine held_go HK' (by (repeat (first | assumption | exact Ext.refl _ | apply Ext.drew | apply Ext.drewN | apply Ext.alloc | refine Ext.trans ?_ (by assumption))); first | done | fail) (fun hHeld => ?_)
    clear HK'
    try simp only [Act.put, List.setIfInBounds_toArray, List.set_cons_zero, List.set_cons_succ]
    have hLi := (lit_lb w5.drew [1] w5.heap.size rfl).whole 1 1 rfl (Nat.le_refl _)
    refine next_one 2 (by kernel_rfl) rfl (by rfl) fun K' HK' => ?_
    go_simp
    refine (CT.out _ (by (repeat (first | assumption | exact Ext.refl _ | apply Ext.drew | apply Ext.drewN | apply Ext.alloc | refine Ext.trans ?_ (by assumption))); first | done | fail)).mono ?_
    rintro e w6 ⟨g6, lb, rfl, hg6, hlb, hdb, hvb, hL6, hx6'⟩
    have hx6 : Ext w5 w6 := (show Ext w5 _ from ((Ext.refl w5).drew).alloc _).trans hx6'
    have hLi6 := hLi.ext hx6'
    have hS2 := Ext.trans hHeld hx6'
    refine held_go HK' hS2 (fun _ => ?_)
    clear HK'
    refine held_more (S' := fun w' => Ext w6 w') (fun _ h => Ext.trans hS2 h) _ _ _ _ ?_
    clear hHeld hS2
    have hHeld : Ext w6 w6 := Ext.refl _
    try simp only [Act.put, List.setIfInBounds_toArray, List.set_cons_zero, List.set_cons_succ]
    refine next_one 5 (by kernel_rfl) rfl (by rfl) fun K' HK' => ?_
    go_simp
    refine (CO.out _ _ hLi6).mono ?_
    rintro e w7 ⟨g7, lo, rfl, hg7, hlo, hdo, hvo, hL7, hx7⟩
    have hS2 := Ext.trans hHeld hx7
    refine held_go HK' hS2 (fun _ => ?_)
    clear HK'
    refine held_more (S' := fun w' => Ext w7 w') (fun _ h => Ext.trans hS2 h) _ _ _ _ ?_
    clear hHeld hS2
    have hHeld : Ext w7 w7 := Ext.refl _
    try simp only [Act.put, List.setIfInBounds_toArray, List.set_cons_zero, List.set_cons_succ]
    refine wpAnyH_take (i := 6) (oi := ⟨some 10, _, _, _, _, _⟩) (v := ?_) rfl (by kernel_rfl) (by kernel_rfl) (by kernel_rfl) (fun _ _ _ h => h) (Or.inl ⟨by rfl, ?_⟩) (by assumption) ?_
    rotate_left
    · (intro w hSw; (try dsimp only at hSw); go_simp; try with_reducible rfl)
    try simp only [Act.put, List.setIfInBounds_toArray, List.set_cons_zero, List.set_cons_succ]
    refine wpAnyH_take (i := 7) (oi := ⟨some 11, _, _, _, _, _⟩) (v := ?_) rfl (by kernel_rfl) (by kernel_rfl) (by kernel_rfl) (fun _ _ _ h => h) (Or.inl ⟨by rfl, ?_⟩) (by assumption) ?_
    rotate_left
    · (intro w hSw; (try dsimp only at hSw); go_simp; try with_reducible rfl)
    try simp only [Act.put, List.setIfInBounds_toArray, List.set_cons_zero, List.set_cons_succ]
    refine wpAnyH_done (by kernel_rfl) ?_ _
    have hx57 : Ext w5 w7 := hx6.trans hx7
    have hBO : Lb w7 g6 lb := hL6.ext hx7
    have hne67 : g6 ≠ g7 := by have h1 := hL6.lt; omega
    have hg6' : w5.heap.size ≤ g6 := by simp at hg6; omega
    have hg7' : w5.heap.size ≤ g7 := by have h2 := hx6.size; omega
    clear hHeld hx6' hx6 hx7 hL6 hg6 hg7 hLi hLi6
  all_goals (
    have hv0 : 1 < V := by
      rcases Nat.lt_or_ge 1 V with h | h
      · exact h
      · have h1 := nl_mono h
        rw [HV.out.1, show nl 1 = 1 from rfl] at h1
        omega
    have hVM : V < BB ^ M := by
      have h1 := vl_lt (by decide) (cn_dgs (B := BB) (by decide) V).d
      rw [vl_dgs (by decide)] at h1
      have h2 : (dgs BB V).length = M := HV.out.1
      rwa [h2] at h1
    obtain ⟨hne, hgw, hgt, hW4, hT4⟩ := HW4.out
    obtain ⟨hx45, hbx5⟩ := HX5.out
    have hx47 : Ext w4 w7 := hx45.trans hx57
    have hR7 := HR4.out.ext hx47
    have hbx7 := hbx5.ext hx57
    have hwlt := hW4.lt
    have htlt := hT4.lt
    have hblt := hbx5.lt
    have hsz := hx45.size
    have hrlt : w1.heap.size < w3.heap.size := by
      obtain ⟨g, e1, _, e2⟩ := HR.out.some_ (by omega)
      cases e1
      exact e2
    have HDJ := Kp.mk (show g7 ≠ gw ∧ g7 ≠ gt ∧ gw ≠ gt ∧ g6 ≠ g7 ∧ g6 ≠ gw ∧ g6 ≠ gt ∧ w1.heap.size ≠ g7 ∧ w1.heap.size ≠ gw ∧ w1.heap.size ≠ gt ∧ w4.heap.size ≠ g7 ∧ w4.heap.size ≠ gw ∧ w4.heap.size ≠ gt from ⟨by omega, by omega, hne, hne67, by omega, by omega, by omega, by omega, by omega, by omega, by omega, by omega⟩)
    have HST := Kp.mk (show PwS w7 g7 gw gt M V lo (zl (2 * M)) (zl M) w7 from ⟨hlo, hdo, by rw [hvo]; exact hv0, hL7, zl_len _, hW4.ext hx47, zl_len _, zl_dg _, hT4.ext hx47, Mds.refl _ _⟩)
    have HV1 := Kp.mk hvo
    have HR7 := Kp.mk (show Rd vL w7 (some ⟨w1.heap.size, 0, none⟩) M M1 (dgs BB V) from hR7.rd)
    have HBX := Kp.mk hbx7
    have HBO := Kp.mk (And.intro hBO (And.intro hlb (And.intro hdb hvb)))
    have HVM := Kp.mk hVM
    have HX7 := Kp.mk (HX4.out.trans hx47)
    have HG7 := Kp.mk (show w1.heap.size ≤ g7 ∧ w1.heap.size ≤ gw ∧ w1.heap.size ≤ gt from ⟨by omega, by omega, by omega⟩)
    have HE9 := Kp.mk (fun (u : World) (hu : Mds [g7, gw, gt] w7 u) => (HE.out.ext (HX4.out.trans hx47)).mds hu (HE.out.outs (by simp; omega)))
    have HB9 := Kp.mk (fun (u : World) (hu : Mds [g7, gw, gt] w7 u) => (HB.out.ext (HX4.out.trans hx47)).mds hu (HB.out.outs (by simp; omega)))
    have C6 := Kp.mk (bitsOf_any (HE.out.ext (HX4.out.trans hx47)) (cn_dgs (by decide) ve).d (by omega))
    rw [vl_dgs (B := BB) (by decide)] at C6
    clear hload hx57 hBO hne67 hg6' hg7' hlb hdb hvb hL7 hlo hdo hvo hv0 hVM hne hgw hgt hW4 hT4 hx45 hbx5 hx47 hR7 hbx7 hwlt htlt hblt hsz hrlt CT CO
    go_wp2_with fail
    refine C6.out.mono ?_
    rintro e w8 ⟨K, rfl, hK, hKn, rfl⟩
    have hz0 : vl BB lo % vm = va ^ (ve / 2 ^ (K - 0)) % vm := by rw [HV1.out, show vl BB [1] = 1 from rfl, Nat.sub_zero, Nat.div_eq_of_lt hK, Nat.pow_zero]
    have HZ0 := Kp.mk hz0
    have hKb : K ≤ 2048 := by omega
    clear hK hz0 C6
    go_wp2_with fail
    go_loopw [35] (fun iv wr => ∃ i : Nat, ∃ lo LW LT : List Nat, i ≤ K ∧ iv = .int .i64 (i : Int) ∧ vl BB lo % vm = va ^ (ve / 2 ^ (K - i)) % vm ∧ PwS w8 g7 gw gt M V lo LW LT wr) (fun iv _ => K - (intOf iv).toNat)
    case atStart => exact ⟨0, _, _, _, by omega, rfl, HZ0.out, HST.out⟩
    case round =>
      clear HZ0 HST HV1
      obtain ⟨i, lo, LW, LT, hi, rfl, hz, hr⟩ := hrel
      by_cases hlt : i < K
      · obtain ⟨p, hp⟩ : ∃ p, K - i = p + 1 := ⟨K - i - 1, by omega⟩
        rw [hp] at hz
        have HST := Kp.mk (pw_step HV.out.2.2 hz)
        have e1 : (K : Int) - 1 - (i : Int) = (p : Int) := by omega
        have b0 : (i : Int) < (K : Int) := by omega
        obtain ⟨d1, d2, d3, d4, d5, d6, d7, d8, d9, d10, d11, d12⟩ := HDJ.out
        have hRo : ∀ (u : World), Mds [g7, gw, gt] w8 u → Rd vL u (some ⟨w1.heap.size, 0, none⟩) M M1 (dgs BB V) := fun u hu => HR7.out.mds hu (fun _ => Out.some (by simp; omega))
        have hBx : ∀ (u : World), Mds [g7, gw, gt] w8 u → (loadR (.pointer (some ⟨w4.heap.size, 0, none⟩))).run Tryz.prog u = .ok (.agg #[.slice (some ⟨w1.heap.size, 0, none⟩) M M1, .slice (some ⟨gw, 0, none⟩) (2 * M) (2 * M), .slice (some ⟨gt, 0, none⟩) M M]) u := fun u hu => ring_load (HBX.out.mds hu (by simp; omega))
        have hl1 := hBx wr hr.x
        have hVd := (cn_dgs (B := BB) (by decide) V).d
        have hVt : dg (dgs BB V) (M - 1) ≠ 0 := by
          have h := top_dgs (V := V) (by have := hr.ov; omega)
          rwa [HV.out.1] at h
        have hsq : vl BB lo * vl BB lo < V * BB ^ M := Nat.mul_lt_mul_of_lt_of_le hr.ov (Nat.le_of_lt (Nat.lt_trans hr.ov HVM.out)) (Nat.pow_pos (by decide))
        have C8 := Kp.mk (rmul_any (ca := M) (cb := M) (hRo wr hr.x) hVd hM2 hVt (by omega) hr.wb hr.wl hr.tb hr.tl hr.td hr.ob hr.ol (Nat.le_refl _) hr.od (hr.ob.whole M M hr.ol.symm (Nat.le_refl _)) hr.od d1 d2 d3 (Out.some (by simpa using d1)) (Out.some (by simp; omega)) (by rw [vl_dgs (by decide)]; exact hsq))
        rw [vl_dgs (B := BB) (by decide)] at C8
        have HR := Kp.mk hr
        have HVD := Kp.mk (And.intro hVd hVt)
        have HRO := Kp.mk hRo
        have HP := Kp.mk hp
        have C9 := Kp.mk (fun u (hu : Mds [g7, gw, gt] w8 u) => hasBit_any (i := p) (HE9.out u hu) (cn_dgs (by decide) ve).d (by omega) (by omega))
        rw [vl_dgs (B := BB) (by decide)] at C9
        clear hz hp hsq hVt hVd hRo hr
        go_wp2_with fail
        refine C8.out.mono ?_
        rintro e w9 ⟨lo9, LW9, LT9, rfl, ol9, od9, ov9, ob9, wl9, wb9, tl9, td9, tb9, hm9⟩
        have hm9' : Mds [g7, gw, gt] w8 w9 := HR.out.x.trans hm9
        have hl2 := hBx w9 hm9'
        have hV0 : 0 < V := by have := HR.out.ov; omega
        have hR9 : PwS w8 g7 gw gt M V lo9 LW9 LT9 w9 := ⟨ol9, od9, by rw [ov9]; exact Nat.mod_lt _ hV0, ob9, wl9, wb9, tl9, td9, tb9, hm9'⟩
        have C9' := Kp.mk (C9.out w9 hm9')
        have HR9 := Kp.mk hR9
        have HOV := Kp.mk ov9
        clear ol9 od9 ov9 ob9 wl9 wb9 tl9 td9 tb9 hm9 hm9' hR9 C8 C9 hl1
        by_cases hbit : ve / 2 ^ p % 2 = 1
        · rw [decide_eq_true hbit] at C9'
          have hst := HST.out.2 hbit
          have hlt2 : vl BB lo9 * vl BB lb < V * BB ^ M := by
            refine Nat.mul_lt_mul_of_lt_of_le HR9.out.ov ?_ (Nat.pow_pos (by decide))
            have h1 : va % vm < vm := Nat.mod_lt _ (Nat.pos_of_ne_zero HM0.out)
            have h2 := HV.out.2.1
            have h3 := HVM.out
            rw [HBO.out.2.2.2]
            omega
          have C10 := Kp.mk (rmul_any (ca := M) (cb := M) (HRO.out w9 HR9.out.x) HVD.out.1 hM2 HVD.out.2 (by omega) HR9.out.wb HR9.out.wl HR9.out.tb HR9.out.tl HR9.out.td HR9.out.ob HR9.out.ol (Nat.le_refl _) HR9.out.od (Lb.whole (HBO.out.1.mds HR9.out.x (by simp; omega)) M M HBO.out.2.1.symm (Nat.le_refl _)) HBO.out.2.2.1 d1 d2 d3 (Out.some (by simpa using d5)) (Out.some (by simp; omega)) (by rw [vl_dgs (by decide)]; exact hlt2))
          rw [vl_dgs (B := BB) (by decide), HOV.out, HBO.out.2.2.2] at C10
          have HSTB := Kp.mk hst
          clear hst hlt2 hBx
          go_wp2_with fail
          refine C9'.out.mono ?_
          rintro e w10 ⟨rfl, rfl⟩
          go_wp2_with fail
          refine C10.out.mono ?_
          rintro e w11 ⟨lo9, LW9, LT9, rfl, ol9, od9, ov9, ob9, wl9, wb9, tl9, td9, tb9, hm9⟩
          have hR11 : PwS w8 g7 gw gt M V lo9 LW9 LT9 w11 := ⟨ol9, od9, by rw [ov9]; exact Nat.mod_lt _ hV0, ob9, wl9, wb9, tl9, td9, tb9, HR9.out.x.trans hm9⟩
          have HF := Kp.mk (And.intro (show vl BB lo9 % vm = va ^ (ve / 2 ^ p) % vm by rw [ov9]; exact HSTB.out) hR11)
          clear ol9 od9 ov9 ob9 wl9 wb9 tl9 td9 tb9 hm9 hR11 C10 C9' hl2
          go_wp2_with fail
          go_roundw
          case rel => exact ⟨i + 1, _, _, _, by omega, by go_num, by rw [show K - (i + 1) = p by have := HP.out; omega]; exact HF.out.1, HF.out.2⟩
          case measure => simp [intOf]; omega
        · rw [decide_eq_false hbit] at C9'
          have hst := HST.out.1 hbit
          have HF := Kp.mk (show vl BB lo9 % vm = va ^ (ve / 2 ^ p) % vm by rw [HOV.out]; exact hst)
          clear hst hBx
          go_wp2_with fail
          refine C9'.out.mono ?_
          rintro e w10 ⟨rfl, rfl⟩
          go_wp2_with fail
          go_roundw
          case rel => exact ⟨i + 1, _, _, _, by omega, by go_num, by rw [show K - (i + 1) = p by have := HP.out; omega]; exact HF.out, HR9.out⟩
          case measure => simp [intOf]; omega
      · obtain rfl : i = K := by omega
        have hz2 : vl BB lo % vm = va ^ ve % vm := by rw [hz, Nat.sub_self, Nat.pow_zero, Nat.div_one]
        have hown : Rw ut vL wr w1.heap.size (.slice (some ⟨g7, 0, none⟩) M M) M lo := hr.ob.own HG7.out.1 hr.ol (by unfold maxLen; omega)
        have C11 := Kp.mk (counted_own hown hr.od (by omega))
        have hB : ∀ (u : World), Mds [g7, gw, gt] w8 u → Rd vL u B (m + 1) d (dgs BB vm) := HB9.out
        have hnv : nl (vl BB lo) ≤ M := by
          have h := nl_mono (Nat.le_of_lt hr.ov)
          rwa [HV.out.1] at h
        have HX11 := Kp.mk (And.intro hr.x (hr.x.ext HX7.out (by have := HG7.out; simp; omega)))
        have HZ2 := Kp.mk hz2
        clear hr hz hz2 hown
        go_wp2_with fail
        refine C11.out.mono ?_
        rintro e w12 ⟨rfl, _, hc12, rfl⟩
        have C12 := Kp.mk (divide_any hc12.rd (hB _ HX11.out.1) (cn_dgs (by decide) (vl BB lo)).d (cn_dgs (by decide) vm).d (by omega) (by omega) HT.out)
        rw [vl_dgs (B := BB) (by decide), vl_dgs (B := BB) (by decide), HZ2.out] at C12
        clear hc12 C11 hB
        go_wp2_with fail
        refine C12.out.mono ?_
        rintro e w13 ⟨A14, n14, c14, A15, n15, c15, rfl, _, ho15, hx15⟩
        have HF := Kp.mk (show FreshL w1 (va ^ ve % vm) (.returned (.slice A15 n15 c15)) w13 from ⟨_, _, _, rfl, ho15.lower HX11.out.2.size, HX11.out.2.trans hx15⟩)
        clear ho15 hx15
        go_wp2_with fail
        go_ret
        exact HF.out
    )
end Go.Proofs.YtkdjhklnlnfhfaaGreatDoor
namespace Go.Proofs.YtkdjhklnlnfhfaaGreatDoor
open Go Go.RowKit
set_option maxRecDepth 4000

section
variable {w : World} {A E B : Option Addr} {n c m d k ec : Nat} {a x b : List Nat}
theorem three (ha : In1 w A n c a) (he : In1 w E k ec x) (hb : In1 w B m d b) (r : Bool) (h : r = true ↔ lng (vl BB a) ∨ lng (vl BB x) ∨ lng (vl BB b)) :
    Calls Tryz.prog 169 #[.slice (some ⟨w.heap.size, 0, none⟩) 3 3] (w.alloc (.cells #[.slice A n c, .slice E k ec, .slice B m d] nt)) fun e w' => e = .returned (.bool r) ∧ w' = w.alloc (.cells #[.slice A n c, .slice E k ec, .slice B m d] nt) :=
  anyLong_at w nt [⟨A, n, c, a⟩, ⟨E, k, ec, x⟩, ⟨B, m, d, b⟩] _ rfl 3 rfl (by omega) (by simp [ha.ok, he.ok, hb.ok]) r (by simpa using h)
theorem Exp_long (ha : In1 w A n c a) (he : In1 w E k ec x) (hb : In1 w B m d b) (h : lng (vl BB a) ∨ lng (vl BB x) ∨ lng (vl BB b)) : Calls Tryz.prog 123 #[.slice A n c, .slice E k ec, .slice B m d] w (Bad1 w 4) := by
  have C := Kp.mk (three ha he hb true (by simpa using h))
  clear ha he hb h
  go_enter Tryz.func123, Tryz.ntmps123
  go_wp2_with fail
  refine C.out.mono ?_
  rintro e w1 ⟨rfl, rfl⟩
  go_wp2_with fail
  go_ret2
  exact ⟨rfl, (by (repeat (first | assumption | exact Ext.refl _ | apply Ext.drew | apply Ext.drewN | apply Ext.alloc | refine Ext.trans ?_ (by assumption))); first | done | fail)⟩
theorem Exp_zero (ha : In1 w A n c a) (he : In1 w E k ec x) (hb : In1 w B m d b) (h1 : ¬ lng (vl BB a)) (h2 : ¬ lng (vl BB x)) (h3 : vl BB b = 0) : Calls Tryz.prog 123 #[.slice A n c, .slice E k ec, .slice B m d] w (Bad1 w 1) := by
  have C := Kp.mk (three ha he hb false (by simp [h1, h2, h3]; decide))
  have hx : Ext w (w.alloc (.cells #[.slice A n c, .slice E k ec, .slice B m d] nt)) := (by (repeat (first | assumption | exact Ext.refl _ | apply Ext.drew | apply Ext.drewN | apply Ext.alloc | refine Ext.trans ?_ (by assumption))); first | done | fail)
  have C2 := Kp.mk (hb.ext hx).counted
  rw [h3, show nl 0 = 0 from rfl] at C2
  have HX := Kp.mk hx
  clear ha he hb h1 h2 h3 hx
  go_enter Tryz.func123, Tryz.ntmps123
  go_wp2_with fail
  refine C.out.mono ?_
  rintro e w1 ⟨rfl, hw1⟩
  rw [← hw1] at C2 HX
  clear hw1
  go_wp2_with fail
  refine C2.out.mono ?_
  rintro e w0 ⟨rfl, _, _, rfl⟩
  go_wp2_with fail
  go_ret2
  exact ⟨rfl, HX.out⟩
theorem Exp_ok (ha : In1 w A n c a) (he : In1 w E k ec x) (hb : In1 w B m d b) (h1 : ¬ lng (vl BB a)) (h2 : ¬ lng (vl BB x)) (h3 : ¬ lng (vl BB b)) (h0 : vl BB b ≠ 0) :
    Calls Tryz.prog 123 #[.slice A n c, .slice E k ec, .slice B m d] w (Ok1 w (vl BB a ^ vl BB x % vl BB b)) := by
  have C := Kp.mk (three ha he hb false (by simp [h1, h2, h3]))
  have hx : Ext w (w.alloc (.cells #[.slice A n c, .slice E k ec, .slice B m d] nt)) := (by (repeat (first | assumption | exact Ext.refl _ | apply Ext.drew | apply Ext.drewN | apply Ext.alloc | refine Ext.trans ?_ (by assumption))); first | done | fail)
  have C1 := Kp.mk (ha.ext hx).counted
  have C2 := Kp.mk (he.ext hx).counted
  have C3 := Kp.mk (hb.ext hx).counted
  have HX := Kp.mk hx
  obtain ⟨M, hM⟩ : ∃ M, nl (vl BB b) = M + 1 := ⟨nl (vl BB b) - 1, by
    have : 0 < nl (vl BB b) := List.length_pos_iff.2 fun e => h0 ((dgs_nil (by decide) _).1 e)
    omega⟩
  have HL := Kp.mk (show nl (vl BB a) ≤ 64 ∧ nl (vl BB x) ≤ 64 ∧ M + 1 ≤ 64 from ⟨Nat.le_of_not_lt h1, Nat.le_of_not_lt h2, hM ▸ Nat.le_of_not_lt h3⟩)
  have HM := Kp.mk hM
  rw [hM] at C3
  have b0 : ¬ ((M + 1 : Nat) : Int) = 0 := by omega
  clear ha he hb h1 h2 h3 h0 hM hx
  generalize vl BB a = va at *
  generalize vl BB x = ve at *
  generalize vl BB b = vm at *
  go_enter Tryz.func123, Tryz.ntmps123
  go_wp2_with fail
  refine C.out.mono ?_
  rintro e w1 ⟨rfl, hw1⟩
  rw [← hw1] at C1 C2 C3 HX
  clear hw1
  go_wp2_with fail
  refine C3.out.mono ?_
  rintro e w2 ⟨rfl, _, r3, rfl⟩
  have R3 := Kp.mk r3
  clear r3
  go_wp2_with fail
  refine C1.out.mono ?_
  rintro e w3 ⟨rfl, _, r1, rfl⟩
  have R1 := Kp.mk r1
  clear r1
  go_wp2_with fail
  refine C2.out.mono ?_
  rintro e w4 ⟨rfl, _, r2, rfl⟩
  have C4 := Kp.mk (power_any R1.out r2 R3.out HL.out.1 HL.out.2.1 HM.out HL.out.2.2)
  clear r2 R1 R3 C1 C2 C3 b0
  go_wp2_with fail
  refine C4.out.mono ?_
  rintro e w5 ⟨A5, n5, c5, rfl, ho5, hx5⟩
  have HF := Kp.mk (show Ok1 w (va ^ ve % vm) (.returned (.tuple #[.slice A5 n5 c5, .nilIface])) w5 from ⟨A5, n5, c5, rfl, ho5.lower HX.out.size, HX.out.trans hx5⟩)
  clear ho5 hx5
  go_wp2_with fail
  go_ret2
  exact HF.out
end
end Go.Proofs.YtkdjhklnlnfhfaaGreatDoor
namespace Go.Proofs.YtkdjhklnlnfhfaaGreatDoor
open Go Go.RowKit
set_option maxRecDepth 4000

theorem vL_inj {x y : Nat} (h : vL x = vL y) : x = y := by
  unfold vL at h
  injection h with _ h2
  omega
theorem Rd.uniq {w : World} {A : Option Addr} {n c : Nat} {l l' : List Nat} (h : Rd vL w A n c l) (h' : Rd vL w A n c l') : l = l' := by
  refine List.ext_getElem? fun j => ?_
  by_cases hj : j < n
  · obtain ⟨g, o, ea, hc⟩ := h.at_ (by omega)
    obtain ⟨g', o', ea', hc'⟩ := h'.at_ (by omega)
    rw [ea] at ea'
    cases ea'
    have e1 := dg_in l j (by rw [h.len]; exact hj)
    have e2 := dg_in l' j (by rw [h'.len]; exact hj)
    have h1 := hc j _ e1
    rw [hc' j _ e2] at h1
    rw [e1, e2, vL_inj (Option.some.inj h1)]
  · rw [List.getElem?_eq_none (by rw [h.len]; omega), List.getElem?_eq_none (by rw [h'.len]; omega)]
/-- the number that a slice reads as -/
noncomputable def rdVal (w : World) (v : Value) : Nat := by
  classical
  exact if h : ∃ y : Nat, ∃ A n c, v = .slice A n c ∧ Rd vL w A n c (dgs BB y) then Classical.choose h else 0
theorem rdVal_eq {w : World} {A : Option Addr} {n c y : Nat} (h : Rd vL w A n c (dgs BB y)) : rdVal w (.slice A n c) = y := by
  have hh : ∃ y : Nat, ∃ A' n' c', Value.slice A n c = .slice A' n' c' ∧ Rd vL w A' n' c' (dgs BB y) := ⟨y, A, n, c, rfl, h⟩
  unfold rdVal
  rw [dif_pos hh]
  obtain ⟨A', n', c', e, h'⟩ := Classical.choose_spec hh
  cases e
  have e2 := congrArg (vl BB) (h'.uniq h)
  rwa [vl_dgs (by decide), vl_dgs (by decide)] at e2
/-- between the rounds -/
structure EuW (w : World) (va vm x y p q : Nat) (s : Bool) (A1 : Option Addr) (c1 : Nat) (A2 : Option Addr) (c2 : Nat) (A3 : Option Addr) (n3 c3 : Nat) (A4 : Option Addr) (n4 c4 : Nat) (wr : World) : Prop where
  e : Eu va vm x y p q s
  bx : nl x ≤ 64
  by_ : nl y ≤ 64
  rx : Rd vL wr A1 (nl x) c1 (dgs BB x)
  ry : Rd vL wr A2 (nl y) c2 (dgs BB y)
  op : Rw ut vL wr w.heap.size (.slice A3 n3 c3) n3 (dgs BB p)
  oq : Rw ut vL wr w.heap.size (.slice A4 n4 c4) n4 (dgs BB q)
  x_ : Ext w wr
theorem EuW.bq {w : World} {va vm x y p q : Nat} {s : Bool} {A1 : Option Addr} {c1 : Nat} {A2 : Option Addr} {c2 : Nat} {A3 : Option Addr} {n3 c3 : Nat} {A4 : Option Addr} {n4 c4 : Nat} {wr : World} (h : EuW w va vm x y p q s A1 c1 A2 c2 A3 n3 c3 A4 n4 c4 wr) (hm : nl vm ≤ 64) : n3 ≤ 64 ∧ n4 ≤ 64 := by
  have h3 := h.op.len
  have h4 := h.oq.len
  have e1 : nl p ≤ nl vm := nl_mono h.e.le
  have e2 : nl q ≤ nl vm := nl_mono (by
    have h1 : q * 1 ≤ q * x := Nat.mul_le_mul_left q h.e.pos
    have h2 := h.e.id
    omega)
  unfold nl at e1 e2 hm
  omega
/-- what is told of the inverse -/
def Inverted (w : World) (va vm : Nat) (e : Ending) (w' : World) : Prop :=
  (Nat.gcd vm va = 1 ∧ ∃ A n c, e = .returned (.tuple #[.slice A n c, .bool true]) ∧ Rw ut vL w' w.heap.size (.slice A n c) n (dgs BB (invN va vm)) ∧ Ext w w') ∨
  (Nat.gcd vm va ≠ 1 ∧ e = .returned (.tuple #[.slice none 0 0, .bool false]) ∧ Ext w w')
theorem nl_zero {v : Nat} (h : nl v = 0) : v = 0 := (dgs_nil (by decide) v).1 (List.eq_nil_of_length_eq_zero h)
theorem lit_own (w w0 : World) (l : List Nat) (cs : Array Value) (h : cs = lv l) (n : Nat) (hn : l.length = n) (hm : n ≤ maxLen) (g : Nat) (hg : g = w.heap.size) (h0 : w0.heap.size ≤ g) : Rw ut vL (w.alloc (.cells cs ut)) w0.heap.size (.slice (some ⟨g, 0, none⟩) n n) n l := by
  subst h hg
  exact (Lb.new w l).own h0 hn hm
theorem EuW.start {w : World} {A B : Option Addr} {c d va vm : Nat} (ha : Rd vL w A (nl va) c (dgs BB va)) (hb : Rd vL w B (nl vm) d (dgs BB vm)) (la : nl va ≤ 64) (lm : nl vm ≤ 64) (hm : 2 ≤ vm) :
    EuW w va vm vm va 0 1 true B d A c (some ⟨w.heap.size, 0, none⟩) 0 0 (some ⟨w.heap.size + 1, 0, none⟩) 1 1 ((w.alloc (.cells #[] ut)).alloc (.cells #[.int .u32 1] ut)) :=
  ⟨Eu.start hm, lm, la, hb.ext (by (repeat (first | assumption | exact Ext.refl _ | apply Ext.drew | apply Ext.drewN | apply Ext.alloc | refine Ext.trans ?_ (by assumption))); first | done | fail), ha.ext (by (repeat (first | assumption | exact Ext.refl _ | apply Ext.drew | apply Ext.drewN | apply Ext.alloc | refine Ext.trans ?_ (by assumption))); first | done | fail), (lit_own w w [] #[] rfl 0 rfl (by decide) _ rfl (Nat.le_refl _)).ext (by (repeat (first | assumption | exact Ext.refl _ | apply Ext.drew | apply Ext.drewN | apply Ext.alloc | refine Ext.trans ?_ (by assumption))); first | done | fail),
    lit_own (w.alloc (.cells #[] ut)) w [1] #[.int .u32 1] rfl 1 rfl (by decide) _ (by simp) (by omega), (by (repeat (first | assumption | exact Ext.refl _ | apply Ext.drew | apply Ext.drewN | apply Ext.alloc | refine Ext.trans ?_ (by assumption))); first | done | fail)⟩
end Go.Proofs.YtkdjhklnlnfhfaaGreatDoor
