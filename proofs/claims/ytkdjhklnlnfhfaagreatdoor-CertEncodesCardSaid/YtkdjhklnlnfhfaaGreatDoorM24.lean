/-
  rsa: sizeOf, isOdd.
  rsa: publicMay, secretMay, factorMay, Check.
  The reference's fit.
  Long division digit by digit: what each round leaves; numbers told by slices of ints. No condition on the program.
-/
import Derived.Test.YtkdjhklnlnfhfaaGreatDoorM23
import Derived.Test.YtkdjhklnlnfhfaaGreatDoorM21
import Derived.Test.YtkdjhklnlnfhfaaGreatDoorM22
namespace Go.Proofs.YtkdjhklnlnfhfaaGreatDoor
open Go Go.RowKit
set_option maxRecDepth 4000

theorem nb_top {l : List Nat} {q : Nat} (hc : Cn BB l) (hl : l.length = q + 1) : nb (vl BB l) = 4 * q + (Lib.bitLen (dg l q) + 7) / 8 ∧ Lib.bitLen (dg l q) ≤ 32 ∧ dg l q < 4294967296 := by
  have h1 := hc.d.at32 q
  have hb := bitLen_hi (dg l q) h1
  have htop : dg l q ≠ 0 := by
    have h9 := top_dgs (V := vl BB l) (fun e => by
      have := cn_zero (B := BB) (by decide) hc e
      rw [this] at hl
      cases hl)
    unfold nl at h9
    rwa [dgs_vl (by decide) hc, hl, Nat.add_sub_cancel] at h9
  have hlo := bitLen_lo (dg l q) h1 htop
  have hs := vl_split BB l q (by omega)
  rw [List.drop_eq_nil_of_le (by omega)] at hs
  simp only [vl, Nat.mul_zero, Nat.add_zero] at hs
  have hv : nb (vl BB l) = (32 * q + Lib.bitLen (dg l q) + 7) / 8 := by
    refine nb_bits ?_ (fun _ => ?_) (fun e0 => ?_)
    · have h3 := vl_lt (by decide) (hc.d.take q)
      rw [List.length_take, Nat.min_eq_left (by omega)] at h3
      have h4 : BB ^ q * (dg l q + 1) ≤ BB ^ q * 2 ^ Lib.bitLen (dg l q) := Nat.mul_le_mul_left _ hb.1
      rw [Nat.mul_succ] at h4
      rw [Nat.pow_add, Nat.pow_mul, show (2 : Nat) ^ 32 = BB from rfl, hs]
      omega
    · rw [show 32 * q + Lib.bitLen (dg l q) - 1 = 32 * q + (Lib.bitLen (dg l q) - 1) by have := hlo.2; omega, Nat.pow_add, Nat.pow_mul, show (2 : Nat) ^ 32 = BB from rfl]
      have h4 : BB ^ q * 2 ^ (Lib.bitLen (dg l q) - 1) ≤ BB ^ q * dg l q := Nat.mul_le_mul_left _ hlo.1
      rw [hs]
      omega
    · exfalso
      have h4 : BB ^ q * 1 ≤ BB ^ q * dg l q := Nat.mul_le_mul_left _ (Nat.pos_of_ne_zero htop)
      have h5 : 0 < BB ^ q := Nat.pow_pos (by decide)
      omega
  exact ⟨by omega, hb.2, h1⟩
theorem nb_zero : nb 0 = 0 := rfl
/-- the limbs that count, and how many bytes they have -/
theorem nb_cut {l : List Nat} (hd : Dg BB l) {k : Nat} (hk : k + 1 ≤ l.length) (hz : ∀ i, k + 1 ≤ i → dg l i = 0) (ht : dg l k ≠ 0) :
    nb (vl BB l) = 4 * k + (Lib.bitLen (dg l k) + 7) / 8 ∧ Lib.bitLen (dg l k) ≤ 32 ∧ dg l k < 4294967296 := by
  have e := cut_cn (by decide) hd (k + 1) hk hz (.inr ht)
  have h := nb_top (l := l.take (k + 1)) (q := k) (by rw [e]; exact cn_dgs (by decide) _) (by rw [List.length_take]; omega)
  rw [dg_take l (k + 1) k (by omega), e, vl_dgs (by decide)] at h
  exact h
set_option maxHeartbeats 1000000 in
theorem sizeOf_any {A : Option Addr} {n c v : Nat} {w : World} (h : Nv w A n c v) : Calls Tryz.prog 74 #[.slice A n c] w fun e w' => e = .returned (.int .i64 (nb v : Int)) ∧ w' = w := by
  obtain ⟨l, ⟨hr, hd, hn⟩, rfl⟩ := h
  have HR := Kp.mk hr
  have HD := Kp.mk hd
  have hlen := hr.len
  have hcap := hr.cap
  clear hr hd
  go_enter Tryz.func74, Tryz.ntmps74
  go_wp2_with fail
  go_loopw [0] (fun iv wr => ∃ j : Nat, j ≤ n ∧ iv = .slice A j c ∧ (∀ i, j ≤ i → dg l i = 0) ∧ wr = w) (fun iv _ => lenOf iv)
  case atStart => exact ⟨n, by omega, rfl, fun i hi => dg_out l i (by omega), rfl⟩
  case round =>
    obtain ⟨j, hj, rfl, hz, rfl⟩ := hrel
    have HZ := Kp.mk hz
    clear hz
    by_cases h0 : j = 0
    · subst h0
      have HF := Kp.mk (show nb (vl BB l) = 0 by
        have e := cut_cn (by decide) HD.out 0 (by omega) HZ.out (.inl rfl)
        rw [List.take_zero] at e
        rw [(dgs_nil (by decide) _).1 e.symm]
        rfl)
      go_wp2_with fail
      go_ret
      exact ⟨by rw [HF.out]; rfl, rfl⟩
    · obtain ⟨g, o, rfl⟩ := HR.out.some_ (by omega)
      obtain ⟨k, rfl⟩ : ∃ k, j = k + 1 := ⟨j - 1, by omega⟩
      have c1 := HR.out.dig k (by omega)
      unfold vL at c1
      have e1 : ((k + 1 : Nat) : Int) - 1 = (k : Int) := by omega
      have b0 : (0 : Int) < ((k + 1 : Nat) : Int) := by omega
      have b1 : (k : Int) < (n : Int) := by omega
      have e2 : IntKind.i64.wrap (k : Int) = (k : Int) := by rw [IntKind.wrap_i64]; omega
      have hs := fun W => run_upto (P := Tryz.prog) (some ⟨g, o, none⟩) (k + 1) c nt ut Tryz.underlying23 szL k (k : Int) rfl (by omega) W
      by_cases hq : dg l k = 0
      · rw [hq] at c1
        have HQ := Kp.mk hq
        clear hq
        go_wp2_with fail
        go_roundw
        case rel => exact ⟨k, by omega, rfl, (fun i hi => by
          by_cases he : i = k
          · rw [he]; exact HQ.out
          · exact HZ.out i (by omega)), by trivial⟩
        case measure => simp [lenOf]
      · have hq2 : ¬ (dg l k : Int) = 0 := by omega
        have hN := nb_cut HD.out (k := k) (by omega) HZ.out hq
        have hL := Len32_any (dg l k) hN.2.2
        have HN := Kp.mk hN.1
        have hB := hN.2.1
        have bk : (k : Int) < (k : Int) + 1 := by omega
        have b2 : ((((k + 1 : Nat) : Int)) == 0) = false := beq_eq_false_iff_ne.2 (by omega)
        have b3 : (((k : Int) + 1) == 0) = false := beq_eq_false_iff_ne.2 (by omega)
        have b4 : ¬ ((k : Int) + 1) = 0 := by omega
        clear hq hN
        generalize dg l k = y at *
        generalize Lib.bitLen y = B at *
        go_wp2_with fail
        refine (hL _).mono ?_
        rintro e w1 ⟨rfl, rfl⟩
        obtain ⟨D, hD⟩ : ∃ D, (B + 7) / 8 = D := ⟨_, rfl⟩
        rw [hD] at HN
        have d1 : ((B : Int) + 7) / 8 = (D : Int) := by omega
        have d2 : ((B : Int) + 7).tdiv 8 = (D : Int) := by rw [Int.tdiv_eq_ediv_of_nonneg (by omega)]; exact d1
        have d3 : (D : Int) < 5 := by omega
        have d4 : (k : Int) < 1000000 := by omega
        clear hD
        go_wp2_with fail
        go_ret
        exact ⟨by rw [HN.out]; first | rfl | go_num, rfl⟩
theorem isOdd_any {A : Option Addr} {n c v : Nat} {w : World} (h : Nv w A n c v) (b : Bool) (hb : b = true ↔ v % 2 = 1) : Calls Tryz.prog 130 #[.slice A n c] w fun e w' => e = .returned (.bool b) ∧ Ext w w' := by
  obtain ⟨l, ⟨hr, hd, hn⟩, rfl⟩ := h
  have hlen := hr.len
  by_cases h0 : n = 0
  · subst h0
    obtain rfl : l = [] := List.eq_nil_of_length_eq_zero hlen
    obtain rfl : b = false := by cases b <;> simp_all [vl]
    clear hr hd hb
    go_enter Tryz.func130, Tryz.ntmps130
    go_wp2_with fail
    go_ret
    exact ⟨rfl, (by (repeat (first | assumption | exact Ext.refl _ | apply Ext.drew | apply Ext.drewN | apply Ext.alloc | refine Ext.trans ?_ (by assumption))); first | done | fail)⟩
  · obtain ⟨g, o, rfl⟩ := hr.some_ (by omega)
    have k1 := hr.dig 0 (by omega)
    unfold vL at k1
    rw [Nat.add_zero] at k1
    have h1 := hd.at32 0
    have e : vl BB l % 2 = dg l 0 % 2 := by
      have hs := vl_split BB l 0 (by omega)
      rw [List.take_zero] at hs
      simp only [vl, Nat.pow_zero, Nat.one_mul, Nat.zero_add] at hs
      rw [hs, Nat.add_mod, Nat.mul_mod, show BB % 2 = 0 by decide, Nat.zero_mul, Nat.zero_mod, Nat.add_zero, Nat.mod_mod]
    rw [e] at hb
    have a1 := and1 (dg l 0) h1
    have b0 : (0 : Int) < (n : Int) := by omega
    clear hr hd e hlen
    generalize dg l 0 = x at *
    by_cases hx : x % 2 = 1
    · obtain rfl : b = true := hb.2 hx
      rw [hx] at a1
      clear hb hx
      go_enter Tryz.func130, Tryz.ntmps130
      go_wp2_with fail
      go_ret
      exact ⟨by first | rfl | simp, (by (repeat (first | assumption | exact Ext.refl _ | apply Ext.drew | apply Ext.drewN | apply Ext.alloc | refine Ext.trans ?_ (by assumption))); first | done | fail)⟩
    · obtain rfl : b = false := by cases b <;> simp_all
      rw [show x % 2 = 0 by omega] at a1
      clear hb hx
      go_enter Tryz.func130, Tryz.ntmps130
      go_wp2_with fail
      go_ret
      exact ⟨by first | rfl | simp, (by (repeat (first | assumption | exact Ext.refl _ | apply Ext.drew | apply Ext.drewN | apply Ext.alloc | refine Ext.trans ?_ (by assumption))); first | done | fail)⟩
end Go.Proofs.YtkdjhklnlnfhfaaGreatDoor
namespace Go.Proofs.YtkdjhklnlnfhfaaGreatDoor
open Go Go.RowKit
set_option maxRecDepth 4000

theorem Nv.lit (w : World) (x : Nat) (a : Int) (ha : a = (x : Int)) (hx : x < 4294967296) (g : Nat) (hg : g = w.heap.size) : Nv (w.alloc (.cells #[.int .u32 a] ut)) (some ⟨g, 0, none⟩) 1 1 x := ⟨[x], In1.lit w x a ha hx g hg, vl_one x⟩
theorem cmpI_up {a b : Nat} (h : b ≤ a) : ∃ z, cmpI a b = z ∧ 0 ≤ z := ⟨_, rfl, by
  unfold cmpI
  rw [if_neg (by omega)]
  split <;> decide⟩
theorem cmpI_no {a b : Nat} (h : b ≤ a) : ∃ z, cmpI a b = z ∧ decide (z < 0) = false := by
  obtain ⟨z, h1, h2⟩ := cmpI_up h
  exact ⟨z, h1, decide_eq_false (by omega)⟩
/-- a struct's cells in a block -/
theorem box2 {w w' : World} {g t : Nat} {u v : Value} (h : Blk w g t #[u, v]) (hx : Ext w w') : w'.cell? ⟨g, 0, none⟩ = some u ∧ w'.cell? ⟨g, 1, none⟩ = some v := ⟨(h.ext hx).h.cell 0, (h.ext hx).h.cell 1⟩
theorem box3 {w w' : World} {g t : Nat} {u v y : Value} (h : Blk w g t #[u, v, y]) (hx : Ext w w') : w'.cell? ⟨g, 0, none⟩ = some u ∧ w'.cell? ⟨g, 1, none⟩ = some v ∧ w'.cell? ⟨g, 2, none⟩ = some y := ⟨(h.ext hx).h.cell 0, (h.ext hx).h.cell 1, (h.ext hx).h.cell 2⟩
/-- what a key says of itself, one behind the other -/
theorem pub_cases (vn ve : Nat) : (PubOk vn ve ∧ vn % 2 = 1 ∧ 62 ≤ nb vn ∧ nb vn ≤ 128 ∧ ve % 2 = 1 ∧ 3 ≤ ve ∧ ve < vn) ∨ (¬ PubOk vn ve ∧ vn % 2 ≠ 1) ∨ (¬ PubOk vn ve ∧ vn % 2 = 1 ∧ nb vn < 62) ∨ (¬ PubOk vn ve ∧ vn % 2 = 1 ∧ 62 ≤ nb vn ∧ 128 < nb vn) ∨
    (¬ PubOk vn ve ∧ vn % 2 = 1 ∧ 62 ≤ nb vn ∧ nb vn ≤ 128 ∧ ve % 2 ≠ 1) ∨ (¬ PubOk vn ve ∧ vn % 2 = 1 ∧ 62 ≤ nb vn ∧ nb vn ≤ 128 ∧ ve % 2 = 1 ∧ ve < 3) ∨ (¬ PubOk vn ve ∧ vn % 2 = 1 ∧ 62 ≤ nb vn ∧ nb vn ≤ 128 ∧ ve % 2 = 1 ∧ 3 ≤ ve ∧ vn ≤ ve) := by
  unfold PubOk
  omega
set_option maxHeartbeats 4000000 in
theorem publicMay_any {A B : Option Addr} {n c m d vn ve : Nat} {w : World} (hn : Nv w A n c vn) (he : Nv w B m d ve) (b : Bool) (hb : b = true ↔ PubOk vn ve) :
    Calls Tryz.prog 75 #[.agg #[.slice A n c, .slice B m d]] w fun e w' => e = .returned (.bool b) ∧ Ext w w' := by
  have HN := Kp.mk hn
  have HE := Kp.mk he
  have HB := Kp.mk (Blk.new w 29 #[.slice A n c, .slice B m d])
  clear hn he
  obtain ⟨N, hN⟩ : ∃ N, nb vn = N := ⟨_, rfl⟩
  have HS := Kp.mk hN
  rcases pub_cases vn ve with ⟨h, h1, h2, h3, h4, h5, h6⟩ | ⟨h, h1⟩ | ⟨h, h1, h2⟩ | ⟨h, h1, h2, h3⟩ | ⟨h, h1, h2, h3, h4⟩ | ⟨h, h1, h2, h3, h4, h5⟩ | ⟨h, h1, h2, h3, h4, h5, h6⟩
  · obtain rfl : b = true := hb.2 h
    have H1 := Kp.mk h1
    rw [hN] at h2
    have d1 : (62 : Int) ≤ (N : Int) := by omega
    rw [hN] at h3
    have d2 : (N : Int) ≤ 128 := by omega
    have H4 := Kp.mk h4
    obtain ⟨z, hz, z1⟩ := cmpI_up h5
    have H5 := Kp.mk hz
    clear hz
    have H6 := Kp.mk (cmpI_lt h6)
    clear hb hN h h1 h2 h3 h4 h5 h6
    go_enter Tryz.func75, Tryz.ntmps75
    go_wp2_with fail
    refine (sizeOf_any (HN.out.ext (by (repeat (first | assumption | exact Ext.refl _ | apply Ext.drew | apply Ext.drewN | apply Ext.alloc | refine Ext.trans ?_ (by assumption))); first | done | fail))).mono ?_
    rintro e w1 ⟨rfl, rfl⟩
    rw [HS.out]
    go_wp2_with fail
    refine (isOdd_any (HN.out.ext (by (repeat (first | assumption | exact Ext.refl _ | apply Ext.drew | apply Ext.drewN | apply Ext.alloc | refine Ext.trans ?_ (by assumption))); first | done | fail)) true (by simp [H1.out])).mono ?_
    rintro e w2 ⟨rfl, x2⟩
    obtain ⟨c0, c1⟩ := box2 HB.out x2
    go_wp2_with fail
    refine (isOdd_any (HE.out.ext (by (repeat (first | assumption | exact Ext.refl _ | apply Ext.drew | apply Ext.drewN | apply Ext.alloc | refine Ext.trans ?_ (by assumption))); first | done | fail)) true (by simp [H4.out])).mono ?_
    rintro e w3 ⟨rfl, x⟩
    have x3 := Ext.trans (show Ext (w.alloc (.cells #[.slice A n c, .slice B m d] 29)) _ from (by (repeat (first | assumption | exact Ext.refl _ | apply Ext.drew | apply Ext.drewN | apply Ext.alloc | refine Ext.trans ?_ (by assumption))); first | done | fail)) x
    clear x
    obtain ⟨c0, c1⟩ := box2 HB.out x3
    go_wp2_with fail
    refine (CmpV (HE.out.ext (by (repeat (first | assumption | exact Ext.refl _ | apply Ext.drew | apply Ext.drewN | apply Ext.alloc | refine Ext.trans ?_ (by assumption))); first | done | fail)) (Nv.lit w3 3 3 rfl (by decide) _ rfl) _ H5.out).mono ?_
    rintro e w4 ⟨rfl, x⟩
    have x4 := Ext.trans (show Ext (w.alloc (.cells #[.slice A n c, .slice B m d] 29)) _ from (by (repeat (first | assumption | exact Ext.refl _ | apply Ext.drew | apply Ext.drewN | apply Ext.alloc | refine Ext.trans ?_ (by assumption))); first | done | fail)) x
    clear x
    obtain ⟨c0, c1⟩ := box2 HB.out x4
    go_wp2_with fail
    refine (CmpV (HE.out.ext (by (repeat (first | assumption | exact Ext.refl _ | apply Ext.drew | apply Ext.drewN | apply Ext.alloc | refine Ext.trans ?_ (by assumption))); first | done | fail)) (HN.out.ext (by (repeat (first | assumption | exact Ext.refl _ | apply Ext.drew | apply Ext.drewN | apply Ext.alloc | refine Ext.trans ?_ (by assumption))); first | done | fail)) _ H6.out).mono ?_
    rintro e w5 ⟨rfl, x⟩
    have x5 := Ext.trans (show Ext (w.alloc (.cells #[.slice A n c, .slice B m d] 29)) _ from (by (repeat (first | assumption | exact Ext.refl _ | apply Ext.drew | apply Ext.drewN | apply Ext.alloc | refine Ext.trans ?_ (by assumption))); first | done | fail)) x
    clear x
    obtain ⟨c0, c1⟩ := box2 HB.out x5
    have HX := Kp.mk (show Ext w w5 from (by (repeat (first | assumption | exact Ext.refl _ | apply Ext.drew | apply Ext.drewN | apply Ext.alloc | refine Ext.trans ?_ (by assumption))); first | done | fail))
    clear x2 x3 x4 x5
    go_wp2_with fail
    go_ret
    exact ⟨rfl, HX.out⟩
  · obtain rfl : b = false := by cases b <;> simp_all
    have H1 := Kp.mk h1
    clear hb hN h h1 
    go_enter Tryz.func75, Tryz.ntmps75
    go_wp2_with fail
    refine (sizeOf_any (HN.out.ext (by (repeat (first | assumption | exact Ext.refl _ | apply Ext.drew | apply Ext.drewN | apply Ext.alloc | refine Ext.trans ?_ (by assumption))); first | done | fail))).mono ?_
    rintro e w1 ⟨rfl, rfl⟩
    rw [HS.out]
    go_wp2_with fail
    refine (isOdd_any (HN.out.ext (by (repeat (first | assumption | exact Ext.refl _ | apply Ext.drew | apply Ext.drewN | apply Ext.alloc | refine Ext.trans ?_ (by assumption))); first | done | fail)) false (by simp [H1.out])).mono ?_
    rintro e w2 ⟨rfl, x2⟩
    obtain ⟨c0, c1⟩ := box2 HB.out x2
    have HX := Kp.mk (show Ext w w2 from (by (repeat (first | assumption | exact Ext.refl _ | apply Ext.drew | apply Ext.drewN | apply Ext.alloc | refine Ext.trans ?_ (by assumption))); first | done | fail))
    clear x2
    go_wp2_with fail
    go_ret
    exact ⟨rfl, HX.out⟩
  · obtain rfl : b = false := by cases b <;> simp_all
    have H1 := Kp.mk h1
    rw [hN] at h2
    have d1 : decide ((62 : Int) ≤ (N : Int)) = false := decide_eq_false (by omega)
    clear hb hN h h1 h2
    go_enter Tryz.func75, Tryz.ntmps75
    go_wp2_with fail
    refine (sizeOf_any (HN.out.ext (by (repeat (first | assumption | exact Ext.refl _ | apply Ext.drew | apply Ext.drewN | apply Ext.alloc | refine Ext.trans ?_ (by assumption))); first | done | fail))).mono ?_
    rintro e w1 ⟨rfl, rfl⟩
    rw [HS.out]
    go_wp2_with fail
    refine (isOdd_any (HN.out.ext (by (repeat (first | assumption | exact Ext.refl _ | apply Ext.drew | apply Ext.drewN | apply Ext.alloc | refine Ext.trans ?_ (by assumption))); first | done | fail)) true (by simp [H1.out])).mono ?_
    rintro e w2 ⟨rfl, x2⟩
    obtain ⟨c0, c1⟩ := box2 HB.out x2
    have HX := Kp.mk (show Ext w w2 from (by (repeat (first | assumption | exact Ext.refl _ | apply Ext.drew | apply Ext.drewN | apply Ext.alloc | refine Ext.trans ?_ (by assumption))); first | done | fail))
    clear x2
    go_wp2_with fail
    go_ret
    exact ⟨rfl, HX.out⟩
  · obtain rfl : b = false := by cases b <;> simp_all
    have H1 := Kp.mk h1
    rw [hN] at h2
    have d1 : (62 : Int) ≤ (N : Int) := by omega
    rw [hN] at h3
    have d2 : decide ((N : Int) ≤ 128) = false := decide_eq_false (by omega)
    clear hb hN h h1 h2 h3
    go_enter Tryz.func75, Tryz.ntmps75
    go_wp2_with fail
    refine (sizeOf_any (HN.out.ext (by (repeat (first | assumption | exact Ext.refl _ | apply Ext.drew | apply Ext.drewN | apply Ext.alloc | refine Ext.trans ?_ (by assumption))); first | done | fail))).mono ?_
    rintro e w1 ⟨rfl, rfl⟩
    rw [HS.out]
    go_wp2_with fail
    refine (isOdd_any (HN.out.ext (by (repeat (first | assumption | exact Ext.refl _ | apply Ext.drew | apply Ext.drewN | apply Ext.alloc | refine Ext.trans ?_ (by assumption))); first | done | fail)) true (by simp [H1.out])).mono ?_
    rintro e w2 ⟨rfl, x2⟩
    obtain ⟨c0, c1⟩ := box2 HB.out x2
    have HX := Kp.mk (show Ext w w2 from (by (repeat (first | assumption | exact Ext.refl _ | apply Ext.drew | apply Ext.drewN | apply Ext.alloc | refine Ext.trans ?_ (by assumption))); first | done | fail))
    clear x2
    go_wp2_with fail
    go_ret
    exact ⟨rfl, HX.out⟩
  · obtain rfl : b = false := by cases b <;> simp_all
    have H1 := Kp.mk h1
    rw [hN] at h2
    have d1 : (62 : Int) ≤ (N : Int) := by omega
    rw [hN] at h3
    have d2 : (N : Int) ≤ 128 := by omega
    have H4 := Kp.mk h4
    clear hb hN h h1 h2 h3 h4
    go_enter Tryz.func75, Tryz.ntmps75
    go_wp2_with fail
    refine (sizeOf_any (HN.out.ext (by (repeat (first | assumption | exact Ext.refl _ | apply Ext.drew | apply Ext.drewN | apply Ext.alloc | refine Ext.trans ?_ (by assumption))); first | done | fail))).mono ?_
    rintro e w1 ⟨rfl, rfl⟩
    rw [HS.out]
    go_wp2_with fail
    refine (isOdd_any (HN.out.ext (by (repeat (first | assumption | exact Ext.refl _ | apply Ext.drew | apply Ext.drewN | apply Ext.alloc | refine Ext.trans ?_ (by assumption))); first | done | fail)) true (by simp [H1.out])).mono ?_
    rintro e w2 ⟨rfl, x2⟩
    obtain ⟨c0, c1⟩ := box2 HB.out x2
    go_wp2_with fail
    refine (isOdd_any (HE.out.ext (by (repeat (first | assumption | exact Ext.refl _ | apply Ext.drew | apply Ext.drewN | apply Ext.alloc | refine Ext.trans ?_ (by assumption))); first | done | fail)) false (by simp [H4.out])).mono ?_
    rintro e w3 ⟨rfl, x⟩
    have x3 := Ext.trans (show Ext (w.alloc (.cells #[.slice A n c, .slice B m d] 29)) _ from (by (repeat (first | assumption | exact Ext.refl _ | apply Ext.drew | apply Ext.drewN | apply Ext.alloc | refine Ext.trans ?_ (by assumption))); first | done | fail)) x
    clear x
    obtain ⟨c0, c1⟩ := box2 HB.out x3
    have HX := Kp.mk (show Ext w w3 from (by (repeat (first | assumption | exact Ext.refl _ | apply Ext.drew | apply Ext.drewN | apply Ext.alloc | refine Ext.trans ?_ (by assumption))); first | done | fail))
    clear x2 x3
    go_wp2_with fail
    go_ret
    exact ⟨rfl, HX.out⟩
  · obtain rfl : b = false := by cases b <;> simp_all
    have H1 := Kp.mk h1
    rw [hN] at h2
    have d1 : (62 : Int) ≤ (N : Int) := by omega
    rw [hN] at h3
    have d2 : (N : Int) ≤ 128 := by omega
    have H4 := Kp.mk h4
    have H5 := Kp.mk (cmpI_lt h5)
    clear hb hN h h1 h2 h3 h4 h5
    go_enter Tryz.func75, Tryz.ntmps75
    go_wp2_with fail
    refine (sizeOf_any (HN.out.ext (by (repeat (first | assumption | exact Ext.refl _ | apply Ext.drew | apply Ext.drewN | apply Ext.alloc | refine Ext.trans ?_ (by assumption))); first | done | fail))).mono ?_
    rintro e w1 ⟨rfl, rfl⟩
    rw [HS.out]
    go_wp2_with fail
    refine (isOdd_any (HN.out.ext (by (repeat (first | assumption | exact Ext.refl _ | apply Ext.drew | apply Ext.drewN | apply Ext.alloc | refine Ext.trans ?_ (by assumption))); first | done | fail)) true (by simp [H1.out])).mono ?_
    rintro e w2 ⟨rfl, x2⟩
    obtain ⟨c0, c1⟩ := box2 HB.out x2
    go_wp2_with fail
    refine (isOdd_any (HE.out.ext (by (repeat (first | assumption | exact Ext.refl _ | apply Ext.drew | apply Ext.drewN | apply Ext.alloc | refine Ext.trans ?_ (by assumption))); first | done | fail)) true (by simp [H4.out])).mono ?_
    rintro e w3 ⟨rfl, x⟩
    have x3 := Ext.trans (show Ext (w.alloc (.cells #[.slice A n c, .slice B m d] 29)) _ from (by (repeat (first | assumption | exact Ext.refl _ | apply Ext.drew | apply Ext.drewN | apply Ext.alloc | refine Ext.trans ?_ (by assumption))); first | done | fail)) x
    clear x
    obtain ⟨c0, c1⟩ := box2 HB.out x3
    go_wp2_with fail
    refine (CmpV (HE.out.ext (by (repeat (first | assumption | exact Ext.refl _ | apply Ext.drew | apply Ext.drewN | apply Ext.alloc | refine Ext.trans ?_ (by assumption))); first | done | fail)) (Nv.lit w3 3 3 rfl (by decide) _ rfl) _ H5.out).mono ?_
    rintro e w4 ⟨rfl, x⟩
    have x4 := Ext.trans (show Ext (w.alloc (.cells #[.slice A n c, .slice B m d] 29)) _ from (by (repeat (first | assumption | exact Ext.refl _ | apply Ext.drew | apply Ext.drewN | apply Ext.alloc | refine Ext.trans ?_ (by assumption))); first | done | fail)) x
    clear x
    obtain ⟨c0, c1⟩ := box2 HB.out x4
    have HX := Kp.mk (show Ext w w4 from (by (repeat (first | assumption | exact Ext.refl _ | apply Ext.drew | apply Ext.drewN | apply Ext.alloc | refine Ext.trans ?_ (by assumption))); first | done | fail))
    clear x2 x3 x4
    go_wp2_with fail
    go_ret
    exact ⟨rfl, HX.out⟩
  · obtain rfl : b = false := by cases b <;> simp_all
    have H1 := Kp.mk h1
    rw [hN] at h2
    have d1 : (62 : Int) ≤ (N : Int) := by omega
    rw [hN] at h3
    have d2 : (N : Int) ≤ 128 := by omega
    have H4 := Kp.mk h4
    obtain ⟨z, hz, z1⟩ := cmpI_up h5
    have H5 := Kp.mk hz
    clear hz
    obtain ⟨y, hy, y1⟩ := cmpI_no h6
    have H6 := Kp.mk hy
    clear hy
    clear hb hN h h1 h2 h3 h4 h5 h6
    go_enter Tryz.func75, Tryz.ntmps75
    go_wp2_with fail
    refine (sizeOf_any (HN.out.ext (by (repeat (first | assumption | exact Ext.refl _ | apply Ext.drew | apply Ext.drewN | apply Ext.alloc | refine Ext.trans ?_ (by assumption))); first | done | fail))).mono ?_
    rintro e w1 ⟨rfl, rfl⟩
    rw [HS.out]
    go_wp2_with fail
    refine (isOdd_any (HN.out.ext (by (repeat (first | assumption | exact Ext.refl _ | apply Ext.drew | apply Ext.drewN | apply Ext.alloc | refine Ext.trans ?_ (by assumption))); first | done | fail)) true (by simp [H1.out])).mono ?_
    rintro e w2 ⟨rfl, x2⟩
    obtain ⟨c0, c1⟩ := box2 HB.out x2
    go_wp2_with fail
    refine (isOdd_any (HE.out.ext (by (repeat (first | assumption | exact Ext.refl _ | apply Ext.drew | apply Ext.drewN | apply Ext.alloc | refine Ext.trans ?_ (by assumption))); first | done | fail)) true (by simp [H4.out])).mono ?_
    rintro e w3 ⟨rfl, x⟩
    have x3 := Ext.trans (show Ext (w.alloc (.cells #[.slice A n c, .slice B m d] 29)) _ from (by (repeat (first | assumption | exact Ext.refl _ | apply Ext.drew | apply Ext.drewN | apply Ext.alloc | refine Ext.trans ?_ (by assumption))); first | done | fail)) x
    clear x
    obtain ⟨c0, c1⟩ := box2 HB.out x3
    go_wp2_with fail
    refine (CmpV (HE.out.ext (by (repeat (first | assumption | exact Ext.refl _ | apply Ext.drew | apply Ext.drewN | apply Ext.alloc | refine Ext.trans ?_ (by assumption))); first | done | fail)) (Nv.lit w3 3 3 rfl (by decide) _ rfl) _ H5.out).mono ?_
    rintro e w4 ⟨rfl, x⟩
    have x4 := Ext.trans (show Ext (w.alloc (.cells #[.slice A n c, .slice B m d] 29)) _ from (by (repeat (first | assumption | exact Ext.refl _ | apply Ext.drew | apply Ext.drewN | apply Ext.alloc | refine Ext.trans ?_ (by assumption))); first | done | fail)) x
    clear x
    obtain ⟨c0, c1⟩ := box2 HB.out x4
    go_wp2_with fail
    refine (CmpV (HE.out.ext (by (repeat (first | assumption | exact Ext.refl _ | apply Ext.drew | apply Ext.drewN | apply Ext.alloc | refine Ext.trans ?_ (by assumption))); first | done | fail)) (HN.out.ext (by (repeat (first | assumption | exact Ext.refl _ | apply Ext.drew | apply Ext.drewN | apply Ext.alloc | refine Ext.trans ?_ (by assumption))); first | done | fail)) _ H6.out).mono ?_
    rintro e w5 ⟨rfl, x⟩
    have x5 := Ext.trans (show Ext (w.alloc (.cells #[.slice A n c, .slice B m d] 29)) _ from (by (repeat (first | assumption | exact Ext.refl _ | apply Ext.drew | apply Ext.drewN | apply Ext.alloc | refine Ext.trans ?_ (by assumption))); first | done | fail)) x
    clear x
    obtain ⟨c0, c1⟩ := box2 HB.out x5
    have HX := Kp.mk (show Ext w w5 from (by (repeat (first | assumption | exact Ext.refl _ | apply Ext.drew | apply Ext.drewN | apply Ext.alloc | refine Ext.trans ?_ (by assumption))); first | done | fail))
    clear x2 x3 x4 x5
    go_wp2_with fail
    go_ret
    exact ⟨rfl, HX.out⟩
end Go.Proofs.YtkdjhklnlnfhfaaGreatDoor
namespace Go.Proofs.YtkdjhklnlnfhfaaGreatDoor
open Go Go.RowKit
set_option maxRecDepth 4000

/-- what fit tells: how often at least -/
def Fitted (w : World) (va vb : Nat) (e : Ending) (w' : World) : Prop := ∃ d : Nat, e = .returned (.int .i64 (d : Int)) ∧ 1 ≤ d ∧ d * vb ≤ va ∧ d < 65536 ∧ Ext w w'
theorem fit_lt {d va vb : Nat} (h : d * vb ≤ va) (hlt : va < 65536 * vb) : d < 65536 := by
  have h2 : d * vb < 65536 * vb := Nat.lt_of_le_of_lt h hlt
  exact Nat.lt_of_mul_lt_mul_right h2
/-- three digits over two, and one more -/
theorem fit_math {a b : List Nat} {q : Nat} (_ca : Dg 65536 a) (hlb : b.length = q + 2) (db : Dg 65536 b) (_hlt : vl 65536 a < 65536 * vl 65536 b) :
    ((dg a (q + 2) * 65536 + dg a (q + 1)) * 65536 + dg a q) / (dg b (q + 1) * 65536 + dg b q + 1) * vl 65536 b ≤ vl 65536 a := by
  have hb := vl_lt (by decide) (db.take q)
  rw [List.length_take, Nat.min_eq_left (by omega)] at hb
  have t0 : ∀ x, 65536 ^ (q + 1) * x = 65536 ^ q * x * 65536 := fun x => by rw [Nat.pow_succ, Nat.mul_right_comm]
  have t1 : ∀ x, 65536 ^ (q + 1 + 1) * x = 65536 ^ q * x * 65536 * 65536 := fun x => by rw [Nat.pow_succ, Nat.mul_assoc, Nat.mul_comm 65536 x, ← Nat.mul_assoc, t0]
  have e2 : vl 65536 b = vl 65536 (b.take q) + 65536 ^ q * (dg b (q + 1) * 65536 + dg b q) := by
    rw [← vl_take_all 65536 b (q + 2) (by omega), show q + 2 = q + 1 + 1 by omega, vl_take_succ, vl_take_succ, t0, Nat.mul_add, ← Nat.mul_assoc]
    omega
  refine fit_le (B := 65536) (hi := dg b (q + 1) * 65536 + dg b q) (rh := (dg a (q + 2) * 65536 + dg a (q + 1)) * 65536 + dg a q) q ?_ ?_ rfl
  · rw [e2, Nat.add_mul, Nat.one_mul, Nat.mul_comm (65536 ^ q)]
    omega
  · have e3 : vl 65536 (a.take (q + 3)) = vl 65536 (a.take q) + 65536 ^ q * ((dg a (q + 2) * 65536 + dg a (q + 1)) * 65536 + dg a q) := by
      rw [show q + 3 = q + 1 + 1 + 1 by omega, vl_take_succ, vl_take_succ, vl_take_succ, t1, t0, Nat.mul_add, ← Nat.mul_assoc, Nat.mul_add, ← Nat.mul_assoc, show q + 1 + 1 = q + 2 by omega]
      omega
    have e4 := congrArg (vl 65536) (List.take_append_drop (q + 3) a)
    rw [vl_append] at e4
    rw [Nat.mul_comm]
    omega
end Go.Proofs.YtkdjhklnlnfhfaaGreatDoor
namespace Go.Proofs.YtkdjhklnlnfhfaaGreatDoor
open Go Go.RowKit
set_option maxRecDepth 4000

/-- i digits are still to come -/
structure DivS (B : Nat) (a : List Nat) (vb i : Nat) (q : List Nat) (R : Nat) : Prop where
  len : q.length = a.length
  d : Dg B q
  z : ∀ j, j < i → dg q j = 0
  lt : R < vb
  v : vl B a = vl B q * vb + B ^ i * R + vl B (a.take i)
/-- while a digit is found -/
structure DivT (B : Nat) (a : List Nat) (vb k : Nat) (q : List Nat) (r d : Nat) : Prop where
  len : q.length = a.length
  dq : Dg B q
  z : ∀ j, j < k → dg q j = 0
  dk : dg q k = d
  lt : d * vb + r < B * vb
  v : vl B a = vl B q * vb + B ^ k * r + vl B (a.take k)
theorem DivS.start {B : Nat} (hB : 0 < B) (a : List Nat) {vb : Nat} (hb : 0 < vb) : DivS B a vb a.length (List.replicate a.length 0) 0 :=
  ⟨by simp, fun d hd => by rw [List.eq_of_mem_replicate hd]; exact hB, fun j _ => dg_zeros _ _, hb, by rw [vl_zeros, List.take_length]; simp⟩
theorem DivS.enter {B : Nat} {a q : List Nat} {vb k R : Nat} (ha : Dg B a) (hB : 0 < B) (h : DivS B a vb (k + 1) q R) : DivT B a vb k q (dg a k + B * R) 0 := by
  refine ⟨h.len, h.d, fun j hj => h.z j (by omega), h.z k (by omega), ?_, ?_⟩
  · have h1 := ha.at hB k
    have h2 : B * (R + 1) ≤ B * vb := Nat.mul_le_mul_left _ h.lt
    rw [Nat.mul_succ] at h2
    omega
  · have h1 := h.v
    rw [vl_take_succ, Nat.pow_succ, Nat.mul_assoc] at h1
    rw [h1, Nat.mul_add]
    omega
theorem DivT.next {B : Nat} {a q : List Nat} {vb k r d e : Nat} (_hb : 0 < vb) (hk : k < a.length) (h : DivT B a vb k q r d) (he : e * vb ≤ r) : DivT B a vb k (q.set k (d + e)) (r - vb * e) (d + e) ∧ d + e < B := by
  have hlt : d + e < B := by
    have h1 : (d + e) * vb < B * vb := by rw [Nat.add_mul]; have := h.lt; omega
    exact Nat.lt_of_mul_lt_mul_right h1
  have hkq : k < q.length := by rw [h.len]; exact hk
  refine ⟨⟨by rw [List.length_set, h.len], h.dq.set k _ hlt, fun j hj => ?_, ?_, ?_, ?_⟩, hlt⟩
  · rw [dg_set _ _ _ _ hkq, if_neg (by omega)]
    exact h.z j hj
  · rw [dg_set _ _ _ _ hkq, if_pos rfl]
  · rw [Nat.add_mul]
    have h1 := h.lt
    rw [Nat.mul_comm e vb] at he ⊢
    omega
  · have h1 := vl_set B q k (d + e) hkq
    rw [h.dk, Nat.mul_add] at h1
    have h2 : vl B (q.set k (d + e)) = vl B q + B ^ k * e := by omega
    have h3 : B ^ k * r = B ^ k * (r - vb * e) + B ^ k * e * vb := by
      rw [Nat.mul_comm e vb] at he
      rw [Nat.mul_assoc, Nat.mul_comm e vb, ← Nat.mul_add, Nat.sub_add_cancel he]
    rw [h.v, h2, Nat.add_mul, h3]
    omega
theorem DivT.leave {B : Nat} {a q : List Nat} {vb k r d : Nat} (h : DivT B a vb k q r d) (hr : r < vb) : DivS B a vb k q r := ⟨h.len, h.dq, h.z, hr, h.v⟩
theorem DivS.done {B : Nat} {a q : List Nat} {vb R : Nat} (h : DivS B a vb 0 q R) : vl B q = vl B a / vb ∧ R = vl B a % vb := by
  have h1 := h.v
  rw [List.take_zero, Nat.pow_zero, Nat.one_mul] at h1
  simp only [vl, Nat.add_zero] at h1
  have h2 := (Nat.div_mod_unique (Nat.lt_of_le_of_lt (Nat.zero_le _) h.lt)).2 ⟨show R + vb * vl B q = vl B a by rw [h1, Nat.mul_comm]; omega, h.lt⟩
  exact ⟨h2.1.symm, h2.2.symm⟩
/-- two lists of digits that one slice reads as are one -/
theorem vI_inj {x y : Nat} (h : vI x = vI y) : x = y := by
  unfold vI at h
  injection h with _ h2
  omega
theorem Rd.uniqI {w : World} {A : Option Addr} {n c : Nat} {l l' : List Nat} (h : Rd vI w A n c l) (h' : Rd vI w A n c l') : l = l' := by
  refine List.ext_getElem? fun j => ?_
  by_cases hj : j < n
  · obtain ⟨g, o, ea, hc⟩ := h.at_ (by omega)
    obtain ⟨g', o', ea', hc'⟩ := h'.at_ (by omega)
    rw [ea] at ea'
    cases ea'
    have e1 := dg_in l j (by rw [h.len]; exact hj)
    have e2 := dg_in l' j (by rw [h'.len]; exact hj)
    have h1 := hc j _ e1
    rw [hc' j _ e2] at h1
    rw [e1, e2, vI_inj (Option.some.inj h1)]
  · rw [List.getElem?_eq_none (by rw [h.len]; omega), List.getElem?_eq_none (by rw [h'.len]; omega)]
/-- the number that a slice of ints reads as -/
noncomputable def rdI (w : World) (v : Value) : Nat := by
  classical
  exact if h : ∃ y : Nat, ∃ A n c, v = .slice A n c ∧ Rd vI w A n c (dgs 65536 y) then Classical.choose h else 0
theorem rdI_eq {w : World} {A : Option Addr} {n c y : Nat} (h : Rd vI w A n c (dgs 65536 y)) : rdI w (.slice A n c) = y := by
  have hh : ∃ y : Nat, ∃ A' n' c', Value.slice A n c = .slice A' n' c' ∧ Rd vI w A' n' c' (dgs 65536 y) := ⟨y, A, n, c, rfl, h⟩
  unfold rdI
  rw [dif_pos hh]
  obtain ⟨A', n', c', e, h'⟩ := Classical.choose_spec hh
  cases e
  have e2 := congrArg (vl 65536) (h'.uniqI h)
  rwa [vl_dgs (by decide), vl_dgs (by decide)] at e2
end Go.Proofs.YtkdjhklnlnfhfaaGreatDoor
