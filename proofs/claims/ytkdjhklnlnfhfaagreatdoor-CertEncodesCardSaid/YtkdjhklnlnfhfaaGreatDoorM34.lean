/-
  What the law PrimBack leans on: a long number's bytes read as that number; moments compared.
  May a serial be; the zero say may not. The laws' head.
  The reference's el, two, Oid, kind, SignKind, Encode.
  What the rows' readings give the walks: moments, bits, identifiers.
-/
import Derived.Test.YtkdjhklnlnfhfaaGreatDoorM27
import Derived.Test.YtkdjhklnlnfhfaaGreatDoorM33
import Derived.Test.YtkdjhklnlnfhfaaGreatDoorM32
import Derived.Test.YtkdjhklnlnfhfaaGreatDoorM5
import Derived.Test.YtkdjhklnlnfhfaaGreatDoorM28
import Derived.Test.YtkdjhklnlnfhfaaGreatDoorM10
import Derived.Test.YtkdjhklnlnfhfaaGreatDoorM21
import Derived.Deep.Slices
import Derived.Deep.Strs
import Derived.Lib.SmallJoins
namespace Go.Proofs.YtkdjhklnlnfhfaaGreatDoor
open Go Go.RowKit
set_option maxRecDepth 4000

theorem toB_succ8 (v k : Nat) : toB v (k + 1) = toB (v / 256) k ++ [BitVec.ofNat 8 v] := by
  unfold toB
  rw [List.range_succ, List.map_append]
  congr 1
  · refine List.map_congr_left fun j hj => ?_
    have hj' : j < k := by simpa using hj
    rw [show k + 1 - 1 - j = (k - 1 - j) + 1 by omega, Nat.pow_succ, Nat.mul_comm, Nat.div_div_eq_div_mul]
  · simp
theorem bnum_toB8 : ∀ (k v : Nat), v < 256 ^ k → bnum (toB v k) = v
  | 0, v, h => by
    have h2 : v = 0 := by simpa using h
    subst h2
    rfl
  | k + 1, v, h => by
    have h2 : v / 256 < 256 ^ k := by
      rw [Nat.pow_succ] at h
      omega
    have h3 : bnum [BitVec.ofNat 8 v] = v % 256 := by
      simp [bnum, vl]
    rw [toB_succ8, bnum_append, bnum_toB8 k _ h2, h3]
    simp only [List.length_singleton, Nat.pow_one]
    omega
theorem bnum_sml (v : Nat) : bnum (sml v) = v := bnum_toB8 _ _ ((nb_iff v _).1 (Nat.le_refl _))
theorem bnum_big (v : Nat) : bnum (bigL v) = v := by
  unfold bigL
  split
  · have e : bnum ((0 : BitVec 8) :: sml v) = bnum ([0] ++ sml v) := rfl
    rw [e, bnum_append, bnum_sml]
    have h0 : bnum [(0 : BitVec 8)] = 0 := by decide
    rw [h0]
    omega
  · exact bnum_sml v
theorem sml_head {v : Nat} (h : nb v ≠ 0) : gb (sml v) 0 ≠ 0 := by
  obtain ⟨k, hk⟩ : ∃ k, nb v = k + 1 := ⟨nb v - 1, by omega⟩
  have h1 := (nb_iff v (k + 1)).1 (by omega)
  have h2 : 256 ^ k ≤ v := Nat.le_of_not_lt fun h => by have := (nb_iff v k).2 h; omega
  have h3 : v / 256 ^ k < 256 := by rw [Nat.div_lt_iff_lt_mul (Nat.pow_pos (by decide)), Nat.mul_comm, ← Nat.pow_succ]; exact h1
  have h4 : 0 < v / 256 ^ k := Nat.div_pos h2 (Nat.pow_pos (by decide))
  unfold sml
  rw [hk, toB_cons]
  intro e
  have e2 : BitVec.ofNat 8 (v / 256 ^ k) = 0 := e
  have e3 := congrArg BitVec.toNat e2
  rw [BitVec.toNat_ofNat, Nat.mod_eq_of_lt (by omega)] at e3
  simp at e3
  omega
theorem big_ok (v : Nat) : bigB (bigL v) = true := by
  have hl := sml_len v
  unfold bigL
  split
  · rename_i h
    unfold bigZ at h
    rw [Bool.or_eq_true, decide_eq_true_eq, decide_eq_true_eq] at h
    unfold bigB
    cases hs : sml v with
    | nil => decide
    | cons x r =>
      have hx : 128 ≤ x.toNat := by
        rcases h with h | h
        · rw [hs] at hl; simp at hl; omega
        · rwa [hs] at h
      have e0 : gb ((0 : BitVec 8) :: x :: r) 0 = 0 := rfl
      rw [e0]
      have h1 : tcB ((0 : BitVec 8) :: x :: r) = true := by
        unfold tcB
        simp
        omega
      rw [h1]
      decide
  · rename_i h
    unfold bigZ at h
    rw [Bool.not_eq_true, Bool.or_eq_false_iff, decide_eq_false_iff_not, decide_eq_false_iff_not] at h
    have h0 := sml_head h.1
    have h2 := h.2
    unfold bigB
    rw [decide_eq_false h2]
    cases hs : sml v with
    | nil => rw [hs] at hl; simp at hl; omega
    | cons x r =>
      rw [hs] at h0 h2
      have e0 : gb (x :: r) 0 = x := rfl
      rw [e0] at h0 h2
      cases r with
      | nil => rfl
      | cons y r =>
        unfold tcB
        have a1 : (x == 0) = false := beq_eq_false_iff_ne.2 h0
        have a2 : (x == 255) = false := beq_eq_false_iff_ne.2 fun e => h2 (by rw [e]; decide)
        simp only [a1, a2, Bool.false_and, Bool.not_false, Bool.and_true]
theorem neq_time (a b c d e f : Int) (w : World) : (binOp .neq tmt (.agg (tci a b c d e f)) (.agg (tci a b c d e f))).run Tryz.prog w = .ok (.bool false) w := by
  have hall : ((Tryz.prog.fieldsOf tmt).toList.all fun f => f.type == 3 && decide (f.offset < 6)) = true := by kernel_rfl
  rw [run_neq_struct, run_equalIn_agg w 9999 tmt _ _ (by kernel_rfl) (by kernel_rfl), eqFields_same w 9999 _ _ fun g hg => ?_]
  · rfl
  · have := List.all_eq_true.1 hall g hg
    simp only [Bool.and_eq_true, beq_iff_eq, decide_eq_true_eq] at this
    obtain ⟨z, hz⟩ := part6 a b c d e f w g.offset this.2
    refine ⟨_, this.1 ▸ hz, ?_⟩
    rw [this.1, run_equalIn_int w 9998 3 .i64 .i64 z z Tryz.underlying3]
    simp
end Go.Proofs.YtkdjhklnlnfhfaaGreatDoor
namespace Go.Proofs.YtkdjhklnlnfhfaaGreatDoor
open Go Go.RowKit
set_option maxRecDepth 4000

/-- may a serial be? -/
def SerOk (v : Nat) : Prop := ¬ lng v ∧ (bigL v).length ≤ 20 ∧ 1 ≤ v
instance (v : Nat) : Decidable (SerOk v) := by unfold SerOk lng; infer_instance
set_option maxHeartbeats 4000000 in
theorem serialMay_any {A : Option Addr} {n c v : Nat} {w : World} (h : Nv w A n c v) : Calls Tryz.prog 76 #[.slice A n c] w fun e w' => e = .returned (.bool (decide (SerOk v))) ∧ Ext w w' := by
  have BG := Big_any h
  have H := Kp.mk h
  clear h
  by_cases hl : lng v
  · have hd : decide (SerOk v) = false := decide_eq_false fun h => h.1 hl
    rw [hd]
    have BG := Kp.mk BG
    have HL := Kp.mk hl
    clear hl hd
    go_enter Tryz.func76, Tryz.ntmps76
    go_wp2_with fail
    refine BG.out.mono ?_
    rintro e w1 (⟨_, rfl, hx1⟩ | ⟨hn, _⟩)
    · have X1 := Kp.mk hx1
      clear hx1
      go_wp2_with fail
      go_ret
      exact ⟨rfl, X1.out⟩
    · exact absurd HL.out hn
  · by_cases h20 : (bigL v).length ≤ 20
    · have CV : Kp (∀ w1, Ext w w1 → Calls Tryz.prog 121 #[.slice A n c, .slice (some ⟨w1.heap.size, 0, none⟩) 1 1] (w1.alloc (.cells #[.int .u32 1] ut)) fun e w' => e = .returned (.int .i64 (cmpI v 1)) ∧ Ext (w1.alloc (.cells #[.int .u32 1] ut)) w') := ⟨fun w1 hx => CmpV ((H.out.ext hx).ext (by (repeat (first | assumption | exact Ext.refl _ | apply Ext.drew | apply Ext.drewN | apply Ext.alloc | refine Ext.trans ?_ (by assumption))); first | done | fail)) (Nv.lit w1 1 1 rfl (by decide) _ rfl) _ rfl⟩
      have hd : decide (0 ≤ cmpI v 1) = decide (SerOk v) := by
        have : (0 ≤ cmpI v 1) ↔ SerOk v := by
          unfold cmpI SerOk
          constructor
          · intro h
            refine ⟨hl, h20, ?_⟩
            by_cases hv : v < 1
            · rw [if_pos hv] at h; omega
            · omega
          · intro h
            rw [if_neg (by omega)]
            split <;> omega
        exact decide_eq_decide.2 this
      rw [← hd]
      have BG := Kp.mk BG
      have HL := Kp.mk hl
      generalize cmpI v 1 = Z at *
      generalize (bigL v).length = N at *
      have b1 : decide ((N : Int) ≤ 20) = true := decide_eq_true (by omega)
      have b2 : (N : Int) ≤ 20 := by omega
      clear hl hd
      go_enter Tryz.func76, Tryz.ntmps76
      go_wp2_with fail
      refine BG.out.mono ?_
      rintro e w1 (⟨hn, _⟩ | ⟨_, A1, c1, rfl, hs1, ho1, hx1⟩)
      · exact absurd hn HL.out
      have X1 := Kp.mk hx1
      have C1 := Kp.mk (CV.out w1 hx1)
      clear hs1 ho1 hx1 CV
      go_wp2_with fail
      refine C1.out.mono ?_
      rintro e w2 ⟨rfl, hx2⟩
      have X2 := Kp.mk (X1.out.trans (Ext.trans (show Ext w1 (w1.alloc (.cells #[.int .u32 1] ut)) from (by (repeat (first | assumption | exact Ext.refl _ | apply Ext.drew | apply Ext.drewN | apply Ext.alloc | refine Ext.trans ?_ (by assumption))); first | done | fail)) hx2))
      clear hx2
      go_wp2_with fail
      go_ret
      exact ⟨rfl, X2.out⟩
    · have hd : decide (SerOk v) = false := decide_eq_false fun h => h20 h.2.1
      rw [hd]
      have BG := Kp.mk BG
      have HL := Kp.mk hl
      generalize (bigL v).length = N at *
      have b1 : decide ((N : Int) ≤ 20) = false := decide_eq_false (by omega)
      clear hl hd
      go_enter Tryz.func76, Tryz.ntmps76
      go_wp2_with fail
      refine BG.out.mono ?_
      rintro e w1 (⟨hn, _⟩ | ⟨_, A1, c1, rfl, hs1, ho1, hx1⟩)
      · exact absurd hn HL.out
      have X1 := Kp.mk hx1
      clear hs1 ho1 hx1
      go_wp2_with fail
      go_ret
      exact ⟨rfl, X1.out⟩
abbrev crt : TypeId := 33
theorem szCrt : (Tryz.prog.info? crt).map (·.size) = some 23 := by kernel_rfl
abbrev zC : Array Value := #[.slice none 0 0, .slice none 0 0, .slice none 0 0, .int .i64 0, .int .i64 0, .int .i64 0, .int .i64 0, .int .i64 0, .int .i64 0, .int .i64 0, .int .i64 0, .int .i64 0, .int .i64 0, .int .i64 0, .int .i64 0, .slice none 0 0, .slice none 0 0, .bool false, .int .i64 0, .int .i64 0, .slice none 0 0, .slice none 0 0, .slice none 0 0]
set_option maxHeartbeats 4000000 in
theorem sayMay_zero (w : World) : Calls Tryz.prog 30 #[.agg zC] w fun e w' => e = .returned (.bool false) ∧ Ext w w' := by
  have S := Kp.mk (serialMay_any (Nv.nil (w.alloc (.cells zC crt))))
  rw [show decide (SerOk 0) = false from decide_eq_false fun h => absurd h.2.2 (by decide)] at S
  unfold zC at *
  go_enter Tryz.func30, Tryz.ntmps30
  go_wp2_with (first | (go_at_call 76; refine S.out.mono ?_; rintro e w1 ⟨rfl, hx1⟩; have X1 := Kp.mk hx1; clear hx1) | fail)
  go_ret
  exact ⟨rfl, Ext.trans ((by (repeat (first | assumption | exact Ext.refl _ | apply Ext.drew | apply Ext.drewN | apply Ext.alloc | refine Ext.trans ?_ (by assumption))); first | done | fail) : Ext w (w.alloc (.cells #[.slice none 0 0, .slice none 0 0, .slice none 0 0, .int .i64 0, .int .i64 0, .int .i64 0, .int .i64 0, .int .i64 0, .int .i64 0, .int .i64 0, .int .i64 0, .int .i64 0, .int .i64 0, .int .i64 0, .int .i64 0, .slice none 0 0, .slice none 0 0, .bool false, .int .i64 0, .int .i64 0, .slice none 0 0, .slice none 0 0, .slice none 0 0] crt))) X1.out⟩
set_option maxHeartbeats 4000000 in
theorem Check_zero (w : World) : Calls Tryz.prog 12 #[.agg zC] w fun e w' => e = .returned (err 1) ∧ Ext w w' := by
  have S := Kp.mk (sayMay_zero (w.alloc (.cells zC crt)))
  have HB := Kp.mk (Blk.new w crt zC)
  have X0 : Kp (Ext w (w.alloc (.cells zC crt))) := ⟨(by (repeat (first | assumption | exact Ext.refl _ | apply Ext.drew | apply Ext.drewN | apply Ext.alloc | refine Ext.trans ?_ (by assumption))); first | done | fail)⟩
  unfold zC at *
  go_enter Tryz.func12, Tryz.ntmps12
  go_wp2_with (first | ((with_reducible refine at_load_to 3 1 ?_); refine wpList_load_row rfl crt _ rfl w.heap.size rfl crt _ (0, 0) _ HB.out.h Tryz.underlying33 rfl szCrt ?_) | (go_at_call 30; refine S.out.mono ?_; rintro e w1 ⟨rfl, hx1⟩; have X1 := Kp.mk hx1; clear hx1) | fail)
  go_ret
  exact ⟨rfl, X0.out.trans X1.out⟩
theorem spl_nil : splL [] = none := by
  cases h : splL [] with
  | none => rfl
  | some p =>
    obtain ⟨_, _, h3⟩ := splL_iff.1 (show splL [] = some (p.1, p.2) from h)
    have h4 := congrArg List.length h3
    unfold encX at h4
    rw [elm_len] at h4
    have := hdn_lo (encI p.1 p.2).length
    simp at h4
    omega
set_option maxHeartbeats 4000000 in
theorem up10 (w : World) : Calls Tryz.prog 10 #[] w fun e w' => e = .returned (.bool true) ∧ Ext w w' := by
  have S := Kp.mk (Split_any (Bs.nil w) (by decide))
  have Z := Kp.mk Check_zero
  have HE := code_eq 2 2
  have HE1 := code_eq 1 1
  go_enter Tryz.func10, Tryz.ntmps10
  go_wp2_with fail
  refine S.out.mono ?_
  rintro e w1 (⟨x, s, _, _, _, _, _, _, h, _⟩ | ⟨_, rfl, hx1⟩)
  · rw [spl_nil] at h; cases h
  have X1 := Kp.mk hx1
  clear hx1
  go_wp2_with (first | (go_at_call 12; refine (Z.out _).mono ?_; rintro e w2 ⟨rfl, hx2⟩; have X2 := Kp.mk hx2; clear hx2) | fail)
  go_ret
  exact ⟨rfl, X1.out.trans X2.out⟩
end Go.Proofs.YtkdjhklnlnfhfaaGreatDoor
namespace Go.Proofs.YtkdjhklnlnfhfaaGreatDoor
open Go Go.RowKit
set_option maxRecDepth 4000

/-- new bytes -/
def Frs (w : World) (l : List (BitVec 8)) (e : Ending) (w' : World) : Prop := ∃ A n c, e = .returned (.slice A n c) ∧ Own w' w.heap.size (.slice A n c) n l ∧ Ext w w'
theorem Fresh.s {w w' : World} {n : Nat} {l : List (BitVec 8)} {e : Ending} (h : Fresh w n l e w') : Frs w l e w' := by
  obtain ⟨A, c, he, _, ho, hx⟩ := h
  exact ⟨A, n, c, he, ho, hx⟩
section
variable {w : World} {A B : Option Addr} {n c m d : Nat} {a b : List (BitVec 8)} {l : List Nat}
set_option maxHeartbeats 1000000 in
theorem rEl (k : BitVec 8) (hb : Bs w A n c b) (h : n ≤ 65535) : Calls Tryz.prog 42 #[.int .u8 (ub k), .slice A n c] w (Frs w (elm k b)) := by
  have C := Kp.mk (refElement_ok k hb h)
  clear hb h
  go_enter Tryz.func42, Tryz.ntmps42
  go_wp2_with (first | (go_at_call 91; refine C.out.mono ?_; rintro e w1 ⟨A1, c1, rfl, hs1, ho1, hx1⟩; have HO := Kp.mk ho1; have HX := Kp.mk hx1; clear hs1 ho1 hx1) | fail)
  go_ret
  exact ⟨_, _, _, rfl, HO.out, HX.out⟩
set_option maxHeartbeats 2000000 in
theorem rTwo (ha : Bs w A n c a) (hb : Bs w B m d b) (h : n + m ≤ 140737488355328) : Calls Tryz.prog 45 #[.slice A n c, .slice B m d] w (Frs w (a ++ b)) := by
  obtain ⟨A0, c0, e0, _, ho0, hx0⟩ := lit_fresh w [] 0 rfl (by decide) #[] rfl
  cases e0
  have HO := Kp.mk ho0
  have HX := Kp.mk hx0
  have HA := Kp.mk ha
  have HB := Kp.mk hb
  clear ha hb ho0 hx0
  go_enter Tryz.func45, Tryz.ntmps45
  go_wp2_with (first | (at_builtin; refine wpList_append_bs rfl (.tmp 5) (.tmp 6) rfl w.heap.size _ 0 [] rfl HO.out A n c a rfl (HA.out.ext HX.out) (by omega) n (by omega) a rfl w HX.out (Nat.le_refl _) HX.out.size ?_; intro A1 c1 w1 ho1 hx1 _; have HO1 := Kp.mk ho1; have HX1 := Kp.mk hx1; clear ho1 hx1 HO) | (at_builtin; refine wpList_append_bs rfl (.tmp 7) (.tmp 8) rfl w.heap.size _ n a rfl HO1.out B m d b rfl (HB.out.ext HX1.out) h (n + m) rfl (a ++ b) rfl w HX1.out (Nat.le_refl _) HX1.out.size ?_; intro A2 c2 w2 ho2 hx2 _) | fail)
  go_ret
  exact ⟨_, _, _, rfl, ho2, hx2⟩
set_option maxHeartbeats 1000000 in
theorem rOid (h : Rd vL w A n c l) (hP : OidP l) : Calls Tryz.prog 51 #[.slice A n c] w (Frs w (oidE l)) := by
  have C := Kp.mk (OidBody_any h hP)
  have h1 := oidB_len hP
  have HL : Kp ((oidB l).length ≤ 65535) := ⟨by omega⟩
  clear h hP h1
  go_enter Tryz.func51, Tryz.ntmps51
  go_wp2_with fail
  refine C.out.mono ?_
  rintro e w1 ⟨A1, c1, rfl, hs1, ho1, hx1⟩
  have E := Kp.mk (rEl 6 hs1 HL.out)
  have X1 := Kp.mk hx1
  clear hs1 ho1 hx1
  go_wp2_with fail
  refine E.out.mono ?_
  rintro e w2 ⟨A2, n2, c2, rfl, ho2, hx2⟩
  have O2 := Kp.mk (And.intro ho2 hx2)
  clear ho2 hx2
  go_wp2_with fail
  go_ret
  exact ⟨_, _, _, rfl, O2.out.1.lower X1.out.size, X1.out.trans O2.out.2⟩
set_option maxHeartbeats 2000000 in
theorem rKind (h : Rd vL w A n c l) (hP : OidP l) : Calls Tryz.prog 98 #[.slice A n c] w (Frs w (kndE l)) := by
  have C := Kp.mk (rOid h hP)
  have h1 := oidE_len hP
  have h2 := kndI_len hP
  have HL := Kp.mk (And.intro h1 h2)
  clear h hP h1 h2
  go_enter Tryz.func98, Tryz.ntmps98
  go_wp2_with fail
  refine C.out.mono ?_
  rintro e w1 ⟨A1, n1, c1, rfl, ho1, hx1⟩
  have O1 := Kp.mk ho1
  have X1 := Kp.mk hx1
  have E5 := Kp.mk (rEl 5 (Bs.nil w1) (by decide))
  clear ho1 hx1
  go_wp2_with fail
  refine E5.out.mono ?_
  rintro e w2 ⟨A2, n2, c2, rfl, ho2, hx2⟩
  have hl1 := O1.out.bs.len
  have hl2 := ho2.bs.len
  have hl3 : (elm 5 []).length = 2 := rfl
  have hl4 := HL.out.1
  have T := Kp.mk (rTwo (O1.out.bs.ext hx2) ho2.bs (by omega))
  have X2 := Kp.mk (X1.out.trans hx2)
  clear ho2 hx2 hl1 hl2 hl3 hl4
  go_wp2_with fail
  refine T.out.mono ?_
  rintro e w3 ⟨A3, n3, c3, rfl, ho3, hx3⟩
  have hl3 := ho3.bs.len
  have hl4 := HL.out.2
  have E := Kp.mk (rEl 48 ho3.bs (by omega))
  have X3 := Kp.mk (X2.out.trans hx3)
  clear ho3 hx3 hl3 hl4
  go_wp2_with fail
  refine E.out.mono ?_
  rintro e w4 ⟨A4, n4, c4, rfl, ho4, hx4⟩
  have O4 := Kp.mk (And.intro ho4 hx4)
  clear ho4 hx4
  go_wp2_with fail
  go_ret
  exact ⟨_, _, _, rfl, O4.out.1.lower X3.out.size, X3.out.trans O4.out.2⟩
set_option maxHeartbeats 1000000 in
theorem rSign (w : World) : Calls Tryz.prog 44 #[] w (Frs w sgnE) := by
  have L := lit_us w sgnO #[.int .u32 1, .int .u32 2, .int .u32 840, .int .u32 113549, .int .u32 1, .int .u32 1, .int .u32 11] rfl 7 rfl (by decide)
  have C := Kp.mk (rKind L sgnO_ok)
  have X0 : Kp (Ext w (w.alloc (.cells #[.int .u32 1, .int .u32 2, .int .u32 840, .int .u32 113549, .int .u32 1, .int .u32 1, .int .u32 11] u32t))) := ⟨(by (repeat (first | assumption | exact Ext.refl _ | apply Ext.drew | apply Ext.drewN | apply Ext.alloc | refine Ext.trans ?_ (by assumption))); first | done | fail)⟩
  clear L
  go_enter Tryz.func44, Tryz.ntmps44
  go_wp2_with fail
  refine C.out.mono ?_
  rintro e w1 ⟨A1, n1, c1, rfl, ho1, hx1⟩
  have O4 := Kp.mk (And.intro ho1 hx1)
  clear ho1 hx1
  go_wp2_with fail
  go_ret
  exact ⟨_, _, _, rfl, O4.out.1.lower X0.out.size, X0.out.trans O4.out.2⟩
end
/-- what the reference's Encode answers -/
def REncR (w : World) (x s : List (BitVec 8)) (e : Ending) (w' : World) : Prop :=
  (EncOk x s ∧ ∃ A n c, e = .returned (.tuple #[.slice A n c, .bool true]) ∧ Own w' w.heap.size (.slice A n c) n (encX x s) ∧ Ext w w') ∨ (¬ EncOk x s ∧ e = .returned (.tuple #[.slice none 0 0, .bool false]) ∧ Ext w w')
set_option maxHeartbeats 4000000 in
theorem rEncode {w : World} {x s : List (BitVec 8)} {A B : Option Addr} {n c m d : Nat} (hx : Bs w A n c x) (hs : Bs w B m d s) (hn : n ≤ 1000000) (hm : m ≤ 1000000) : Calls Tryz.prog 17 #[.slice A n c, .slice B m d] w (REncR w x s) := by
  have hlx := hx.len
  have hls := hs.len
  have HX := Kp.mk hx
  have HS := Kp.mk hs
  have bw : IntKind.i64.wrap ((m : Int) + 1) = (m : Int) + 1 := by rw [IntKind.wrap_i64]; omega
  by_cases h1 : m + 1 ≤ 65535
  · have b1 : decide ((65535 : Int) < (m : Int) + 1) = false := decide_eq_false (by omega)
    have C := Kp.mk (rSign w)
    have HL := Kp.mk (And.intro hlx (And.intro hls (And.intro hn h1)))
    clear hx hs hlx hls hn hm h1
    by_cases h65 : (encI x s).length ≤ 65535
    · have H65 := Kp.mk h65
      clear h65
      go_enter Tryz.func17, Tryz.ntmps17
      go_wp2_with fail
      refine C.out.mono ?_
      rintro e w1 ⟨A1, n1, c1, rfl, ho1, hx1⟩
      have hl1 := ho1.bs.len
      have hl2 := kndE_len sgnO_ok
      have hl3 : sgnE.length ≤ 85 := hl2
      have T := Kp.mk (rTwo (HX.out.ext hx1) ho1.bs (by have := HL.out; omega))
      have X1 := Kp.mk hx1
      have HN1 : Kp (n1 ≤ 85) := ⟨by omega⟩
      have HN2 : Kp (sgnE.length = n1) := ⟨hl1⟩
      clear ho1 hx1 hl1 hl2 hl3
      go_wp2_with fail
      refine T.out.mono ?_
      rintro e w2 ⟨A2, n2, c2, rfl, ho2, hx2⟩
      obtain ⟨A0, c0, e0, _, hoz, hxz⟩ := lit_fresh w2 [0] 1 rfl (by decide) #[.int .u8 0] rfl
      cases e0
      have O2 := Kp.mk (ho2.lower X1.out.size)
      have X2 := Kp.mk (X1.out.trans hx2)
      have OZ := Kp.mk hoz
      have XZ := Kp.mk hxz
      have hm1 : 1 + m ≤ 140737488355328 := by have := HL.out; omega
      clear ho2 hx2 hoz hxz
      go_wp2_with (first | (at_builtin; refine wpList_append_bs rfl (.tmp 14) (.tmp 15) rfl w2.heap.size _ 1 [0] rfl OZ.out B m d s rfl (HS.out.ext (X2.out.trans XZ.out)) hm1 (1 + m) rfl (0 :: s) rfl w2 XZ.out (Nat.le_refl _) XZ.out.size ?_; intro A3 c3 w3 ho3 hx3 _; have O3 := Kp.mk ho3; have X3 := Kp.mk hx3; have E3 := Kp.mk (rEl 3 ho3.bs (by have := HL.out; omega)); clear ho3 hx3 OZ) | (go_at_call 42; refine E3.out.mono ?_; rintro e w4 ⟨A4, n4, c4, rfl, ho4, hx4⟩; have O4 := Kp.mk ho4; have X4 := Kp.mk (X3.out.trans hx4); have hl4 := ho4.bs.len; have hl5 := elm_hi 3 (0 :: s); have hl6 := O2.out.bs.len; have hb : n2 + n4 ≤ 140737488355328 := (by have h1 := HL.out; have h2 := HN1.out; have h3 := HN2.out; rw [List.length_cons] at hl5; rw [List.length_append] at hl6; omega); have HQ : Kp ((encI x s).length = n2 + n4) := ⟨by unfold encI; rw [← List.append_assoc, List.length_append, hl6, hl4]⟩; have b2 : decide ((65535 : Int) < (n2 : Int) + (n4 : Int)) = false := (by have h1 := HQ.out; have h2 := H65.out; exact decide_eq_false (by omega)); clear ho4 hx4 E3 hl4 hl5 hl6) | (at_builtin; refine wpList_append_bs rfl (.tmp 13) (.tmp 17) rfl w.heap.size _ n2 (x ++ sgnE) rfl (O2.out.ext X4.out) A4 n4 c4 (elm 3 (0 :: s)) rfl O4.out.bs hb (n2 + n4) rfl (encI x s) (List.append_assoc _ _ _) w (X2.out.trans X4.out) (Nat.le_refl _) (X2.out.trans X4.out).size ?_; intro A5 c5 w5 ho5 hx5 _; have O5 := Kp.mk ho5; have X5 := Kp.mk hx5; clear ho5 hx5 O2 O4) | fail)
      have E := Kp.mk (rEl 48 O5.out.bs (by have h1 := HQ.out; have h2 := H65.out; omega))
      go_wp2_with fail
      refine E.out.mono ?_
      rintro e w6 ⟨A6, n6, c6, rfl, ho6, hx6⟩
      have O6 := Kp.mk (And.intro (ho6.lower X5.out.size) (X5.out.trans hx6))
      clear ho6 hx6
      go_wp2_with fail
      go_ret2
      exact .inl ⟨⟨by have := HL.out; omega, H65.out⟩, _, _, _, rfl, O6.out.1, O6.out.2⟩
    · have H65 := Kp.mk h65
      clear h65
      go_enter Tryz.func17, Tryz.ntmps17
      go_wp2_with fail
      refine C.out.mono ?_
      rintro e w1 ⟨A1, n1, c1, rfl, ho1, hx1⟩
      have hl1 := ho1.bs.len
      have hl2 := kndE_len sgnO_ok
      have hl3 : sgnE.length ≤ 85 := hl2
      have T := Kp.mk (rTwo (HX.out.ext hx1) ho1.bs (by have := HL.out; omega))
      have X1 := Kp.mk hx1
      have HN1 : Kp (n1 ≤ 85) := ⟨by omega⟩
      have HN2 : Kp (sgnE.length = n1) := ⟨hl1⟩
      clear ho1 hx1 hl1 hl2 hl3
      go_wp2_with fail
      refine T.out.mono ?_
      rintro e w2 ⟨A2, n2, c2, rfl, ho2, hx2⟩
      obtain ⟨A0, c0, e0, _, hoz, hxz⟩ := lit_fresh w2 [0] 1 rfl (by decide) #[.int .u8 0] rfl
      cases e0
      have O2 := Kp.mk (ho2.lower X1.out.size)
      have X2 := Kp.mk (X1.out.trans hx2)
      have OZ := Kp.mk hoz
      have XZ := Kp.mk hxz
      have hm1 : 1 + m ≤ 140737488355328 := by have := HL.out; omega
      clear ho2 hx2 hoz hxz
      go_wp2_with (first | (at_builtin; refine wpList_append_bs rfl (.tmp 14) (.tmp 15) rfl w2.heap.size _ 1 [0] rfl OZ.out B m d s rfl (HS.out.ext (X2.out.trans XZ.out)) hm1 (1 + m) rfl (0 :: s) rfl w2 XZ.out (Nat.le_refl _) XZ.out.size ?_; intro A3 c3 w3 ho3 hx3 _; have O3 := Kp.mk ho3; have X3 := Kp.mk hx3; have E3 := Kp.mk (rEl 3 ho3.bs (by have := HL.out; omega)); clear ho3 hx3 OZ) | (go_at_call 42; refine E3.out.mono ?_; rintro e w4 ⟨A4, n4, c4, rfl, ho4, hx4⟩; have O4 := Kp.mk ho4; have X4 := Kp.mk (X3.out.trans hx4); have hl4 := ho4.bs.len; have hl5 := elm_hi 3 (0 :: s); have hl6 := O2.out.bs.len; have hb : n2 + n4 ≤ 140737488355328 := (by have h1 := HL.out; have h2 := HN1.out; have h3 := HN2.out; rw [List.length_cons] at hl5; rw [List.length_append] at hl6; omega); have HQ : Kp ((encI x s).length = n2 + n4) := ⟨by unfold encI; rw [← List.append_assoc, List.length_append, hl6, hl4]⟩; have b2 : decide ((65535 : Int) < (n2 : Int) + (n4 : Int)) = true := (by have h1 := HQ.out; have h2 := H65.out; exact decide_eq_true (by omega)); clear ho4 hx4 E3 hl4 hl5 hl6) | (at_builtin; refine wpList_append_bs rfl (.tmp 13) (.tmp 17) rfl w.heap.size _ n2 (x ++ sgnE) rfl (O2.out.ext X4.out) A4 n4 c4 (elm 3 (0 :: s)) rfl O4.out.bs hb (n2 + n4) rfl (encI x s) (List.append_assoc _ _ _) w (X2.out.trans X4.out) (Nat.le_refl _) (X2.out.trans X4.out).size ?_; intro A5 c5 w5 ho5 hx5 _; have O5 := Kp.mk ho5; have X5 := Kp.mk hx5; clear ho5 hx5 O2 O4) | fail)
      go_ret2
      exact .inr ⟨fun h => H65.out h.2, rfl, X5.out⟩
  · have b1 : decide ((65535 : Int) < (m : Int) + 1) = true := decide_eq_true (by omega)
    have HN : Kp (¬ EncOk x s) := ⟨fun h => h1 (by have := h.1; omega)⟩
    clear hx hs hlx hls hn hm h1
    go_enter Tryz.func17, Tryz.ntmps17
    go_wp2_with fail
    go_ret2
    exact .inr ⟨HN.out, rfl, Ext.refl _⟩
end Go.Proofs.YtkdjhklnlnfhfaaGreatDoor
namespace Go.Proofs.YtkdjhklnlnfhfaaGreatDoor
open Go Go.ChangeShapes Go.WideShapes Go.ChangeAt Go.RowKit Go.Joins Go.Deep Go.WideElems Go.Maps
set_option maxRecDepth 4000

section
variable {H : Type} {enc : TypeId × Value → H} {P : Program} {w : World} {held : Bool}
theorem open_time_of {t base' : Nat} {f0 f1 f2 f3 f4 f5 : Field} {v : Value} {d : DataW H} {p : List MemPlace} (hs : P.underlying t = some (.struct #[f0, f1, f2, f3, f4, f5])) (hone : oneCellFields P #[f0, f1, f2, f3, f4, f5] = true) (hC : P.cellsOf t = 6)
    (h0 : P.underlying f0.type = some (.int .i64)) (h1 : P.underlying f1.type = some (.int .i64)) (h2 : P.underlying f2.type = some (.int .i64)) (h3 : P.underlying f3.type = some (.int .i64)) (h4 : P.underlying f4.type = some (.int .i64)) (h5 : P.underlying f5.type = some (.int .i64))
    (hv : Value.okWide P w .any base' t v) (h : DataW.Trod enc P w 0 (fun _ => true) held t v d p) : ∃ y mo d h mi s, v = .agg (tci y mo d h mi s) := by
  obtain ⟨cs, rfl, hsz⟩ := okWide_struct hs hv
  obtain ⟨l⟩ := cs
  match l, (hsz.trans hC) with
  | [c0, c1, c2, c3, c4, c5], _ =>
    obtain ⟨fuel, hf⟩ := h
    obtain ⟨xs, n, _, hx, hl, hlen, hg⟩ := DataW.trod_struct hs hf
    obtain ⟨o0, k0⟩ := hone_of hone 0 f0 rfl
    obtain ⟨o1, k1⟩ := hone_of hone 1 f1 rfl
    obtain ⟨o2, k2⟩ := hone_of hone 2 f2 rfl
    obtain ⟨o3, k3⟩ := hone_of hone 3 f3 rfl
    obtain ⟨o4, k4⟩ := hone_of hone 4 f4 rfl
    obtain ⟨o5, k5⟩ := hone_of hone 5 f5 rfl
    match xs, hlen with
    | [y0, y1, y2, y3, y4, y5], _ =>
      have g0 := hg 0 f0 rfl
      have g1 := hg 1 f1 rfl
      have g2 := hg 2 f2 rfl
      have g3 := hg 3 f3 rfl
      have g4 := hg 4 f4 rfl
      have g5 := hg 5 f5 rfl
      simp [Value.cells, o0, k0] at g0
      simp [Value.cells, o1, k1] at g1
      simp [Value.cells, o2, k2] at g2
      simp [Value.cells, o3, k3] at g3
      simp [Value.cells, o4, k4] at g4
      simp [Value.cells, o5, k5] at g5
      obtain ⟨z0, e0, _, _⟩ := DataW.trod_int h0 g0
      obtain ⟨z1, e1, _, _⟩ := DataW.trod_int h1 g1
      obtain ⟨z2, e2, _, _⟩ := DataW.trod_int h2 g2
      obtain ⟨z3, e3, _, _⟩ := DataW.trod_int h3 g3
      obtain ⟨z4, e4, _, _⟩ := DataW.trod_int h4 g4
      obtain ⟨z5, e5, _, _⟩ := DataW.trod_int h5 g5
      cases e0
      cases e1
      cases e2
      cases e3
      cases e4
      cases e5
      exact ⟨z0, z1, z2, z3, z4, z5, rfl⟩
theorem open_bytes_at8 {t e fuel : Nat} {v : Value} {x : DataW H × List MemPlace} (ht : P.underlying t = some (.slice e)) (he : P.underlying e = some (.int .u8)) (hce : P.cellsOf e = 1)
    (hf : DataW.trod enc P w 0 (fun _ => true) held fuel t [v] = some x) : ∃ A n c l, v = .slice A n c ∧ Sl w A n c l ∧ c ≤ maxLen := by
  rcases open_ints ht he hce hf with ⟨hcs, _⟩ | ⟨a, len, cap, zs, hcs, _, hl, hm, hz, _, hcell, hwz⟩
  · obtain rfl : v = .slice none 0 0 := by simpa using hcs
    exact ⟨none, 0, 0, [], rfl, Sl.nil _, Nat.zero_le _⟩
  · obtain rfl : v = .slice (some a) len cap := by simpa using hcs
    simp only [if_true] at hz
    have hx : ∀ i, i < zs.length → ∃ x : BitVec 8, (zs.map (Value.int .u8))[i]? = some (vb x) := fun i hi => by
      obtain ⟨y, hy⟩ := wf_u8 (hwz _ (List.getElem_mem hi))
      exact ⟨y, by simp [hi, hy]⟩
    obtain ⟨l, hl1, hl2⟩ := list_of_cells vb zs.length (zs.map (Value.int .u8)) (by simp) hx
    refine ⟨some a, len, cap, l.take len, rfl, ⟨by rw [List.length_take]; omega, hl, (fun e => by cases e), fun hn => ?_⟩, hm⟩
    obtain ⟨b, off, rfl, hc⟩ := ints_at hcell (by omega)
    refine ⟨b, off, rfl, fun j hj => ?_⟩
    rw [gb_take _ _ _ hj, hc j (by omega)]
    have e1 := congrArg (fun q : List Value => q[j]?) hl1
    have hjz : j < zs.length := by omega
    have hjl : j < l.length := by omega
    simp only [List.getElem?_map, List.getElem?_eq_getElem hjz, List.getElem?_eq_getElem hjl, Option.map_some] at e1
    simp only [List.getD_eq_getElem?_getD, List.getElem?_eq_getElem hjz, Option.getD_some, e1]
    simp [gb, hjl]
theorem open_bits_of {t eb base' : Nat} {f0 f1 : Field} {v : Value} {d : DataW H} {p : List MemPlace} (hs : P.underlying t = some (.struct #[f0, f1])) (hone : oneCellFields P #[f0, f1] = true) (hC : P.cellsOf t = 2)
    (h0 : P.underlying f0.type = some (.slice eb)) (h4 : P.underlying eb = some (.int .u8)) (h5 : P.cellsOf eb = 1) (h1 : P.underlying f1.type = some (.int .i64))
    (hv : Value.okWide P w .any base' t v) (h : DataW.Trod enc P w 0 (fun _ => true) held t v d p) : ∃ A n c l u, v = .agg #[.slice A n c, .int .i64 u] ∧ Sl w A n c l := by
  obtain ⟨v0, v1, y0, y1, n, rfl, _, _, r0, r1⟩ := open_agg2 hs hone hC hv h
  obtain ⟨A0, n0, c0, l0, rfl, a0, _⟩ := open_bytes_at8 h0 h4 h5 r0
  obtain ⟨z1, e1, _, _⟩ := DataW.trod_int h1 r1
  cases e1
  exact ⟨A0, n0, c0, l0, z1, rfl, a0⟩
theorem open_arcs {t e base' : Nat} {v : Value} {d : DataW H} {p : List MemPlace} (ht : P.underlying t = some (.slice e)) (he : P.underlying e = some (.int .u32)) (hce : P.cellsOf e = 1)
    (hv : Value.okWide P w .any base' t v) (h : DataW.Trod enc P w 0 (fun _ => true) held t v d p) : ∃ A n c l, v = .slice A n c ∧ Rd vL w A n c l ∧ Dg 4294967296 l ∧ c ≤ maxLen := by
  obtain ⟨a0, len, cap, rfl⟩ := okWide_slice ht hv
  obtain ⟨fuel, hf⟩ := h
  rcases open_ints ht he hce hf with ⟨hcs, _⟩ | ⟨a, len', cap', zs, hcs, _, hl, hm, hz, _, hcell, hwz⟩
  · simp [Value.cells] at hcs
    obtain ⟨rfl, rfl, rfl⟩ := hcs
    exact ⟨none, 0, 0, [], rfl, Rd.nil _, (fun d hd => by cases hd), Nat.zero_le _⟩
  · simp [Value.cells] at hcs
    obtain ⟨rfl, rfl, rfl⟩ := hcs
    simp only [if_true] at hz
    refine ⟨some a, len, cap, (zs.map Int.toNat).take len, rfl, ⟨by rw [List.length_take, List.length_map]; omega, hl, (fun e => by cases e), fun hn => ?_⟩, fun x hx => ?_, hm⟩
    · obtain ⟨b, off, rfl, hc⟩ := ints_at hcell (by omega)
      refine ⟨b, off, rfl, fun j x hj => ?_⟩
      have hjn : j < len := by have := (List.getElem?_eq_some_iff.1 hj).1; rw [List.length_take] at this; omega
      rw [hc j (by omega)]
      rw [List.getElem?_take, if_pos hjn, List.getElem?_map, List.getElem?_eq_getElem (by omega)] at hj
      have hb := bounds_u32 (hwz zs[j] (List.getElem_mem (by omega)))
      cases hj
      simp only [List.getD_eq_getElem?_getD, List.getElem?_eq_getElem (show j < zs.length by omega), Option.getD_some, vL]
      congr 2
      omega
    · obtain ⟨y, hy, rfl⟩ := List.mem_map.1 (List.mem_of_mem_take hx)
      have hb := bounds_u32 (hwz y hy)
      show y.toNat < 4294967296
      omega
end
end Go.Proofs.YtkdjhklnlnfhfaaGreatDoor
