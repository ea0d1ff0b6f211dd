/-
  nat: ringOf, take, multiply of a ring; hasBit, bitsOf.
  nat: Cmp.
  Errors that are codes, compared.
  nat: Add, Sub, Mul, Div.
-/
import Derived.Test.YticggkllfojgkaaM6
import Derived.RegionTactic
import Derived.Test.YticggkllfojgkaaM4
import Derived.Test.YticggkllfojgkaaM1
namespace Go.Proofs.Yticggkllfojgkaa
open Go Go.RowKit
set_option maxRecDepth 4000

theorem lit_lb (w : World) (L : List Nat) (g : Nat) (hg : g = w.heap.size) : Lb (w.alloc (.cells (lv L) ut)) g L := by
  subst hg
  exact Lb.new w L
theorem zl_drop (m n : Nat) (h : n ≤ m) : (zl m).drop n = zl (m - n) := by unfold zl; rw [List.drop_replicate]
/-- what a product modulo a number leaves in a's place -/
def RMul (w : World) (ga gw gt m V v : Nat) (e : Ending) (w' : World) : Prop :=
  ∃ a LW LT, e = .returned (.tuple #[]) ∧ a.length = m ∧ Dg BB a ∧ vl BB a = v % V ∧ Lb w' ga a ∧ LW.length = 2 * m ∧ Lb w' gw LW ∧ LT.length = m ∧ Dg BB LT ∧ Lb w' gt LT ∧ Mds [ga, gw, gt] w w'
theorem vl_take_low {L : List Nat} {m : Nat} (h : vl BB L < BB ^ m) (hm : m ≤ L.length) : vl BB (L.take m) = vl BB L := by
  have e := congrArg (vl BB) (List.take_append_drop m L)
  rw [vl_append, List.length_take, Nat.min_eq_left hm] at e
  have h0 : vl BB (L.drop m) = 0 := by
    rcases Nat.eq_zero_or_pos (vl BB (L.drop m)) with h1 | h1
    · exact h1
    · have h2 : BB ^ m * 1 ≤ BB ^ m * vl BB (L.drop m) := Nat.mul_le_mul_left _ h1
      omega
  rw [h0, Nat.mul_zero, Nat.add_zero] at e
  exact e
end Go.Proofs.Yticggkllfojgkaa
namespace Go.Proofs.Yticggkllfojgkaa
open Go Go.RowKit
set_option maxRecDepth 4000

set_option maxHeartbeats 2000000 in
theorem CmpN_any {a b : List Nat} {A B : Option Addr} {n c m d : Nat} {w : World} (ha : Rd vL w A n c a) (hb : Rd vL w B m d b) (da : Dg BB a) (db : Dg BB b) (hn : n ≤ 1000000000) (hm : m ≤ 1000000000) :
    Calls Try.prog 31 #[.slice A n c, .slice B m d] w fun e w' => e = .returned (.int .i64 (cmpI (vl BB a) (vl BB b))) ∧ Ext w w' := by
  have C1 := Kp.mk (counted_rd ha da (by omega))
  have C2 := Kp.mk (counted_rd hb db (by omega))
  obtain ⟨va, hva⟩ : ∃ v, vl BB a = v := ⟨_, rfl⟩
  obtain ⟨vb, hvb⟩ : ∃ v, vl BB b = v := ⟨_, rfl⟩
  rw [hva] at C1 ⊢
  rw [hvb] at C2 ⊢
  clear ha hb da db hva hvb
  go_enter Try.func31, Try.ntmps31
  go_wp2_with fail
  refine C1.out.mono ?_
  rintro e w1 ⟨rfl, l1, r1, rfl⟩
  have R1 : Kp (Rd vL w1 A (nl va) c (dgs BB va)) := Kp.mk r1
  clear r1
  go_wp2_with fail
  refine C2.out.mono ?_
  rintro e w2 ⟨rfl, l2, r2, rfl⟩
  have R2 : Kp (Rd vL w2 B (nl vb) d (dgs BB vb)) := Kp.mk r2
  clear r2 C1 C2
  have ca := Kp.mk (cn_dgs (B := BB) (by decide) va)
  have cb := Kp.mk (cn_dgs (B := BB) (by decide) vb)
  have va1 := Kp.mk (vl_dgs (B := BB) (by decide) va)
  have vb1 := Kp.mk (vl_dgs (B := BB) (by decide) vb)
  have hla : (dgs BB va).length = nl va := rfl
  have hlb : (dgs BB vb).length = nl vb := rfl
  generalize dgs BB va = a at *
  generalize dgs BB vb = b at *
  generalize nl va = N at *
  generalize nl vb = M at *
  rcases Nat.lt_trichotomy N M with hq | hq | hq
  · have q1 : ¬ (N : Int) = (M : Int) := by omega
    have hlt := cn_len_lt (by decide) ca.out cb.out (by omega)
    rw [va1.out, vb1.out] at hlt
    have HC := Kp.mk (Compare_any N M)
    have HE := Kp.mk (show cmpI N M = cmpI va vb by rw [cmpI_lt hlt, cmpI_lt hq])
    generalize cmpI N M = z at *
    clear hlt
    go_wp2_with fail
    refine (HC.out _).mono ?_
    rintro e w3 ⟨rfl, rfl⟩
    go_wp2_with fail
    go_ret
    exact ⟨by rw [HE.out]; rfl, Ext.refl _⟩
  · subst hq
    go_wp2_with fail
    go_loopw [23] (fun iv wr => ∃ i : Nat, i ≤ N ∧ iv = .int .i64 (i : Int) ∧ a.drop (N - i) = b.drop (N - i) ∧ Ext w2 wr) (fun iv _ => N - (intOf iv).toNat)
    case atStart => exact ⟨0, by omega, rfl, by rw [List.drop_eq_nil_of_le (by omega), List.drop_eq_nil_of_le (by omega)], Ext.refl _⟩
    case round =>
      obtain ⟨i, hi, rfl, hdr, hx⟩ := hrel
      by_cases hlt : i < N
      · obtain ⟨p, hp⟩ : ∃ p, N - i = p + 1 := ⟨N - i - 1, by omega⟩
        rw [hp] at hdr
        have HD := Kp.mk hdr
        have e1 : (N : Int) - 1 - (i : Int) = (p : Int) := by omega
        have b0 : (i : Int) < (N : Int) := by omega
        have b1 : (p : Int) < (N : Int) := by omega
        obtain ⟨g1, o1, rfl⟩ := R1.out.some_ (by omega)
        obtain ⟨g2, o2, rfl⟩ := R2.out.some_ (by omega)
        have k1 := (R1.out.ext hx).dig p (by omega)
        have k2 := (R2.out.ext hx).dig p (by omega)
        have m1 := fun (w' : World) (h : Ext wr.drew w') => (R1.out.ext (hx.trans ((Ext.refl wr).drew.trans h))).dig p (by omega)
        have m2 := fun (w' : World) (h : Ext wr.drew w') => (R2.out.ext (hx.trans ((Ext.refl wr).drew.trans h))).dig p (by omega)
        unfold vL at k1 k2 m1 m2
        clear hdr
        rcases Nat.lt_trichotomy (dg a p) (dg b p) with hq | hq | hq
        · have hl := vl_lt_at (by decide) ca.out.d p (by omega) (by omega) HD.out hq
          rw [va1.out, vb1.out] at hl
          have HC := Kp.mk (Compareu_any (dg a p) (dg b p))
          have HE := Kp.mk (show cmpI (dg a p) (dg b p) = cmpI va vb by rw [cmpI_lt hl, cmpI_lt hq])
          have q1 : ((dg a p : Int) != (dg b p : Int)) = true := bne_iff_ne.2 (by omega)
          clear hl hq
          generalize cmpI (dg a p) (dg b p) = z at *
          generalize dg a p = x at *
          generalize dg b p = y at *
          go_wp2_with fail
          go_region
          go_wp2_with fail
          refine wp_region_held_drew (S := fun w' => Ext wr.drew w') (by kernel_rfl) (Ext.refl wr.drew).drew (fun hHeld => ?_)
          refine wpAnyH_take (i := 0) (oi := ⟨some 40, _, _, _, _, _⟩) (v := ?_) rfl (by kernel_rfl) (by kernel_rfl) (by kernel_rfl) (fun _ _ _ h => h) (Or.inl ⟨by rfl, ?_⟩) (by assumption) ?_
          rotate_left
          · (intro w hSw; (try dsimp only at hSw); go_simp; try with_reducible rfl)
          try simp only [Act.put, List.setIfInBounds_toArray, List.set_cons_zero, List.set_cons_succ]
          refine wpAnyH_take (i := 1) (oi := ⟨some 41, _, _, _, _, _⟩) (v := ?_) rfl (by kernel_rfl) (by kernel_rfl) (by kernel_rfl) (fun _ _ _ h => h) (Or.inl ⟨by rfl, ?_⟩) (by assumption) ?_
          rotate_left
          · (intro w hSw; (try dsimp only at hSw); go_simp; try with_reducible rfl)
          try simp only [Act.put, List.setIfInBounds_toArray, List.set_cons_zero, List.set_cons_succ]
          refine wpAnyH_take (i := 2) (oi := ⟨some 42, _, _, _, _, _⟩) (v := ?_) rfl (by kernel_rfl) (by kernel_rfl) (by kernel_rfl) (fun _ _ _ h => h) (Or.inl ⟨by rfl, ?_⟩) (by assumption) ?_
          rotate_left
          · (intro w hSw; (try dsimp only at hSw); go_simp; try with_reducible rfl)
          try simp only [Act.put, List.setIfInBounds_toArray, List.set_cons_zero, List.set_cons_succ]
          refine wpAnyH_take (i := 3) (oi := ⟨some 43, _, _, _, _, _⟩) (v := ?_) rfl (by kernel_rfl) (by kernel_rfl) (by kernel_rfl) (fun _ _ _ h => h) (Or.inl ⟨by rfl, ?_⟩) (by assumption) ?_
          rotate_left
          · (intro w hSw; (try dsimp only at hSw); go_simp; try with_reducible rfl)
          try simp only [Act.put, List.setIfInBounds_toArray, List.set_cons_zero, List.set_cons_succ]
          refine wpAnyH_take (i := 4) (oi := ⟨some 44, _, _, _, _, _⟩) (v := ?_) rfl (by kernel_rfl) (by kernel_rfl) (by kernel_rfl) (fun _ _ _ h => h) (Or.inl ⟨by rfl, ?_⟩) (by assumption) ?_
          rotate_left
          · (intro w hSw; (try dsimp only at hSw); go_simp; try with_reducible rfl)
          try simp only [Act.put, List.setIfInBounds_toArray, List.set_cons_zero, List.set_cons_succ]
          refine wpAnyH_take (i := 5) (oi := ⟨some 45, _, _, _, _, _⟩) (v := ?_) rfl (by kernel_rfl) (by kernel_rfl) (by kernel_rfl) (fun _ _ _ h => h) (Or.inl ⟨by rfl, ?_⟩) (by assumption) ?_
          rotate_left
          · (intro w hSw; (try dsimp only at hSw); go_simp; try with_reducible rfl)
          try simp only [Act.put, List.setIfInBounds_toArray, List.set_cons_zero, List.set_cons_succ]
          refine wpAnyH_take (i := 6) (oi := ⟨some 46, _, _, _, _, _⟩) (v := ?_) rfl (by kernel_rfl) (by kernel_rfl) (by kernel_rfl) (fun _ _ _ h => h) (Or.inl ⟨by rfl, ?_⟩) (by assumption) ?_
          rotate_left
          · (intro w hSw; (try dsimp only at hSw); go_simp; try with_reducible rfl)
          try simp only [Act.put, List.setIfInBounds_toArray, List.set_cons_zero, List.set_cons_succ]
          refine wpAnyH_take (i := 7) (oi := ⟨some 47, _, _, _, _, _⟩) (v := ?_) rfl (by kernel_rfl) (by kernel_rfl) (by kernel_rfl) (fun _ _ _ h => h) (Or.inl ⟨by rfl, ?_⟩) (by assumption) ?_
          rotate_left
          · (intro w hSw; (try dsimp only at hSw); go_simp; try with_reducible rfl)
          try simp only [Act.put, List.setIfInBounds_toArray, List.set_cons_zero, List.set_cons_succ]
          refine next_one 8 (by kernel_rfl) rfl (by rfl) fun K' HK' => ?_
          go_simp
          refine (HC.out _).mono ?_
          rintro e w3 ⟨rfl, hw3⟩
          have hx3 : Ext wr.drew.drew w3 := by rw [hw3]; exact Ext.refl _
          clear hw3
          have hS2 := Ext.trans hHeld hx3
          refine held_go HK' hS2 (fun _ => ?_)
          clear HK'
          refine held_more (S' := fun w' => Ext w3 w') (fun _ h => Ext.trans hS2 h) _ _ _ _ ?_
          clear hHeld hS2
          have hHeld : Ext w3 w3 := Ext.refl _
          try simp only [Act.put, List.setIfInBounds_toArray, List.set_cons_zero, List.set_cons_succ]
          refine wpAnyH_take (i := 9) (oi := ⟨some 4, _, _, _, _, _⟩) (v := ?_) rfl (by kernel_rfl) (by kernel_rfl) (by kernel_rfl) (fun _ _ _ h => h) (Or.inl ⟨by rfl, ?_⟩) (by assumption) ?_
          rotate_left
          · (intro w hSw; (try dsimp only at hSw); go_simp; try with_reducible rfl)
          try simp only [Act.put, List.setIfInBounds_toArray, List.set_cons_zero, List.set_cons_succ]
          refine wpAnyH_done (by kernel_rfl) ?_ _
          go_wp2_with fail
          go_ret
          exact ⟨by rw [HE.out]; rfl, hx.trans ((Ext.refl wr).drew.drew.trans hx3)⟩
        · have HDR := Kp.mk (drop_dg a b p (by omega) (by omega) HD.out hq)
          have q1 : ((dg a p : Int) != (dg b p : Int)) = false := by rw [bne_eq_false_iff_eq]; omega
          clear hq
          generalize dg a p = x at *
          generalize dg b p = y at *
          go_wp2_with fail
          go_region
          go_wp2_with fail
          go_roundw
          case rel => exact ⟨i + 1, by omega, by go_num, by rw [show N - (i + 1) = p by omega]; exact HDR.out, hx.drew⟩
          case measure => simp [intOf]; omega
        · have hl := vl_lt_at (by decide) cb.out.d p (by omega) (by omega) HD.out.symm hq
          rw [va1.out, vb1.out] at hl
          have HC := Kp.mk (Compareu_any (dg a p) (dg b p))
          have HE := Kp.mk (show cmpI (dg a p) (dg b p) = cmpI va vb by rw [cmpI_gt hl, cmpI_gt hq])
          have q1 : ((dg a p : Int) != (dg b p : Int)) = true := bne_iff_ne.2 (by omega)
          clear hl hq
          generalize cmpI (dg a p) (dg b p) = z at *
          generalize dg a p = x at *
          generalize dg b p = y at *
          go_wp2_with fail
          go_region
          go_wp2_with fail
          refine wp_region_held_drew (S := fun w' => Ext wr.drew w') (by kernel_rfl) (Ext.refl wr.drew).drew (fun hHeld => ?_)
          refine wpAnyH_take (i := 0) (oi := ⟨some 40, _, _, _, _, _⟩) (v := ?_) rfl (by kernel_rfl) (by kernel_rfl) (by kernel_rfl) (fun _ _ _ h => h) (Or.inl ⟨by rfl, ?_⟩) (by assumption) ?_
          rotate_left
          · (intro w hSw; (try dsimp only at hSw); go_simp; try with_reducible rfl)
          try simp only [Act.put, List.setIfInBounds_toArray, List.set_cons_zero, List.set_cons_succ]
          refine wpAnyH_take (i := 1) (oi := ⟨some 41, _, _, _, _, _⟩) (v := ?_) rfl (by kernel_rfl) (by kernel_rfl) (by kernel_rfl) (fun _ _ _ h => h) (Or.inl ⟨by rfl, ?_⟩) (by assumption) ?_
          rotate_left
          · (intro w hSw; (try dsimp only at hSw); go_simp; try with_reducible rfl)
          try simp only [Act.put, List.setIfInBounds_toArray, List.set_cons_zero, List.set_cons_succ]
          refine wpAnyH_take (i := 2) (oi := ⟨some 42, _, _, _, _, _⟩) (v := ?_) rfl (by kernel_rfl) (by kernel_rfl) (by kernel_rfl) (fun _ _ _ h => h) (Or.inl ⟨by rfl, ?_⟩) (by assumption) ?_
          rotate_left
          · (intro w hSw; (try dsimp only at hSw); go_simp; try with_reducible rfl)
          try simp only [Act.put, List.setIfInBounds_toArray, List.set_cons_zero, List.set_cons_succ]
          refine wpAnyH_take (i := 3) (oi := ⟨some 43, _, _, _, _, _⟩) (v := ?_) rfl (by kernel_rfl) (by kernel_rfl) (by kernel_rfl) (fun _ _ _ h => h) (Or.inl ⟨by rfl, ?_⟩) (by assumption) ?_
          rotate_left
          · (intro w hSw; (try dsimp only at hSw); go_simp; try with_reducible rfl)
          try simp only [Act.put, List.setIfInBounds_toArray, List.set_cons_zero, List.set_cons_succ]
          refine wpAnyH_take (i := 4) (oi := ⟨some 44, _, _, _, _, _⟩) (v := ?_) rfl (by kernel_rfl) (by kernel_rfl) (by kernel_rfl) (fun _ _ _ h => h) (Or.inl ⟨by rfl, ?_⟩) (by assumption) ?_
          rotate_left
          · (intro w hSw; (try dsimp only at hSw); go_simp; try with_reducible rfl)
          try simp only [Act.put, List.setIfInBounds_toArray, List.set_cons_zero, List.set_cons_succ]
          refine wpAnyH_take (i := 5) (oi := ⟨some 45, _, _, _, _, _⟩) (v := ?_) rfl (by kernel_rfl) (by kernel_rfl) (by kernel_rfl) (fun _ _ _ h => h) (Or.inl ⟨by rfl, ?_⟩) (by assumption) ?_
          rotate_left
          · (intro w hSw; (try dsimp only at hSw); go_simp; try with_reducible rfl)
          try simp only [Act.put, List.setIfInBounds_toArray, List.set_cons_zero, List.set_cons_succ]
          refine wpAnyH_take (i := 6) (oi := ⟨some 46, _, _, _, _, _⟩) (v := ?_) rfl (by kernel_rfl) (by kernel_rfl) (by kernel_rfl) (fun _ _ _ h => h) (Or.inl ⟨by rfl, ?_⟩) (by assumption) ?_
          rotate_left
          · (intro w hSw; (try dsimp only at hSw); go_simp; try with_reducible rfl)
          try simp only [Act.put, List.setIfInBounds_toArray, List.set_cons_zero, List.set_cons_succ]
          refine wpAnyH_take (i := 7) (oi := ⟨some 47, _, _, _, _, _⟩) (v := ?_) rfl (by kernel_rfl) (by kernel_rfl) (by kernel_rfl) (fun _ _ _ h => h) (Or.inl ⟨by rfl, ?_⟩) (by assumption) ?_
          rotate_left
          · (intro w hSw; (try dsimp only at hSw); go_simp; try with_reducible rfl)
          try simp only [Act.put, List.setIfInBounds_toArray, List.set_cons_zero, List.set_cons_succ]
          refine next_one 8 (by kernel_rfl) rfl (by rfl) fun K' HK' => ?_
          go_simp
          refine (HC.out _).mono ?_
          rintro e w3 ⟨rfl, hw3⟩
          have hx3 : Ext wr.drew.drew w3 := by rw [hw3]; exact Ext.refl _
          clear hw3
          have hS2 := Ext.trans hHeld hx3
          refine held_go HK' hS2 (fun _ => ?_)
          clear HK'
          refine held_more (S' := fun w' => Ext w3 w') (fun _ h => Ext.trans hS2 h) _ _ _ _ ?_
          clear hHeld hS2
          have hHeld : Ext w3 w3 := Ext.refl _
          try simp only [Act.put, List.setIfInBounds_toArray, List.set_cons_zero, List.set_cons_succ]
          refine wpAnyH_take (i := 9) (oi := ⟨some 4, _, _, _, _, _⟩) (v := ?_) rfl (by kernel_rfl) (by kernel_rfl) (by kernel_rfl) (fun _ _ _ h => h) (Or.inl ⟨by rfl, ?_⟩) (by assumption) ?_
          rotate_left
          · (intro w hSw; (try dsimp only at hSw); go_simp; try with_reducible rfl)
          try simp only [Act.put, List.setIfInBounds_toArray, List.set_cons_zero, List.set_cons_succ]
          refine wpAnyH_done (by kernel_rfl) ?_ _
          go_wp2_with fail
          go_ret
          exact ⟨by rw [HE.out]; rfl, hx.trans ((Ext.refl wr).drew.drew.trans hx3)⟩
      · obtain rfl : i = N := by omega
        rw [Nat.sub_self, List.drop_zero, List.drop_zero] at hdr
        have hvv : va = vb := by rw [← va1.out, ← vb1.out, hdr]
        have HE := Kp.mk (show (0 : Int) = cmpI va vb by rw [hvv, cmpI_eq])
        clear hdr hvv
        go_wp2_with fail
        go_ret
        exact ⟨by rw [← HE.out]; rfl, hx⟩
  · have q1 : ¬ (N : Int) = (M : Int) := by omega
    have hlt := cn_len_lt (by decide) cb.out ca.out (by omega)
    rw [va1.out, vb1.out] at hlt
    have HC := Kp.mk (Compare_any N M)
    have HE := Kp.mk (show cmpI N M = cmpI va vb by rw [cmpI_gt hlt, cmpI_gt hq])
    generalize cmpI N M = z at *
    clear hlt
    go_wp2_with fail
    refine (HC.out _).mono ?_
    rintro e w3 ⟨rfl, rfl⟩
    go_wp2_with fail
    go_ret
    exact ⟨by rw [HE.out]; rfl, Ext.refl _⟩
end Go.Proofs.Yticggkllfojgkaa
namespace Go.Proofs.Yticggkllfojgkaa
open Go Go.RowKit
set_option maxRecDepth 4000

/-- a code as an error -/
abbrev err (n : Int) : Value := .iface 35 (.int .i64 n)
theorem code_eqIn {P : Program} (w : World) (d : Nat) {u t : TypeId} {ms : Array (String × TypeId)} {i : TypeInfo} {k : IntKind} (x y : Int) (hu : P.underlying u = some (.interface ms)) (ht : P.underlying t = some (.int k)) (hi : P.info? t = some i) (hc : i.comparable = true) :
    (Op.equalIn (d + 2) u (.iface t (.int k x)) (.iface t (.int k y))).run P w = .ok (x == y) w := by
  simp [Op.equalIn, run_underlying hu, run_underlying ht, typeInfo, hi, hc]
theorem code_eq0 {P : Program} (w : World) {u t : TypeId} {ms : Array (String × TypeId)} {i : TypeInfo} {k : IntKind} (x y : Int) (hu : P.underlying u = some (.interface ms)) (ht : P.underlying t = some (.int k)) (hi : P.info? t = some i) (hc : i.comparable = true) :
    (binOp .eql u (.iface t (.int k x)) (.iface t (.int k y))).run P w = .ok (.bool (x == y)) w := by
  simp only [binOp]
  simp [Op.equal, Op.maxDepth, code_eqIn w 9998 x y hu ht hi hc]
theorem code_eq (a b : Int) (w : World) : (binOp .eql 29 (.iface 35 (.int .i64 a)) (.iface 35 (.int .i64 b))).run Try.prog w = .ok (.bool (a == b)) w := by
  have hi : ((Try.prog.info? 35).map (·.comparable)) = some true := by kernel_rfl
  have hu : (match Try.prog.underlying 29 with | some (.interface _) => true | _ => false) = true := by kernel_rfl
  cases hq : Try.prog.info? 35 with
  | none => simp [hq] at hi
  | some i =>
    have hc : i.comparable = true := by simpa [hq] using hi
    cases hd : Try.prog.underlying 29 with
    | none => simp [hd] at hu
    | some d =>
      cases d with
      | interface ms => exact code_eq0 w a b hd Try.underlying35 hq hc
      | _ => simp [hd] at hu

end Go.Proofs.Yticggkllfojgkaa
namespace Go.Proofs.Yticggkllfojgkaa
open Go Go.RowKit
set_option maxRecDepth 4000

instance (v : Nat) : Decidable (lng v) := inferInstanceAs (Decidable (64 < nl v))
theorem lit_sl (w : World) (t : TypeId) (xs : List Sli) (cs : Array Value) (h : cs = (xs.map eS).toArray) (n : Nat) (hn : xs.length = n) (hm : n ≤ maxLen) : Rd eS (w.alloc (.cells cs t)) (some ⟨w.heap.size, 0, none⟩) n n xs := by
  subst h
  exact (Rw.has (B := 0) (T := t) (Has.new w t _ _ rfl) hn (Nat.zero_le _) hm).rd
theorem anyLong_at (w : World) (t : TypeId) (xs : List Sli) (cs : Array Value) (h : cs = (xs.map eS).toArray) (n : Nat) (hn : xs.length = n) (hm : n ≤ 3) (hx : ∀ s ∈ xs, SliOk w s) (b : Bool) (hb : b = true ↔ ∃ s ∈ xs, lng (vl BB s.l)) :
    Calls Try.prog 41 #[.slice (some ⟨w.heap.size, 0, none⟩) n n] (w.alloc (.cells cs t)) fun e w' => e = .returned (.bool b) ∧ w' = w.alloc (.cells cs t) := by
  refine (anyLong_any (lit_sl w t xs cs h n hn (by unfold maxLen; omega)) (by omega) (fun s hs => (hx s hs).ext (by (repeat (first | assumption | exact Ext.refl _ | apply Ext.drew | apply Ext.drewN | apply Ext.alloc | refine Ext.trans ?_ (by assumption))); first | done | fail))).mono ?_
  rintro e w' ⟨b', rfl, hb', rfl⟩
  refine ⟨?_, rfl⟩
  rw [Bool.eq_iff_iff.2 (hb'.trans hb.symm)]
/-- a number that is handed in -/
structure In1 (w : World) (A : Option Addr) (n c : Nat) (a : List Nat) : Prop where
  r : Rd vL w A n c a
  d : Dg BB a
  n : n ≤ 1000000
theorem In1.ok {w : World} {A : Option Addr} {n c : Nat} {a : List Nat} (h : In1 w A n c a) : SliOk w ⟨A, n, c, a⟩ := ⟨h.r, h.d, by have := h.n; show n ≤ 1000000000000; omega⟩
theorem In1.ext {w w' : World} {A : Option Addr} {n c : Nat} {a : List Nat} (h : In1 w A n c a) (hx : Ext w w') : In1 w' A n c a := ⟨h.r.ext hx, h.d, h.n⟩
theorem In1.counted {w : World} {A : Option Addr} {n c : Nat} {a : List Nat} (h : In1 w A n c a) :
    Calls Try.prog 38 #[.slice A n c] w fun e w' => e = .returned (.slice A (nl (vl BB a)) c) ∧ nl (vl BB a) ≤ n ∧ Rd vL w A (nl (vl BB a)) c (dgs BB (vl BB a)) ∧ w' = w := counted_rd h.r h.d (by have := h.n; omega)
/-- an error of a code alone; a number and no error -/
def Bad1 (w : World) (k : Int) (e : Ending) (w' : World) : Prop := e = .returned (.tuple #[.slice none 0 0, err k]) ∧ Ext w w'
def Ok1 (w : World) (v : Nat) (e : Ending) (w' : World) : Prop := ∃ A n c, e = .returned (.tuple #[.slice A n c, .nilIface]) ∧ Rw ut vL w' w.heap.size (.slice A n c) n (dgs BB v) ∧ Ext w w'
def Bad2 (w : World) (k : Int) (e : Ending) (w' : World) : Prop := e = .returned (.tuple #[.slice none 0 0, .slice none 0 0, err k]) ∧ Ext w w'
def Ok2 (w : World) (q r : Nat) (e : Ending) (w' : World) : Prop :=
  ∃ A n c A' n' c', e = .returned (.tuple #[.slice A n c, .slice A' n' c', .nilIface]) ∧ Rw ut vL w' w.heap.size (.slice A n c) n (dgs BB q) ∧ Rw ut vL w' w.heap.size (.slice A' n' c') n' (dgs BB r) ∧ Ext w w'
section
variable {w : World} {A B : Option Addr} {n c m d : Nat} {a b : List Nat}
theorem two_long (ha : In1 w A n c a) (hb : In1 w B m d b) (h : lng (vl BB a) ∨ lng (vl BB b)) :
    Calls Try.prog 41 #[.slice (some ⟨w.heap.size, 0, none⟩) 2 2] (w.alloc (.cells #[.slice A n c, .slice B m d] nt)) fun e w' => e = .returned (.bool true) ∧ w' = w.alloc (.cells #[.slice A n c, .slice B m d] nt) :=
  anyLong_at w nt [⟨A, n, c, a⟩, ⟨B, m, d, b⟩] _ rfl 2 rfl (by omega) (by simp [ha.ok, hb.ok]) true (by simpa using h)
theorem two_short (ha : In1 w A n c a) (hb : In1 w B m d b) (h1 : ¬ lng (vl BB a)) (h2 : ¬ lng (vl BB b)) :
    Calls Try.prog 41 #[.slice (some ⟨w.heap.size, 0, none⟩) 2 2] (w.alloc (.cells #[.slice A n c, .slice B m d] nt)) fun e w' => e = .returned (.bool false) ∧ w' = w.alloc (.cells #[.slice A n c, .slice B m d] nt) :=
  anyLong_at w nt [⟨A, n, c, a⟩, ⟨B, m, d, b⟩] _ rfl 2 rfl (by omega) (by simp [ha.ok, hb.ok]) false (by simp [h1, h2])
theorem Add_long (ha : In1 w A n c a) (hb : In1 w B m d b) (h : lng (vl BB a) ∨ lng (vl BB b)) : Calls Try.prog 36 #[.slice A n c, .slice B m d] w (Bad1 w 4) := by
  have C := Kp.mk (two_long ha hb h)
  clear ha hb h
  go_enter Try.func36, Try.ntmps36
  go_wp2_with fail
  refine C.out.mono ?_
  rintro e w1 ⟨rfl, rfl⟩
  go_wp2_with fail
  go_ret2
  exact ⟨rfl, (by (repeat (first | assumption | exact Ext.refl _ | apply Ext.drew | apply Ext.drewN | apply Ext.alloc | refine Ext.trans ?_ (by assumption))); first | done | fail)⟩
theorem Add_ok (ha : In1 w A n c a) (hb : In1 w B m d b) (h1 : ¬ lng (vl BB a)) (h2 : ¬ lng (vl BB b)) : Calls Try.prog 36 #[.slice A n c, .slice B m d] w (Ok1 w (vl BB a + vl BB b)) := by
  have C := Kp.mk (two_short ha hb h1 h2)
  have hx : Ext w (w.alloc (.cells #[.slice A n c, .slice B m d] nt)) := (by (repeat (first | assumption | exact Ext.refl _ | apply Ext.drew | apply Ext.drewN | apply Ext.alloc | refine Ext.trans ?_ (by assumption))); first | done | fail)
  have C1 := Kp.mk (ha.ext hx).counted
  have C2 := Kp.mk (hb.ext hx).counted
  have HX := Kp.mk hx
  have HL := Kp.mk (show nl (vl BB a) ≤ 64 ∧ nl (vl BB b) ≤ 64 from ⟨Nat.le_of_not_lt h1, Nat.le_of_not_lt h2⟩)
  generalize vl BB a = va at *
  generalize vl BB b = vb at *
  clear ha hb h1 h2 hx
  go_enter Try.func36, Try.ntmps36
  go_wp2_with fail
  refine C.out.mono ?_
  rintro e w1 ⟨rfl, hw1⟩
  rw [← hw1] at C1 C2 HX
  clear hw1
  go_wp2_with fail
  refine C1.out.mono ?_
  rintro e w2 ⟨rfl, _, r1, rfl⟩
  have R1 := Kp.mk r1
  clear r1
  go_wp2_with fail
  refine C2.out.mono ?_
  rintro e w3 ⟨rfl, _, r2, rfl⟩
  have C3 := Kp.mk (sum_any R1.out r2 (cn_dgs (by decide) va).d (cn_dgs (by decide) vb).d (by have := HL.out; omega) (by have := HL.out; omega))
  rw [vl_dgs (B := BB) (by decide), vl_dgs (B := BB) (by decide)] at C3
  clear r2 R1 C1 C2
  go_wp2_with fail
  refine C3.out.mono ?_
  rintro e w4 ⟨A4, n4, c4, rfl, ho, hx4⟩
  have HF := Kp.mk (show Ok1 w (va + vb) (.returned (.tuple #[.slice A4 n4 c4, .nilIface])) w4 from ⟨A4, n4, c4, rfl, ho.lower HX.out.size, HX.out.trans hx4⟩)
  clear ho hx4
  go_wp2_with fail
  go_ret2
  exact HF.out
end
end Go.Proofs.Yticggkllfojgkaa
