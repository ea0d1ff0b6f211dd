/-
  name: small, Plain.
-/
import Derived.Test.YthookcnkmlmgcaaVIh
import Derived.Test.YthookcnkmlmgcaaVGo
namespace Go.Proofs.Ythookcnkmlmgcaa
open Go Go.RowKit
set_option maxRecDepth 4000

theorem low_up (x : BitVec 8) (h1 : 65 ≤ x.toNat) (h2 : x.toNat ≤ 90) : ub (lowB x) = ub x + 32 := by
  unfold lowB ub
  rw [if_pos ⟨h1, h2⟩, BitVec.toNat_add]
  simp
  omega
theorem low_same (x : BitVec 8) (h : ¬(65 ≤ x.toNat ∧ x.toNat ≤ 90)) : lowB x = x := by unfold lowB; rw [if_neg h]
theorem small_any (x : BitVec 8) (w : World) : Calls Try.prog 14 #[.int .u8 (ub x)] w fun e w' => e = .returned (.int .u8 (ub (lowB x))) ∧ w' = w := by
  have lo := ub_lo x
  have hi := ub_hi x
  by_cases h1 : 65 ≤ x.toNat
  · have b1 : (65 : Int) ≤ ub x := by unfold ub; omega
    by_cases h2 : x.toNat ≤ 90
    · have b2 : ub x ≤ 90 := by unfold ub; omega
      have e1 : IntKind.u8.wrap (ub x - 65) = ub x - 65 := by rw [IntKind.wrap_u8]; omega
      have e2 : IntKind.u8.wrap (ub x - 65 + 97) = ub x + 32 := by rw [IntKind.wrap_u8]; omega
      rw [low_up x h1 h2]
      clear h1 h2
      generalize ub x = z at *
      go_enter Try.func14, Try.ntmps14
      go_wp2_with fail
      go_ret
      exact ⟨rfl, rfl⟩
    · have b2 : ¬ (ub x ≤ 90) := by unfold ub; omega
      rw [low_same x (fun h => h2 h.2)]
      clear h1 h2
      generalize ub x = z at *
      go_enter Try.func14, Try.ntmps14
      go_wp2_with fail
      go_ret
      exact ⟨rfl, rfl⟩
  · have b1 : ¬ ((65 : Int) ≤ ub x) := by unfold ub; omega
    rw [low_same x (fun h => h1 h.1)]
    clear h1
    generalize ub x = z at *
    go_enter Try.func14, Try.ntmps14
    go_wp2_with fail
    go_ret
    exact ⟨rfl, rfl⟩
/-- a cell in a later world -/
theorem cell_up {w w' : World} {p : Addr} {v : Value} (h : w.cell? p = some v) (hx : Ext w w') : w'.cell? p = some v := (hx.b.cell (World.block_lt_of_cell? _ _ h)).trans h
theorem eq32 (x : BitVec 8) : x = 32 ↔ ub x = 32 := by
  constructor
  · rintro rfl; rfl
  · intro h
    apply BitVec.eq_of_toNat_eq
    unfold ub at h
    simp
    omega
set_option maxHeartbeats 4000000 in
theorem Plain_any {t : List (BitVec 8)} {A : Option Addr} {n c : Nat} {w : World} (h : Bs w A n c t) (hn : n ≤ 1000000) :
    Calls Try.prog 7 #[.slice A n c] w (Fresh w (plainL t).length (plainL t)) := by
  have hl := h.len
  obtain ⟨f, hf⟩ : ∃ f : Nat → List (BitVec 8), f = fun j => (t.take j).foldl plN [] := ⟨_, rfl⟩
  have f0 : f 0 = [] := by rw [hf]; rfl
  have fs : ∀ j, j < n → f (j + 1) = plN (f j) (gb t j) := fun j hj => by rw [hf]; exact fold_more plN [] t j (by omega)
  have fn : cutB (f n) = plainL t := by rw [hf]; show cutB ((t.take n).foldl plN []) = _; rw [List.take_of_length_le (by omega), plN_all]
  have fl : ∀ j, (f j).length ≤ j := fun j => by
    rw [hf]
    have := plN_fold_len (t.take j) []
    simp at this ⊢
    omega
  clear hf
  rw [← fn]
  have F0 := Kp.mk f0
  have FS := Kp.mk fs
  have FL := Kp.mk fl
  have HB := Kp.mk h
  have HL := Kp.mk hl
  clear f0 fs fn fl h hl
  go_enter Try.func7, Try.ntmps7
  go_wp2_with fail
  go_loopw [3, 8] (fun v iv wr => ∃ (j P : Nat) (A' : Option Addr) (c' : Nat) (o : List (BitVec 8)), j ≤ n ∧ o = f j ∧ v = .slice A' P c' ∧ iv = .int .i64 (j : Int) ∧ Own wr w.heap.size (.slice A' P c') P o ∧ Ext w wr) (fun _ iv _ => n - (intOf iv).toNat)
  case atStart => exact ⟨0, 0, none, 0, [], Nat.zero_le _, F0.out.symm, rfl, rfl, Own.nil _ _, Ext.refl _⟩
  case round =>
    obtain ⟨j, P, A', c', o, hj, hof, rfl, rfl, ho, hx⟩ := hrel
    have hP := ho.len
    have hPj : P ≤ j := by have := FL.out j; rw [← hof] at this; omega
    have HO := Kp.mk ho
    have HX := Kp.mk hx
    by_cases hlt : j < n
    · obtain ⟨g, q, rfl, hc⟩ := (HB.out.ext hx).s.2.2.2 (by omega)
      have c1 := hc j hlt
      have hstep := FS.out j hlt
      rw [← hof] at hstep
      have b1 : (j : Int) < (n : Int) := by omega
      clear hc
      generalize gb t j = x at *
      have hS := Kp.mk (small_any x)
      by_cases ht : x ≠ 32 ∨ (0 < P ∧ gb o (P - 1) ≠ 32)
      · have hnew : f (j + 1) = o ++ [lowB x] := by rw [hstep]; unfold plN; rw [hP, if_pos ht]
        have HN := Kp.mk hnew
        generalize lowB x = y at *
        clear hnew hstep hof ho hx
        by_cases hx32 : x = 32
        · have ht2 := ht.resolve_left (fun h => h hx32)
          obtain ⟨hp, hq⟩ := ht2
          obtain ⟨g', rfl, hB', _⟩ := HO.out.some_ hp
          obtain ⟨k, hk⟩ : ∃ k, k = P - 1 := ⟨_, rfl⟩
          have c2 := HO.out.cell k (by omega)
          rw [← hk] at hq
          generalize gb o k = z at *
          have e1 : (ub x == 32) = true := by rw [beq_iff_eq]; exact (eq32 x).1 hx32
          have e2 : (ub x != 32) = false := by rw [bne, e1]; rfl
          have e3 : (ub z == 32) = false := beq_eq_false_iff_ne.2 fun h => hq ((eq32 z).2 h)
          have e4 : (ub z != 32) = true := by rw [bne, e3]; rfl
          have e5 : (P : Int) - 1 = (k : Int) := by omega
          have e6 : IntKind.i64.wrap (k : Int) = (k : Int) := by rw [IntKind.wrap_i64]; omega
          have e7 : k < P := by omega
          have e8 : (k : Int) < (P : Int) := by omega
          have e9 : (0 : Int) < (P : Int) := by omega
          clear ht hx32 hq hk
          generalize ub x = zx at *
          generalize ub z = zz at *
          go_wp2_with (first | (go_at_call 14; refine (hS.out _).mono ?_; rintro e w2 ⟨rfl, hw⟩; obtain rfl : wr = w2 := hw.symm) | (at_builtin; refine wpList_append_bs rfl (.tmp 28) (.tmp 31) rfl w.heap.size _ P o rfl (HO.out.ext (by (repeat (first | assumption | exact Ext.refl _ | apply Ext.drew | apply Ext.drewN | apply Ext.alloc | refine Ext.trans ?_ (by assumption))); first | done | fail)) _ 1 1 [y] rfl (const_bs wr _ [y] 1 1 (0, 0) rfl rfl (by decide)) (by omega) (P + 1) rfl (o ++ [y]) rfl w (HX.out.trans (by (repeat (first | assumption | exact Ext.refl _ | apply Ext.drew | apply Ext.drewN | apply Ext.alloc | refine Ext.trans ?_ (by assumption))); first | done | fail)) (Nat.le_refl _) (Nat.le_trans HX.out.size (by simp)) ?_; intro A4 c4 w4 ho4 hx4 hap4) | fail)
          go_roundw
          case rel => exact ⟨j + 1, P + 1, A4, c4, _, by omega, HN.out.symm, by first | rfl | trivial, by go_num, ho4, hx4⟩
          case measure => simp [intOf]; omega
        · have e1 : (ub x == 32) = false := beq_eq_false_iff_ne.2 fun h => hx32 ((eq32 x).2 h)
          have e2 : (ub x != 32) = true := by rw [bne, e1]; rfl
          clear ht hx32
          generalize ub x = zx at *
          go_wp2_with (first | (go_at_call 14; refine (hS.out _).mono ?_; rintro e w2 ⟨rfl, hw⟩; obtain rfl : wr = w2 := hw.symm) | (at_builtin; refine wpList_append_bs rfl (.tmp 28) (.tmp 31) rfl w.heap.size _ P o rfl (HO.out.ext (by (repeat (first | assumption | exact Ext.refl _ | apply Ext.drew | apply Ext.drewN | apply Ext.alloc | refine Ext.trans ?_ (by assumption))); first | done | fail)) _ 1 1 [y] rfl (const_bs wr _ [y] 1 1 (0, 0) rfl rfl (by decide)) (by omega) (P + 1) rfl (o ++ [y]) rfl w (HX.out.trans (by (repeat (first | assumption | exact Ext.refl _ | apply Ext.drew | apply Ext.drewN | apply Ext.alloc | refine Ext.trans ?_ (by assumption))); first | done | fail)) (Nat.le_refl _) (Nat.le_trans HX.out.size (by simp)) ?_; intro A4 c4 w4 ho4 hx4 hap4) | fail)
          go_roundw
          case rel => exact ⟨j + 1, P + 1, A4, c4, _, by omega, HN.out.symm, by first | rfl | trivial, by go_num, ho4, hx4⟩
          case measure => simp [intOf]; omega
      · have hnew : f (j + 1) = o := by rw [hstep]; unfold plN; rw [hP, if_neg ht]
        have HN := Kp.mk hnew
        have hx32 : x = 32 := Classical.byContradiction fun h => ht (.inl h)
        have e1 : (ub x == 32) = true := by rw [beq_iff_eq]; exact (eq32 x).1 hx32
        have e2 : (ub x != 32) = false := by rw [bne, e1]; rfl
        clear hnew hstep hof ho hx
        by_cases hp : 0 < P
        · have hq : gb o (P - 1) = 32 := Classical.byContradiction fun h => ht (.inr ⟨hp, h⟩)
          obtain ⟨g', rfl, hB', _⟩ := HO.out.some_ hp
          obtain ⟨k, hk⟩ : ∃ k, k = P - 1 := ⟨_, rfl⟩
          have c2 := HO.out.cell k (by omega)
          rw [← hk] at hq
          rw [hq] at c2
          have e5 : (P : Int) - 1 = (k : Int) := by omega
          have e6 : IntKind.i64.wrap (k : Int) = (k : Int) := by rw [IntKind.wrap_i64]; omega
          have e7 : k < P := by omega
          have e8 : (k : Int) < (P : Int) := by omega
          have e9 : (0 : Int) < (P : Int) := by omega
          have c3 : wr.cell? ⟨g', k, none⟩ = some (.int .u8 32) := c2
          clear ht hx32 hq hk c2
          generalize ub x = zx at *
          go_wp2_with fail
          go_roundw
          case rel => exact ⟨j + 1, P, _, c', o, by omega, HN.out.symm, by first | rfl | trivial, by go_num, HO.out, HX.out⟩
          case measure => simp [intOf]; omega
        · obtain rfl : P = 0 := by omega
          clear ht hx32 hp
          generalize ub x = zx at *
          go_wp2_with fail
          go_roundw
          case rel => exact ⟨j + 1, 0, _, c', o, by omega, HN.out.symm, by first | rfl | trivial, by go_num, HO.out, HX.out⟩
          case measure => simp [intOf]; omega
    · obtain rfl : j = n := by omega
      have HF := Kp.mk hof
      clear hof ho hx
      by_cases hp : 0 < P
      · obtain ⟨g', rfl, hB', _⟩ := HO.out.some_ hp
        obtain ⟨k, hk⟩ : ∃ k, k = P - 1 := ⟨_, rfl⟩
        have c2 := HO.out.cell k (by omega)
        have e5 : (P : Int) - 1 = (k : Int) := by omega
        have e6 : IntKind.i64.wrap (k : Int) = (k : Int) := by rw [IntKind.wrap_i64]; omega
        have e7 : k < P := by omega
        have e8 : (k : Int) < (P : Int) := by omega
        have e9 : (0 : Int) < (P : Int) := by omega
        by_cases hq : gb o k = 32
        · have HE : Kp (cutB (f j) = o.take k) := ⟨by rw [← HF.out]; unfold cutB; rw [hP, ← hk, if_pos ⟨hp, hq⟩]⟩
          rw [hq] at c2
          have c3 : wr.cell? ⟨g', k, none⟩ = some (.int .u8 32) := c2
          have hcap := HO.out.bs.cap
          have hup := fun W => run_upto (P := Try.prog) (some ⟨g', 0, none⟩) P c' 22 5 Try.underlying22 szB k (k : Int) rfl (by omega) W
          have HT := Kp.mk (Own.mk (Rw.take (T := 5) (e := vb) ⟨HO.out.o⟩ (k := k) (by omega)).o)
          have HL2 : Kp ((o.take k).length = k) := ⟨by rw [List.length_take]; omega⟩
          clear hq hk c2
          go_wp2_with fail
          go_ret
          rw [HE.out, HL2.out]
          exact ⟨_, _, rfl, HT.out.bs, HT.out, HX.out⟩
        · have HE : Kp (cutB (f j) = o) := ⟨by rw [← HF.out]; unfold cutB; rw [hP, ← hk, if_neg (fun h => hq h.2)]⟩
          have e3 : (ub (gb o k) == 32) = false := beq_eq_false_iff_ne.2 fun h => hq ((eq32 _).2 h)
          have e4 : (ub (gb o k) != 32) = true := by rw [bne, e3]; rfl
          have HL2 := Kp.mk hP
          clear hq hk hP
          generalize ub (gb o k) = zz at *
          go_wp2_with fail
          go_ret
          rw [HE.out, HL2.out]
          exact ⟨_, _, rfl, HO.out.bs, HO.out, HX.out⟩
      · obtain rfl : P = 0 := by omega
        have HE : Kp (cutB (f j) = o) := ⟨by rw [← HF.out]; unfold cutB; rw [if_neg (fun h => by rw [hP] at h; exact hp h.1)]⟩
        have HL2 := Kp.mk hP
        clear hp hP
        go_wp2_with fail
        go_ret
        rw [HE.out, HL2.out]
        exact ⟨_, _, rfl, HO.out.bs, HO.out, HX.out⟩
end Go.Proofs.Ythookcnkmlmgcaa
