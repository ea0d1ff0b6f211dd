/-
  The reference's Number, Value; PrimInts.
  The walk of the law PrimBigs.
  What the rows' readings give the walks: moments, bits, identifiers.
  Moments compared; later moments have greater bodies.
-/
import Derived.Test.YtfipgmjaabggjaaDoorM23
import Derived.Test.YtfipgmjaabggjaaDoorM19
import Derived.Test.YtfipgmjaabggjaaDoorM20
import Derived.Test.YtfipgmjaabggjaaDoorM22
import Derived.Test.YtfipgmjaabggjaaDoorM10
import Derived.Deep.Slices
import Derived.Deep.Strs
import Derived.Lib.SmallJoins
import Derived.Laws.StructEq
namespace Go.Proofs.YtfipgmjaabggjaaDoor
open Go Go.RowKit
set_option maxRecDepth 4000

theorem dec_lt (y : BitVec 8) : decide (ub y < 128) = !decide (128 ≤ y.toNat) := by
  unfold ub
  by_cases h : 128 ≤ y.toNat
  · rw [decide_eq_true h, decide_eq_false (by omega)]; rfl
  · rw [decide_eq_false h, decide_eq_true (by omega)]; rfl
theorem dec_ge (y : BitVec 8) : decide (128 ≤ ub y) = decide (128 ≤ y.toNat) := by
  unfold ub
  by_cases h : 128 ≤ y.toNat
  · rw [decide_eq_true h, decide_eq_true (by omega)]
  · rw [decide_eq_false h, decide_eq_false (by omega)]
set_option maxHeartbeats 2000000 in
theorem refNumber_any {b : List (BitVec 8)} {A : Option Addr} {n c : Nat} {w : World} (h : Bs w A n c b) : Calls Tryd.prog 12 #[.slice A n c] w fun e w' => e = .returned (.bool (tcB b)) ∧ Ext w w' := by
  have hl := h.len
  by_cases h0 : n = 0
  · subst h0
    rw [List.eq_nil_of_length_eq_zero hl]
    rw [show tcB [] = false from rfl]
    clear h hl
    go_enter Tryd.func12, Tryd.ntmps12
    go_wp2
    go_ret
    exact ⟨rfl, (by (repeat (first | assumption | exact Ext.refl _ | apply Ext.drew | apply Ext.drewN | apply Ext.alloc | refine Ext.trans ?_ (by assumption))); first | done | fail)⟩
  have z0 : ((n : Int) == 0) = false := beq_eq_false_iff_ne.2 (by omega)
  by_cases h1 : n = 1
  · subst h1
    have e : tcB b = true := by
      match b, hl with
      | [x], _ => rfl
    rw [e]
    clear h hl e h0 z0
    go_enter Tryd.func12, Tryd.ntmps12
    go_wp2
    go_ret
    exact ⟨rfl, (by (repeat (first | assumption | exact Ext.refl _ | apply Ext.drew | apply Ext.drewN | apply Ext.alloc | refine Ext.trans ?_ (by assumption))); first | done | fail)⟩
  have z1 : ((n : Int) == 1) = false := beq_eq_false_iff_ne.2 (by omega)
  obtain ⟨g, o, rfl, hc⟩ := h.s.2.2.2 (by omega)
  have c0 := hc 0 (by omega)
  have c1 := hc 1 (by omega)
  rw [Nat.add_zero] at c0
  have b2 : (0 : Int) < (n : Int) := by omega
  have b3 : (1 : Int) < (n : Int) := by omega
  have b4 : 0 < n := by omega
  have b5 : 1 < n := by omega
  have hk := tcB_cases b (by omega)
  have d1 := dec_lt (gb b 1)
  have d2 := dec_ge (gb b 1)
  clear hc h hl
  generalize tcB b = R at *
  generalize gb b 1 = y at *
  generalize gb b 0 = x at *
  generalize hQ : decide (128 ≤ y.toNat) = Q at *
  clear hQ
  rcases hk with ⟨rfl, rfl⟩ | ⟨rfl, rfl⟩ | ⟨k0, k1, rfl⟩
  · have c0' : w.cell? ⟨g, o, none⟩ = some (.int .u8 0) := c0
    clear c0
    cases R <;>
    · go_enter Tryd.func12, Tryd.ntmps12
      go_wp2
      try (go_quiet (fail); go_wp2)
      go_ret
      exact ⟨rfl, (by (repeat (first | assumption | exact Ext.refl _ | apply Ext.drew | apply Ext.drewN | apply Ext.alloc | refine Ext.trans ?_ (by assumption))); first | done | fail)⟩
  · have c0' : w.cell? ⟨g, o, none⟩ = some (.int .u8 255) := c0
    clear c0
    cases Q <;>
    · go_enter Tryd.func12, Tryd.ntmps12
      go_wp2
      try (go_quiet (fail); go_wp2)
      go_ret
      exact ⟨rfl, (by (repeat (first | assumption | exact Ext.refl _ | apply Ext.drew | apply Ext.drewN | apply Ext.alloc | refine Ext.trans ?_ (by assumption))); first | done | fail)⟩
  · have e1 := (ub_neq k0 0 rfl).1
    have e2 := (ub_neq k1 255 rfl).1
    clear k0 k1
    go_enter Tryd.func12, Tryd.ntmps12
    go_wp2
    try (go_quiet (fail); go_wp2)
    go_ret
    exact ⟨rfl, (by (repeat (first | assumption | exact Ext.refl _ | apply Ext.drew | apply Ext.drewN | apply Ext.alloc | refine Ext.trans ?_ (by assumption))); first | done | fail)⟩
end Go.Proofs.YtfipgmjaabggjaaDoor
namespace Go.Proofs.YtfipgmjaabggjaaDoor
open Go Go.RowKit
set_option maxRecDepth 4000

theorem pow_roomk {v m : Nat} (k : Nat) (h : v < 256 ^ m) (hm : m ≤ 4 * k) : v < BB ^ k := by
  rw [show BB = 256 ^ 4 by decide, ← Nat.pow_mul]
  exact Nat.lt_of_lt_of_le h (Nat.pow_le_pow_right (by decide) hm)
theorem cell_lz {w : World} {p : Addr} {v : Value} (h : w.cell? p = some v) : ∀ w', Ext w w' → w'.cell? p = some v := fun _ hx => (hx.b.cell (World.block_lt_of_cell? _ _ h)).trans h
set_option maxHeartbeats 8000000 in
theorem PrimBigs_any {l : List Nat} {A : Option Addr} {n c : Nat} {w : World} (h : Rd vL w A n c l) (hd : Dg BB l) {b : List (BitVec 8)} {B : Option Addr} {m d : Nat} (hb : Bs w B m d b) :
    Calls Tryd.prog 3 #[.slice A n c, .slice B m d] w fun e w' => e = .returned (.bool true) ∧ Below w.heap.size w w' := by
  have e22 := code_eq 2 2
  have e44 := code_eq 4 4
  have n44 := code_neq 4 4
  have HA := Kp.mk h
  have HD := Kp.mk hd
  have HB := Kp.mk hb
  clear h hd hb
  by_cases h100 : 100 < n
  · as_aux_lemma =>
    have b1 : decide ((100 : Int) < (n : Int)) = true := decide_eq_true (by omega)
    clear h100
    go_enter Tryd.func3, Tryd.ntmps3
    go_wp2_with fail
    refine (up8 _).mono ?_
    rintro e w1 ⟨rfl, x1⟩
    have X1 := Kp.mk x1
    clear x1
    go_wp2_with fail
    go_ret
    exact ⟨rfl, X1.out.b⟩
  have b1 : decide ((100 : Int) < (n : Int)) = false := decide_eq_false (by omega)
  by_cases h600 : 600 < m
  · as_aux_lemma =>
    have b2 : decide ((600 : Int) < (m : Int)) = true := decide_eq_true (by omega)
    clear h100 h600
    go_enter Tryd.func3, Tryd.ntmps3
    go_wp2_with fail
    refine (up8 _).mono ?_
    rintro e w1 ⟨rfl, x1⟩
    have X1 := Kp.mk x1
    clear x1
    go_wp2_with fail
    go_ret
    exact ⟨rfl, X1.out.b⟩
  have b2 : decide ((600 : Int) < (m : Int)) = false := decide_eq_false (by omega)
  have hm : m ≤ 600 := by omega
  have HN := Kp.mk (Nv.small HA.out HD.out (by omega))
  obtain ⟨v, hv⟩ : ∃ v, vl BB l = v := ⟨_, rfl⟩
  rw [hv] at HN
  have HR := Kp.mk (Rd.of_sl HB.out.s)
  have HDB := Kp.mk (Dg.of_bytes b)
  have hvb := vl_lt (B := 256) (by decide) HDB.out.rev
  rw [List.length_reverse, HR.out.len] at hvb
  obtain ⟨V, hV⟩ : ∃ V, vl 256 (b.map BitVec.toNat).reverse = V := ⟨_, rfl⟩
  rw [hV] at hvb
  have HVB := Kp.mk (pow_roomk 150 hvb (by omega))
  have HV := Kp.mk hV
  have hbz : bigB b = (tcB b && !decide (128 ≤ (gb b 0).toNat)) := rfl
  have hb0 : tcB b = true → 0 < m := fun ht => by
    rcases Nat.eq_zero_or_pos m with e | e
    · have : b = [] := List.eq_nil_of_length_eq_zero (by rw [HB.out.len, e])
      rw [this, tcB_nil] at ht
      cases ht
    · exact e
  have HBZ := Kp.mk hbz
  have HB0 := Kp.mk hb0
  clear h100 h600 hv hvb hV hbz hb0 HA HD
  by_cases hl : lng v
  · as_aux_lemma =>
    go_enter Tryd.func3, Tryd.ntmps3
    go_wp2_with fail
    refine (up8 _).mono ?_
    rintro e w1 ⟨rfl, x1⟩
    have X1 := Kp.mk x1
    have HL := Kp.mk hl
    clear x1 hl
    go_wp2_with fail
    refine (Big_any (HN.out.ext X1.out)).mono ?_
    rintro e w2 (⟨_, rfl, x2⟩ | ⟨hno, _⟩)
    rotate_left
    · exact absurd HL.out hno
    have X2 := Kp.mk (X1.out.trans x2)
    clear x2
    go_wp2_with fail
    refine (MayV (HN.out.ext X2.out) false ⟨(fun h => by cases h), fun h => absurd HL.out h⟩).mono ?_
    rintro e w3 ⟨rfl, x3⟩
    have X3' := Kp.mk (X2.out.trans x3)
    clear x3
    go_wp2_with fail
    go_quiet (fail)
    have X3 := Kp.mk (X3'.out.trans (show Ext w3 (w3.drewN nq) from (by (repeat (first | assumption | exact Ext.refl _ | apply Ext.drew | apply Ext.drewN | apply Ext.alloc | refine Ext.trans ?_ (by assumption))); first | done | fail)))
    generalize w3.drewN nq = w3 at *
    go_wp2_with fail
    refine (ReadBig_any (HB.out.ext X3.out) (by omega)).mono ?_
    rintro e w8 (⟨hz, rfl, x8⟩ | ⟨hz, hR⟩)
    · rw [HBZ.out] at hz
      have X8 := Kp.mk (X3.out.trans x8)
      clear x8
      have hN := refNumber_any (HB.out.ext X8.out)
      cases ht : tcB b with
      | false =>
        rw [ht] at hN
        have HNN := Kp.mk hN
        clear hN ht hz
        go_wp2_with fail
        refine HNN.out.mono ?_
        rintro e w9 ⟨rfl, x9⟩
        have X9 := Kp.mk (X8.out.trans x9)
        clear x9
        go_wp2_with fail
        go_ret
        exact ⟨rfl, X9.out.b⟩
      | true =>
        rw [ht] at hN hz
        have h128 : 128 ≤ (gb b 0).toNat := by simpa using hz
        obtain ⟨g, o, rfl, hc⟩ := HB.out.s.2.2.2 (HB0.out ht)
        have c0 := hc 0 (HB0.out ht)
        rw [Nat.add_zero] at c0
        unfold ub at c0
        have c0l := fun (W : World) (hx : Ext w W) => cell_lz c0 W hx
        have HC0 := Kp.mk c0l
        have g1 : (128 : Int) ≤ ((gb b 0).toNat : Int) := by omega
        have g2 : (0 : Int) < (m : Int) := by have := HB0.out ht; omega
        have HNN := Kp.mk hN
        clear hN ht hz h128 hc c0 c0l
        generalize (gb b 0).toNat = z at *
        go_wp2_with fail
        refine HNN.out.mono ?_
        rintro e w9 ⟨rfl, x9⟩
        have X9 := Kp.mk (X8.out.trans x9)
        have c9 := HC0.out w9 X9.out
        clear x9
        go_wp2_with fail
        go_ret
        exact ⟨rfl, X9.out.b⟩
    · rw [HBZ.out, Bool.and_eq_true] at hz
      obtain ⟨ht, hz⟩ := hz
      have h128 : ¬ 128 ≤ (gb b 0).toNat := by simpa using hz
      obtain ⟨g, o, rfl, hc⟩ := HB.out.s.2.2.2 (HB0.out ht)
      have c0 := hc 0 (HB0.out ht)
      rw [Nat.add_zero] at c0
      unfold ub at c0
      have c0l := fun (W : World) (hx : Ext w W) => cell_lz c0 W hx
      have HC0 := Kp.mk c0l
      have g1 : ¬ ((128 : Int) ≤ ((gb b 0).toNat : Int)) := by omega
      have g2 : (0 : Int) < (m : Int) := by have := HB0.out ht; omega
      have hN := fun (W : World) (hx : Ext w W) => refNumber_any (HB.out.ext hx)
      rw [ht] at hN
      have HNN := Kp.mk hN
      clear hN ht hz h128 hc c0 c0l
      generalize (gb b 0).toNat = z at *
      rw [ReadR_eq, HV.out] at hR
      rcases hR with ⟨q, rfl, x8⟩ | ⟨q, A9, n9, c9', rfl, r9, x8⟩
      · have X8 := Kp.mk (X3.out.trans x8)
        have bs : decide ((256 : Int) < (sz (dgs 65536 V) : Int)) = true := decide_eq_true (by
          rcases Nat.lt_or_ge 256 (sz (dgs 65536 V)) with h1 | h1
          · omega
          · exact absurd ((sz_iff V).1 h1) (Nat.not_lt_of_le q))
        clear x8 q
        go_wp2_with fail
        refine (HNN.out _ X8.out).mono ?_
        rintro e w9 ⟨rfl, x9⟩
        have X9 := Kp.mk (X8.out.trans x9)
        have c9 := HC0.out w9 X9.out
        clear x9
        go_wp2_with fail
        have CB := Bytes_any (HR.out.ext X9.out) HDB.out (by omega)
        rw [HV.out] at CB
        refine CB.mono ?_
        clear CB
        rintro e w10 ⟨A3, n3, c3, rfl, r3, _, x3⟩
        have I3 := Kp.mk (Ni.of r3 HVB.out (by decide))
        have X10 := Kp.mk (X9.out.trans x3)
        clear r3 x3 c9
        go_wp2_with fail
        refine (Size_any I3.out.r (by have := I3.out.n; omega)).mono ?_
        rintro e w11 ⟨rfl, rfl⟩
        generalize sz (dgs 65536 V) = S at *
        go_wp2_with fail
        go_ret
        exact ⟨rfl, X10.out.b⟩
      · have X8 := Kp.mk (X3.out.trans x8)
        have R8 := Kp.mk r9.rd
        have bs : decide ((256 : Int) < (sz (dgs 65536 V) : Int)) = false := decide_eq_false (by have := (sz_iff V).2 q; omega)
        clear x8 q r9
        go_wp2_with fail
        refine (HNN.out _ X8.out).mono ?_
        rintro e w9 ⟨rfl, x9⟩
        have X9 := Kp.mk (X8.out.trans x9)
        have R9 := Kp.mk (R8.out.ext x9)
        have c9 := HC0.out w9 X9.out
        clear x9
        go_wp2_with fail
        have CB := Bytes_any (HR.out.ext X9.out) HDB.out (by omega)
        rw [HV.out] at CB
        refine CB.mono ?_
        clear CB
        rintro e w10 ⟨A3, n3, c3, rfl, r3, _, x3⟩
        have I3 := Kp.mk (Ni.of r3 HVB.out (by decide))
        have X10 := Kp.mk (X9.out.trans x3)
        have R10 := Kp.mk (R9.out.ext x3)
        clear r3 x3 c9
        go_wp2_with fail
        refine (Size_any I3.out.r (by have := I3.out.n; omega)).mono ?_
        rintro e w11 ⟨rfl, rfl⟩
        generalize sz (dgs 65536 V) = S at *
        go_wp2_with fail
        refine (SameV R10.out I3.out).mono ?_
        rintro e w12 ⟨rfl, x12⟩
        have X12 := Kp.mk (X10.out.trans x12)
        clear x12
        go_wp2_with fail
        go_ret
        exact ⟨rfl, X12.out.b⟩
  · as_aux_lemma =>
    go_enter Tryd.func3, Tryd.ntmps3
    go_wp2_with fail
    refine (up8 _).mono ?_
    rintro e w1 ⟨rfl, x1⟩
    have X1 := Kp.mk x1
    have HL := Kp.mk hl
    clear x1 hl
    go_wp2_with fail
    refine (Big_any (HN.out.ext X1.out)).mono ?_
    rintro e w2 (⟨hno, _⟩ | ⟨_, A2, c2, rfl, hs2, _, x2⟩)
    · exact absurd hno HL.out
    have X2 := Kp.mk (X1.out.trans x2)
    have HS := Kp.mk hs2
    clear x2 hs2
    go_wp2_with fail
    refine (MayV (HN.out.ext X2.out) true ⟨fun _ => HL.out, fun _ => rfl⟩).mono ?_
    rintro e w4 ⟨rfl, x4⟩
    have X4 := Kp.mk (X2.out.trans x4)
    have HS4 := Kp.mk (HS.out.ext x4)
    clear x4 HS
    have hrb' := fun (w' : World) (hx : Ext w4 w') => refBig_any (HN.out.ext (X4.out.trans hx)) HL.out
    have HRB := Kp.mk hrb'
    clear hrb'
    generalize bigL v = L at *
    generalize L.length = NL at *
    go_wp2_with fail
    refine wp_region_held_drew (S := fun w' => Ext w4 w') (by kernel_rfl) (Ext.refl w4).drew (fun hHeld => ?_)
    have hc1 := fun (w' : World) (hx : Ext w4 w') => (HS4.out.ext hx).str (Ext.refl _)
    refine wpAnyH_take (i := 0) (oi := ⟨some 30, _, _, _, _, _⟩) (v := ?_) rfl (by kernel_rfl) (by kernel_rfl) (by kernel_rfl) (fun _ _ _ h => h) (Or.inl ⟨by rfl, ?_⟩) (by assumption) ?_
    rotate_left
    · (intro w hSw; (try dsimp only at hSw); go_simp; try with_reducible rfl)
    try simp only [Act.put, List.setIfInBounds_toArray, List.set_cons_zero, List.set_cons_succ]
    refine wpAnyH_take (i := 1) (oi := ⟨some 31, _, _, _, _, _⟩) (v := ?_) rfl (by kernel_rfl) (by kernel_rfl) (by kernel_rfl) (fun _ _ _ h => h) (Or.inl ⟨by rfl, ?_⟩) (by assumption) ?_
    rotate_left
    · (intro w hSw; (try dsimp only at hSw); go_simp; try with_reducible rfl)
    try simp only [Act.put, List.setIfInBounds_toArray, List.set_cons_zero, List.set_cons_succ]
    refine wpAnyH_take (i := 2) (oi := ⟨some 32, _, _, _, _, _⟩) (v := ?_) rfl (by kernel_rfl) (by kernel_rfl) (by kernel_rfl) (fun _ _ _ h => h) (Or.inl ⟨by rfl, ?_⟩) (by assumption) ?_
    rotate_left
    · (intro w hSw; (try dsimp only at hSw); go_simp; try with_reducible rfl)
    try simp only [Act.put, List.setIfInBounds_toArray, List.set_cons_zero, List.set_cons_succ]
    refine wpAnyH_take (i := 3) (oi := ⟨some 33, _, _, _, _, _⟩) (v := undef) rfl (by kernel_rfl) (by kernel_rfl) (by kernel_rfl) (fun _ _ _ h => h) (Or.inr ⟨by rfl, rfl⟩) (by assumption) ?_
    try simp only [Act.put, List.setIfInBounds_toArray, List.set_cons_zero, List.set_cons_succ]
    refine wpAnyH_take (i := 4) (oi := ⟨some 34, _, _, _, _, _⟩) (v := undef) rfl (by kernel_rfl) (by kernel_rfl) (by kernel_rfl) (fun _ _ _ h => h) (Or.inr ⟨by rfl, rfl⟩) (by assumption) ?_
    try simp only [Act.put, List.setIfInBounds_toArray, List.set_cons_zero, List.set_cons_succ]
    refine wpAnyH_take (i := 5) (oi := ⟨some 35, _, _, _, _, _⟩) (v := undef) rfl (by kernel_rfl) (by kernel_rfl) (by kernel_rfl) (fun _ _ _ h => h) (Or.inr ⟨by rfl, rfl⟩) (by assumption) ?_
    try simp only [Act.put, List.setIfInBounds_toArray, List.set_cons_zero, List.set_cons_succ]
    refine wpAnyH_take (i := 6) (oi := ⟨some 36, _, _, _, _, _⟩) (v := undef) rfl (by kernel_rfl) (by kernel_rfl) (by kernel_rfl) (fun _ _ _ h => h) (Or.inr ⟨by rfl, rfl⟩) (by assumption) ?_
    try simp only [Act.put, List.setIfInBounds_toArray, List.set_cons_zero, List.set_cons_succ]
    refine wpAnyH_take (i := 7) (oi := ⟨some 37, _, _, _, _, _⟩) (v := undef) rfl (by kernel_rfl) (by kernel_rfl) (by kernel_rfl) (fun _ _ _ h => h) (Or.inr ⟨by rfl, rfl⟩) (by assumption) ?_
    try simp only [Act.put, List.setIfInBounds_toArray, List.set_cons_zero, List.set_cons_succ]
    refine wpAnyH_take (i := 8) (oi := ⟨some 38, _, _, _, _, _⟩) (v := undef) rfl (by kernel_rfl) (by kernel_rfl) (by kernel_rfl) (fun _ _ _ h => h) (Or.inr ⟨by rfl, rfl⟩) (by assumption) ?_
    try simp only [Act.put, List.setIfInBounds_toArray, List.set_cons_zero, List.set_cons_succ]
    refine wpAnyH_take (i := 9) (oi := ⟨some 39, _, _, _, _, _⟩) (v := undef) rfl (by kernel_rfl) (by kernel_rfl) (by kernel_rfl) (fun _ _ _ h => h) (Or.inr ⟨by rfl, rfl⟩) (by assumption) ?_
    try simp only [Act.put, List.setIfInBounds_toArray, List.set_cons_zero, List.set_cons_succ]
    refine wpAnyH_take (i := 10) (oi := ⟨some 40, _, _, _, _, _⟩) (v := undef) rfl (by kernel_rfl) (by kernel_rfl) (by kernel_rfl) (fun _ _ _ h => h) (Or.inr ⟨by rfl, rfl⟩) (by assumption) ?_
    try simp only [Act.put, List.setIfInBounds_toArray, List.set_cons_zero, List.set_cons_succ]
    refine wpAnyH_take (i := 11) (oi := ⟨some 41, _, _, _, _, _⟩) (v := ?_) rfl (by kernel_rfl) (by kernel_rfl) (by kernel_rfl) (fun _ _ _ h => h) (Or.inl ⟨by rfl, ?_⟩) (by assumption) ?_
    rotate_left
    · (intro w hSw; (try dsimp only at hSw); go_simp; try with_reducible rfl)
    try simp only [Act.put, List.setIfInBounds_toArray, List.set_cons_zero, List.set_cons_succ]
    refine wpAnyH_take (i := 12) (oi := ⟨some 42, _, _, _, _, _⟩) (v := ?_) rfl (by kernel_rfl) (by kernel_rfl) (by kernel_rfl) (fun _ _ _ h => h) (Or.inl ⟨by rfl, ?_⟩) (by assumption) ?_
    rotate_left
    · (intro w hSw; (try dsimp only at hSw); go_simp; try with_reducible rfl)
    try simp only [Act.put, List.setIfInBounds_toArray, List.set_cons_zero, List.set_cons_succ]
    refine wpAnyH_take (i := 13) (oi := ⟨some 43, _, _, _, _, _⟩) (v := ?_) rfl (by kernel_rfl) (by kernel_rfl) (by kernel_rfl) (fun _ _ _ h => h) (Or.inl ⟨by rfl, ?_⟩) (by assumption) ?_
    rotate_left
    · (intro w hSw; (try dsimp only at hSw); go_simp; try with_reducible rfl)
    try simp only [Act.put, List.setIfInBounds_toArray, List.set_cons_zero, List.set_cons_succ]
    refine wpAnyH_take (i := 14) (oi := ⟨some 44, _, _, _, _, _⟩) (v := ?_) rfl (by kernel_rfl) (by kernel_rfl) (by kernel_rfl) (fun _ _ _ h => h) (Or.inl ⟨by rfl, ?_⟩) (by assumption) ?_
    rotate_left
    · (intro w hSw; (try dsimp only at hSw); go_simp; try with_reducible rfl)
    try simp only [Act.put, List.setIfInBounds_toArray, List.set_cons_zero, List.set_cons_succ]
    refine wpAnyH_take (i := 15) (oi := ⟨some 45, _, _, _, _, _⟩) (v := ?_) rfl (by kernel_rfl) (by kernel_rfl) (by kernel_rfl) (fun _ _ _ h => h) (Or.inl ⟨by rfl, ?_⟩) (by assumption) ?_
    rotate_left
    · (intro w hSw; (try dsimp only at hSw); go_simp; try with_reducible rfl)
    try simp only [Act.put, List.setIfInBounds_toArray, List.set_cons_zero, List.set_cons_succ]
    refine wpAnyH_take (i := 16) (oi := ⟨some 46, _, _, _, _, _⟩) (v := ?_) rfl (by kernel_rfl) (by kernel_rfl) (by kernel_rfl) (fun _ _ _ h => h) (Or.inl ⟨by rfl, ?_⟩) (by assumption) ?_
    rotate_left
    · (intro w hSw; (try dsimp only at hSw); go_simp; try with_reducible rfl)
    try simp only [Act.put, List.setIfInBounds_toArray, List.set_cons_zero, List.set_cons_succ]
    refine wpAnyH_take (i := 17) (oi := ⟨some 47, _, _, _, _, _⟩) (v := ?_) rfl (by kernel_rfl) (by kernel_rfl) (by kernel_rfl) (fun _ _ _ h => h) (Or.inl ⟨by rfl, ?_⟩) (by assumption) ?_
    rotate_left
    · (intro w hSw; (try dsimp only at hSw); go_simp; try with_reducible rfl)
    try simp only [Act.put, List.setIfInBounds_toArray, List.set_cons_zero, List.set_cons_succ]
    refine wpAnyH_take (i := 18) (oi := ⟨some 48, _, _, _, _, _⟩) (v := ?_) rfl (by kernel_rfl) (by kernel_rfl) (by kernel_rfl) (fun _ _ _ h => h) (Or.inl ⟨by rfl, ?_⟩) (by assumption) ?_
    rotate_left
    · (intro w hSw; (try dsimp only at hSw); go_simp; try with_reducible rfl)
    try simp only [Act.put, List.setIfInBounds_toArray, List.set_cons_zero, List.set_cons_succ]
    refine wpAnyH_take (i := 19) (oi := ⟨some 49, _, _, _, _, _⟩) (v := ?_) rfl (by kernel_rfl) (by kernel_rfl) (by kernel_rfl) (fun _ _ _ h => h) (Or.inl ⟨by rfl, ?_⟩) (by assumption) ?_
    rotate_left
    · (intro w hSw; (try dsimp only at hSw); go_simp; try with_reducible rfl)
    try simp only [Act.put, List.setIfInBounds_toArray, List.set_cons_zero, List.set_cons_succ]
    refine wpAnyH_take (i := 20) (oi := ⟨some 50, _, _, _, _, _⟩) (v := ?_) rfl (by kernel_rfl) (by kernel_rfl) (by kernel_rfl) (fun _ _ _ h => h) (Or.inl ⟨by rfl, ?_⟩) (by assumption) ?_
    rotate_left
    · (intro w hSw; (try dsimp only at hSw); go_simp; try with_reducible rfl)
    try simp only [Act.put, List.setIfInBounds_toArray, List.set_cons_zero, List.set_cons_succ]
    refine next_one 21 (by kernel_rfl) rfl (by rfl) fun K' HK' => ?_
    go_simp
    refine (HRB.out _ (by (repeat (first | assumption | exact Ext.refl _ | apply Ext.drew | apply Ext.drewN | apply Ext.alloc | refine Ext.trans ?_ (by assumption))); first | done | fail)).mono ?_
    rintro e w3 ⟨A8, c8, rfl, hs8, hx8⟩
    have X3 := Kp.mk (X4.out.trans (show Ext w4 w3 from (by (repeat (first | assumption | exact Ext.refl _ | apply Ext.drew | apply Ext.drewN | apply Ext.alloc | refine Ext.trans ?_ (by assumption))); first | done | fail)))
    have hS2 := Ext.trans hHeld hx8
    refine held_go HK' hS2 (fun _ => ?_)
    clear HK'
    refine held_more (S' := fun w' => Ext w3 w') (fun _ h => Ext.trans hS2 h) _ _ _ _ ?_
    clear hHeld hS2
    have hHeld : Ext w3 w3 := Ext.refl _
    try simp only [Act.put, List.setIfInBounds_toArray, List.set_cons_zero, List.set_cons_succ]
    have hc2 := fun (w' : World) (hx : Ext w3 w') => (hs8.ext hx).str (Ext.refl _)
    refine wpAnyH_take (i := 22) (oi := ⟨some 52, _, _, _, _, _⟩) (v := ?_) rfl (by kernel_rfl) (by kernel_rfl) (by kernel_rfl) (fun _ _ _ h => h) (Or.inl ⟨by rfl, ?_⟩) (by assumption) ?_
    rotate_left
    · (intro w hSw; (try dsimp only at hSw); go_simp; try with_reducible rfl)
    try simp only [Act.put, List.setIfInBounds_toArray, List.set_cons_zero, List.set_cons_succ]
    refine wpAnyH_take (i := 23) (oi := ⟨some 53, _, _, _, _, _⟩) (v := ?_) rfl (by kernel_rfl) (by kernel_rfl) (by kernel_rfl) (fun _ _ _ h => h) (Or.inl ⟨by rfl, ?_⟩) (by assumption) ?_
    rotate_left
    · (intro w hSw; (try dsimp only at hSw); go_simp; try with_reducible rfl)
    try simp only [Act.put, List.setIfInBounds_toArray, List.set_cons_zero, List.set_cons_succ]
    refine wpAnyH_take (i := 24) (oi := ⟨some 54, _, _, _, _, _⟩) (v := ?_) rfl (by kernel_rfl) (by kernel_rfl) (by kernel_rfl) (fun _ _ _ h => h) (Or.inl ⟨by rfl, ?_⟩) (by assumption) ?_
    rotate_left
    · (intro w hSw; (try dsimp only at hSw); go_simp; try with_reducible rfl)
    try simp only [Act.put, List.setIfInBounds_toArray, List.set_cons_zero, List.set_cons_succ]
    refine wpAnyH_take (i := 25) (oi := ⟨some 55, _, _, _, _, _⟩) (v := ?_) rfl (by kernel_rfl) (by kernel_rfl) (by kernel_rfl) (fun _ _ _ h => h) (Or.inl ⟨by rfl, ?_⟩) (by assumption) ?_
    rotate_left
    · (intro w hSw; (try dsimp only at hSw); go_simp; try with_reducible rfl)
    try simp only [Act.put, List.setIfInBounds_toArray, List.set_cons_zero, List.set_cons_succ]
    refine wpAnyH_take (i := 26) (oi := ⟨some 56, _, _, _, _, _⟩) (v := ?_) rfl (by kernel_rfl) (by kernel_rfl) (by kernel_rfl) (fun _ _ _ h => h) (Or.inl ⟨by rfl, ?_⟩) (by assumption) ?_
    rotate_left
    · (intro w hSw; (try dsimp only at hSw); go_simp; try with_reducible rfl)
    try simp only [Act.put, List.setIfInBounds_toArray, List.set_cons_zero, List.set_cons_succ]
    refine wpAnyH_done (by kernel_rfl) ?_ _
    clear hc1 hc2 hs8 hx8
    go_wp2_with fail
    refine (ReadBig_any (HB.out.ext X3.out) (by omega)).mono ?_
    rintro e w8 (⟨hz, rfl, x8⟩ | ⟨hz, hR⟩)
    · rw [HBZ.out] at hz
      have X8 := Kp.mk (X3.out.trans x8)
      clear x8
      have hN := refNumber_any (HB.out.ext X8.out)
      cases ht : tcB b with
      | false =>
        rw [ht] at hN
        have HNN := Kp.mk hN
        clear hN ht hz
        go_wp2_with fail
        refine HNN.out.mono ?_
        rintro e w9 ⟨rfl, x9⟩
        have X9 := Kp.mk (X8.out.trans x9)
        clear x9
        go_wp2_with fail
        go_ret
        exact ⟨rfl, X9.out.b⟩
      | true =>
        rw [ht] at hN hz
        have h128 : 128 ≤ (gb b 0).toNat := by simpa using hz
        obtain ⟨g, o, rfl, hc⟩ := HB.out.s.2.2.2 (HB0.out ht)
        have c0 := hc 0 (HB0.out ht)
        rw [Nat.add_zero] at c0
        unfold ub at c0
        have c0l := fun (W : World) (hx : Ext w W) => cell_lz c0 W hx
        have HC0 := Kp.mk c0l
        have g1 : (128 : Int) ≤ ((gb b 0).toNat : Int) := by omega
        have g2 : (0 : Int) < (m : Int) := by have := HB0.out ht; omega
        have HNN := Kp.mk hN
        clear hN ht hz h128 hc c0 c0l
        generalize (gb b 0).toNat = z at *
        go_wp2_with fail
        refine HNN.out.mono ?_
        rintro e w9 ⟨rfl, x9⟩
        have X9 := Kp.mk (X8.out.trans x9)
        have c9 := HC0.out w9 X9.out
        clear x9
        go_wp2_with fail
        go_ret
        exact ⟨rfl, X9.out.b⟩
    · rw [HBZ.out, Bool.and_eq_true] at hz
      obtain ⟨ht, hz⟩ := hz
      have h128 : ¬ 128 ≤ (gb b 0).toNat := by simpa using hz
      obtain ⟨g, o, rfl, hc⟩ := HB.out.s.2.2.2 (HB0.out ht)
      have c0 := hc 0 (HB0.out ht)
      rw [Nat.add_zero] at c0
      unfold ub at c0
      have c0l := fun (W : World) (hx : Ext w W) => cell_lz c0 W hx
      have HC0 := Kp.mk c0l
      have g1 : ¬ ((128 : Int) ≤ ((gb b 0).toNat : Int)) := by omega
      have g2 : (0 : Int) < (m : Int) := by have := HB0.out ht; omega
      have hN := fun (W : World) (hx : Ext w W) => refNumber_any (HB.out.ext hx)
      rw [ht] at hN
      have HNN := Kp.mk hN
      clear hN ht hz h128 hc c0 c0l
      generalize (gb b 0).toNat = z at *
      rw [ReadR_eq, HV.out] at hR
      rcases hR with ⟨q, rfl, x8⟩ | ⟨q, A9, n9, c9', rfl, r9, x8⟩
      · have X8 := Kp.mk (X3.out.trans x8)
        have bs : decide ((256 : Int) < (sz (dgs 65536 V) : Int)) = true := decide_eq_true (by
          rcases Nat.lt_or_ge 256 (sz (dgs 65536 V)) with h1 | h1
          · omega
          · exact absurd ((sz_iff V).1 h1) (Nat.not_lt_of_le q))
        clear x8 q
        go_wp2_with fail
        refine (HNN.out _ X8.out).mono ?_
        rintro e w9 ⟨rfl, x9⟩
        have X9 := Kp.mk (X8.out.trans x9)
        have c9 := HC0.out w9 X9.out
        clear x9
        go_wp2_with fail
        have CB := Bytes_any (HR.out.ext X9.out) HDB.out (by omega)
        rw [HV.out] at CB
        refine CB.mono ?_
        clear CB
        rintro e w10 ⟨A3, n3, c3, rfl, r3, _, x3⟩
        have I3 := Kp.mk (Ni.of r3 HVB.out (by decide))
        have X10 := Kp.mk (X9.out.trans x3)
        clear r3 x3 c9
        go_wp2_with fail
        refine (Size_any I3.out.r (by have := I3.out.n; omega)).mono ?_
        rintro e w11 ⟨rfl, rfl⟩
        generalize sz (dgs 65536 V) = S at *
        go_wp2_with fail
        go_ret
        exact ⟨rfl, X10.out.b⟩
      · have X8 := Kp.mk (X3.out.trans x8)
        have R8 := Kp.mk r9.rd
        have bs : decide ((256 : Int) < (sz (dgs 65536 V) : Int)) = false := decide_eq_false (by have := (sz_iff V).2 q; omega)
        clear x8 q r9
        go_wp2_with fail
        refine (HNN.out _ X8.out).mono ?_
        rintro e w9 ⟨rfl, x9⟩
        have X9 := Kp.mk (X8.out.trans x9)
        have R9 := Kp.mk (R8.out.ext x9)
        have c9 := HC0.out w9 X9.out
        clear x9
        go_wp2_with fail
        have CB := Bytes_any (HR.out.ext X9.out) HDB.out (by omega)
        rw [HV.out] at CB
        refine CB.mono ?_
        clear CB
        rintro e w10 ⟨A3, n3, c3, rfl, r3, _, x3⟩
        have I3 := Kp.mk (Ni.of r3 HVB.out (by decide))
        have X10 := Kp.mk (X9.out.trans x3)
        have R10 := Kp.mk (R9.out.ext x3)
        clear r3 x3 c9
        go_wp2_with fail
        refine (Size_any I3.out.r (by have := I3.out.n; omega)).mono ?_
        rintro e w11 ⟨rfl, rfl⟩
        generalize sz (dgs 65536 V) = S at *
        go_wp2_with fail
        refine (SameV R10.out I3.out).mono ?_
        rintro e w12 ⟨rfl, x12⟩
        have X12 := Kp.mk (X10.out.trans x12)
        clear x12
        go_wp2_with fail
        go_ret
        exact ⟨rfl, X12.out.b⟩
end Go.Proofs.YtfipgmjaabggjaaDoor
namespace Go.Proofs.YtfipgmjaabggjaaDoor
open Go Go.ChangeShapes Go.WideShapes Go.ChangeAt Go.RowKit Go.Joins Go.Deep Go.WideElems Go.Maps
set_option maxRecDepth 4000

section
variable {H : Type} {enc : TypeId × Value → H} {P : Program} {w : World} {held : Bool}
theorem open_time_of {t base' : Nat} {f0 f1 f2 f3 f4 f5 : Field} {v : Value} {d : DataW H} {p : List MemPlace} (hs : P.underlying t = some (.struct #[f0, f1, f2, f3, f4, f5])) (hone : oneCellFields P #[f0, f1, f2, f3, f4, f5] = true) (hC : P.cellsOf t = 6)
    (h0 : P.underlying f0.type = some (.int .i64)) (h1 : P.underlying f1.type = some (.int .i64)) (h2 : P.underlying f2.type = some (.int .i64)) (h3 : P.underlying f3.type = some (.int .i64)) (h4 : P.underlying f4.type = some (.int .i64)) (h5 : P.underlying f5.type = some (.int .i64))
    (hv : Value.okWide P w .any base' t v) (h : DataW.Trod enc P w 0 (fun _ => true) held t v d p) : ∃ y mo d h mi s, v = .agg (tci y mo d h mi s) := by
  obtain ⟨cs, rfl, hsz⟩ := okWide_struct hs hv
  obtain ⟨l⟩ := cs
  match l, (hsz.trans hC) with
  | [c0, c1, c2, c3, c4, c5], _ =>
    obtain ⟨fuel, hf⟩ := h
    obtain ⟨xs, n, _, hx, hl, hlen, hg⟩ := DataW.trod_struct hs hf
    obtain ⟨o0, k0⟩ := hone_of hone 0 f0 rfl
    obtain ⟨o1, k1⟩ := hone_of hone 1 f1 rfl
    obtain ⟨o2, k2⟩ := hone_of hone 2 f2 rfl
    obtain ⟨o3, k3⟩ := hone_of hone 3 f3 rfl
    obtain ⟨o4, k4⟩ := hone_of hone 4 f4 rfl
    obtain ⟨o5, k5⟩ := hone_of hone 5 f5 rfl
    match xs, hlen with
    | [y0, y1, y2, y3, y4, y5], _ =>
      have g0 := hg 0 f0 rfl
      have g1 := hg 1 f1 rfl
      have g2 := hg 2 f2 rfl
      have g3 := hg 3 f3 rfl
      have g4 := hg 4 f4 rfl
      have g5 := hg 5 f5 rfl
      simp [Value.cells, o0, k0] at g0
      simp [Value.cells, o1, k1] at g1
      simp [Value.cells, o2, k2] at g2
      simp [Value.cells, o3, k3] at g3
      simp [Value.cells, o4, k4] at g4
      simp [Value.cells, o5, k5] at g5
      obtain ⟨z0, e0, _, _⟩ := DataW.trod_int h0 g0
      obtain ⟨z1, e1, _, _⟩ := DataW.trod_int h1 g1
      obtain ⟨z2, e2, _, _⟩ := DataW.trod_int h2 g2
      obtain ⟨z3, e3, _, _⟩ := DataW.trod_int h3 g3
      obtain ⟨z4, e4, _, _⟩ := DataW.trod_int h4 g4
      obtain ⟨z5, e5, _, _⟩ := DataW.trod_int h5 g5
      cases e0
      cases e1
      cases e2
      cases e3
      cases e4
      cases e5
      exact ⟨z0, z1, z2, z3, z4, z5, rfl⟩
theorem open_bytes_at8 {t e fuel : Nat} {v : Value} {x : DataW H × List MemPlace} (ht : P.underlying t = some (.slice e)) (he : P.underlying e = some (.int .u8)) (hce : P.cellsOf e = 1)
    (hf : DataW.trod enc P w 0 (fun _ => true) held fuel t [v] = some x) : ∃ A n c l, v = .slice A n c ∧ Sl w A n c l ∧ c ≤ maxLen := by
  rcases open_ints ht he hce hf with ⟨hcs, _⟩ | ⟨a, len, cap, zs, hcs, _, hl, hm, hz, _, hcell, hwz⟩
  · obtain rfl : v = .slice none 0 0 := by simpa using hcs
    exact ⟨none, 0, 0, [], rfl, Sl.nil _, Nat.zero_le _⟩
  · obtain rfl : v = .slice (some a) len cap := by simpa using hcs
    simp only [if_true] at hz
    have hx : ∀ i, i < zs.length → ∃ x : BitVec 8, (zs.map (Value.int .u8))[i]? = some (vb x) := fun i hi => by
      obtain ⟨y, hy⟩ := wf_u8 (hwz _ (List.getElem_mem hi))
      exact ⟨y, by simp [hi, hy]⟩
    obtain ⟨l, hl1, hl2⟩ := list_of_cells vb zs.length (zs.map (Value.int .u8)) (by simp) hx
    refine ⟨some a, len, cap, l.take len, rfl, ⟨by rw [List.length_take]; omega, hl, (fun e => by cases e), fun hn => ?_⟩, hm⟩
    obtain ⟨b, off, rfl, hc⟩ := ints_at hcell (by omega)
    refine ⟨b, off, rfl, fun j hj => ?_⟩
    rw [gb_take _ _ _ hj, hc j (by omega)]
    have e1 := congrArg (fun q : List Value => q[j]?) hl1
    have hjz : j < zs.length := by omega
    have hjl : j < l.length := by omega
    simp only [List.getElem?_map, List.getElem?_eq_getElem hjz, List.getElem?_eq_getElem hjl, Option.map_some] at e1
    simp only [List.getD_eq_getElem?_getD, List.getElem?_eq_getElem hjz, Option.getD_some, e1]
    simp [gb, hjl]
theorem open_bits_of {t eb base' : Nat} {f0 f1 : Field} {v : Value} {d : DataW H} {p : List MemPlace} (hs : P.underlying t = some (.struct #[f0, f1])) (hone : oneCellFields P #[f0, f1] = true) (hC : P.cellsOf t = 2)
    (h0 : P.underlying f0.type = some (.slice eb)) (h4 : P.underlying eb = some (.int .u8)) (h5 : P.cellsOf eb = 1) (h1 : P.underlying f1.type = some (.int .i64))
    (hv : Value.okWide P w .any base' t v) (h : DataW.Trod enc P w 0 (fun _ => true) held t v d p) : ∃ A n c l u, v = .agg #[.slice A n c, .int .i64 u] ∧ Sl w A n c l := by
  obtain ⟨v0, v1, y0, y1, n, rfl, _, _, r0, r1⟩ := open_agg2 hs hone hC hv h
  obtain ⟨A0, n0, c0, l0, rfl, a0, _⟩ := open_bytes_at8 h0 h4 h5 r0
  obtain ⟨z1, e1, _, _⟩ := DataW.trod_int h1 r1
  cases e1
  exact ⟨A0, n0, c0, l0, z1, rfl, a0⟩
theorem open_arcs {t e base' : Nat} {v : Value} {d : DataW H} {p : List MemPlace} (ht : P.underlying t = some (.slice e)) (he : P.underlying e = some (.int .u32)) (hce : P.cellsOf e = 1)
    (hv : Value.okWide P w .any base' t v) (h : DataW.Trod enc P w 0 (fun _ => true) held t v d p) : ∃ A n c l, v = .slice A n c ∧ Rd vL w A n c l ∧ Dg 4294967296 l ∧ c ≤ maxLen := by
  obtain ⟨a0, len, cap, rfl⟩ := okWide_slice ht hv
  obtain ⟨fuel, hf⟩ := h
  rcases open_ints ht he hce hf with ⟨hcs, _⟩ | ⟨a, len', cap', zs, hcs, _, hl, hm, hz, _, hcell, hwz⟩
  · simp [Value.cells] at hcs
    obtain ⟨rfl, rfl, rfl⟩ := hcs
    exact ⟨none, 0, 0, [], rfl, Rd.nil _, (fun d hd => by cases hd), Nat.zero_le _⟩
  · simp [Value.cells] at hcs
    obtain ⟨rfl, rfl, rfl⟩ := hcs
    simp only [if_true] at hz
    refine ⟨some a, len, cap, (zs.map Int.toNat).take len, rfl, ⟨by rw [List.length_take, List.length_map]; omega, hl, (fun e => by cases e), fun hn => ?_⟩, fun x hx => ?_, hm⟩
    · obtain ⟨b, off, rfl, hc⟩ := ints_at hcell (by omega)
      refine ⟨b, off, rfl, fun j x hj => ?_⟩
      have hjn : j < len := by have := (List.getElem?_eq_some_iff.1 hj).1; rw [List.length_take] at this; omega
      rw [hc j (by omega)]
      rw [List.getElem?_take, if_pos hjn, List.getElem?_map, List.getElem?_eq_getElem (by omega)] at hj
      have hb := bounds_u32 (hwz zs[j] (List.getElem_mem (by omega)))
      cases hj
      simp only [List.getD_eq_getElem?_getD, List.getElem?_eq_getElem (show j < zs.length by omega), Option.getD_some, vL]
      congr 2
      omega
    · obtain ⟨y, hy, rfl⟩ := List.mem_map.1 (List.mem_of_mem_take hx)
      have hb := bounds_u32 (hwz y hy)
      show y.toNat < 4294967296
      omega
end
end Go.Proofs.YtfipgmjaabggjaaDoor
namespace Go.Proofs.YtfipgmjaabggjaaDoor
open Go Go.RowKit
set_option maxRecDepth 4000

theorem eqFields_same {P : Program} (w : World) (d : Nat) (xs : Array Value) : ∀ (fs : List Field), (∀ f ∈ fs, ∃ v, (part f.type xs f.offset).run P w = .ok v w ∧ (Op.equalIn d f.type v v).run P w = .ok true w) → (Op.eqFields d xs xs fs).run P w = .ok true w
  | [], _ => by simp [Op.eqFields]
  | f :: fs, h => by
    obtain ⟨v, h1, h2⟩ := h f (by simp)
    have ih := eqFields_same w d xs fs fun g hg => h g (by simp [hg])
    simp only [Op.eqFields, Sem.run_bind, Sem.run_ite]
    split
    · rw [h1]
      simp only [Result.andThen_ok]
      rw [h1]
      simp only [Result.andThen_ok]
      rw [h2]
      simp [ih]
    · simp [ih]
theorem part6 (a b c d e f : Int) (w : World) (k : Nat) (hk : k < 6) : ∃ z : Int, (part 3 (tci a b c d e f) k).run Tryd.prog w = .ok (.int .i64 z) w := by
  have hi : (Tryd.prog.info? 3).map (·.size) = some 1 := by kernel_rfl
  cases hq : Tryd.prog.info? 3 with
  | none => simp [hq] at hi
  | some i =>
    have hs1 : i.size = 1 := by simpa [hq] using hi
    rcases (by omega : k = 0 ∨ k = 1 ∨ k = 2 ∨ k = 3 ∨ k = 4 ∨ k = 5) with rfl | rfl | rfl | rfl | rfl | rfl
    · exact ⟨a, by simp [tci, part, Sem.run_bind, sizeOf, typeInfo, hq, hs1]⟩
    · exact ⟨b, by simp [tci, part, Sem.run_bind, sizeOf, typeInfo, hq, hs1]⟩
    · exact ⟨c, by simp [tci, part, Sem.run_bind, sizeOf, typeInfo, hq, hs1]⟩
    · exact ⟨d, by simp [tci, part, Sem.run_bind, sizeOf, typeInfo, hq, hs1]⟩
    · exact ⟨e, by simp [tci, part, Sem.run_bind, sizeOf, typeInfo, hq, hs1]⟩
    · exact ⟨f, by simp [tci, part, Sem.run_bind, sizeOf, typeInfo, hq, hs1]⟩
theorem eq_time (a b c d e f : Int) (w : World) : (binOp .eql tmt (.agg (tci a b c d e f)) (.agg (tci a b c d e f))).run Tryd.prog w = .ok (.bool true) w := by
  have hall : ((Tryd.prog.fieldsOf tmt).toList.all fun f => f.type == 3 && decide (f.offset < 6)) = true := by kernel_rfl
  rw [run_eql_struct, run_equalIn_agg w 9999 tmt _ _ (by kernel_rfl) (by kernel_rfl), eqFields_same w 9999 _ _ fun g hg => ?_]
  · rfl
  · have := List.all_eq_true.1 hall g hg
    simp only [Bool.and_eq_true, beq_iff_eq, decide_eq_true_eq] at this
    obtain ⟨z, hz⟩ := part6 a b c d e f w g.offset this.2
    refine ⟨_, this.1 ▸ hz, ?_⟩
    rw [this.1, run_equalIn_int w 9998 3 .i64 .i64 z z Tryd.underlying3]
    simp
/-- byte by byte, the first that differs -/
def lexB (a b : List (BitVec 8)) : Bool := Op.bytesLess (a.map UInt8.ofBitVec) (b.map UInt8.ofBitVec)
theorem lexB_str (a b : List (BitVec 8)) : Op.bytesLess (strOf a).toList (strOf b).toList = lexB a b := by
  rw [strOf_toList, strOf_toList]
  rfl
theorem lexB_cons (x y : BitVec 8) (a b : List (BitVec 8)) : lexB (x :: a) (y :: b) = (decide (x.toNat < y.toNat) || (decide (x.toNat = y.toNat) && lexB a b)) := by
  unfold lexB
  simp only [List.map_cons, Op.bytesLess]
  congr 1
  congr 1
  rw [Bool.eq_iff_iff, beq_iff_eq, decide_eq_true_eq]
  constructor
  · intro h
    exact congrArg (fun z => z.toNat) (UInt8.ofBitVec.inj h)
  · intro h
    rw [BitVec.eq_of_toNat_eq h]
theorem d2_lex {a b : Nat} (ha : a < 100) (hb : b < 100) (x y : List (BitVec 8)) : lexB (d2 a ++ x) (d2 b ++ y) = (decide (a < b) || (decide (a = b) && lexB x y)) := by
  show lexB (BitVec.ofNat 8 (48 + a / 10 % 10) :: BitVec.ofNat 8 (48 + a % 10) :: x) (BitVec.ofNat 8 (48 + b / 10 % 10) :: BitVec.ofNat 8 (48 + b % 10) :: y) = _
  rw [lexB_cons, lexB_cons, BitVec.toNat_ofNat, BitVec.toNat_ofNat, BitVec.toNat_ofNat, BitVec.toNat_ofNat]
  generalize lexB x y = L
  rw [Bool.eq_iff_iff]
  cases L <;> simp <;> omega
theorem later_body {t u : Tmt} (ht : MayT t) (hu : MayT u) (h : LtT t u) (hm : tmM t = tmM u) (hc : ¬ (tmM t = 23 ∧ t.y < 2000 ∧ 2000 ≤ u.y)) : lexB (tmB t) (tmB u) = true := by
  have h1 := ht.y2
  have h2 := hu.y2
  have a1 := ht.m2
  have a2 := hu.m2
  have a3 := ht.d2
  have a4 := hu.d2
  have a5 := dim_hi t.y t.mo
  have a6 := dim_hi u.y u.mo
  have a7 := ht.h2
  have a8 := hu.h2
  have a9 := ht.i2
  have b1 := hu.i2
  have b2 := ht.s2
  have b3 := hu.s2
  unfold LtT at h
  unfold tmM at hm hc
  unfold tmB tmR
  have hp : ∀ p q : Prop, ∀ [Decidable p] [Decidable q], (decide p || decide q) = decide (p ∨ q) := fun p q _ _ => by rw [Bool.eq_iff_iff]; simp
  by_cases k1 : 1950 ≤ t.y ∧ t.y ≤ 2049
  · by_cases k2 : 1950 ≤ u.y ∧ u.y ≤ 2049
    · rw [if_pos k1, if_pos k2]
      rw [if_pos k1] at hc
      have hc' : ¬ (t.y < 2000 ∧ 2000 ≤ u.y) := fun e => hc ⟨rfl, e⟩
      rw [d2_lex (by omega) (by omega), d2_lex (by omega) (by omega), d2_lex (by omega) (by omega), d2_lex (by omega) (by omega), d2_lex (by omega) (by omega), d2_lex (by omega) (by omega)]
      simp only [Bool.or_eq_true, Bool.and_eq_true, decide_eq_true_eq]
      omega
    · rw [if_pos k1, if_neg k2] at hm
      exact absurd hm (by decide)
  · by_cases k2 : 1950 ≤ u.y ∧ u.y ≤ 2049
    · rw [if_neg k1, if_pos k2] at hm
      exact absurd hm (by decide)
    · rw [if_neg k1, if_neg k2]
      rw [d2_lex (by omega) (by omega), d2_lex (by omega) (by omega), d2_lex (by omega) (by omega), d2_lex (by omega) (by omega), d2_lex (by omega) (by omega), d2_lex (by omega) (by omega), d2_lex (by omega) (by omega)]
      simp only [Bool.or_eq_true, Bool.and_eq_true, decide_eq_true_eq]
      omega
end Go.Proofs.YtfipgmjaabggjaaDoor
