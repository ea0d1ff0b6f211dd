/-
  The walk of the law RsaPairs.
-/
import Derived.Test.YticggkllfojgkaaM15
namespace Go.Proofs.Yticggkllfojgkaa
open Go Go.RowKit
set_option maxRecDepth 4000

theorem lit_ni (w : World) (x : Nat) (a : Int) (ha : a = (x : Int)) (h0 : x ≠ 0) (hx : x < 65536) : Ni (w.alloc (.cells #[.int .i64 a] it)) (some ⟨w.heap.size, 0, none⟩) 1 1 x := ⟨by rw [← one_dgs h0 hx]; exact lit1 w x a ha, by omega⟩
theorem Pair_fac {A B D : Option Addr} {n c m d k f vp vq ve : Nat} {w : World} (hp : Nv w A n c vp) (hq : Nv w B m d vq) (he : Nv w D k f ve) (sp : ¬ lng vp) (sq : ¬ lng vq) (se : ¬ lng ve) (h : ¬ (Fac vp ∧ Fac vq)) :
    Calls Try.prog 10 #[.slice A n c, .slice B m d, .slice D k f] w (NoKey w 1) := by
  by_cases fp : Fac vp
  · exact Pair_facq hp hq he sp sq se fp fun fq => h ⟨fp, fq⟩
  · exact Pair_facp hp hq he sp sq se fp
/-- where a struct lies, in each later world -/
theorem box3s {w : World} {g t : Nat} {u v y : Value} (h : Blk w g t #[u, v, y]) : (∀ w', Ext w w' → w'.cell? ⟨g, 0, none⟩ = some u) ∧ (∀ w', Ext w w' → w'.cell? ⟨g, 1, none⟩ = some v) ∧ (∀ w', Ext w w' → w'.cell? ⟨g, 2, none⟩ = some y) :=
  ⟨fun _ hx => (box3 h hx).1, fun _ hx => (box3 h hx).2.1, fun _ hx => (box3 h hx).2.2⟩
theorem box_on {w w1 : World} {p : Addr} {v : Value} (h : ∀ w', Ext w w' → w'.cell? p = some v) (hx : Ext w w1) : ∀ w', Ext w1 w' → w'.cell? p = some v := fun w' h' => h w' (hx.trans h')


/-- the ways that two factors and an exponent can go -/
theorem pair_ways (p q e : Nat) : ((lng p ∨ lng q ∨ lng e) ∧ lng p) ∨ ((lng p ∨ lng q ∨ lng e) ∧ ¬ lng p ∧ lng q) ∨ ((lng p ∨ lng q ∨ lng e) ∧ ¬ lng p ∧ ¬ lng q ∧ lng e) ∨
    (¬ lng p ∧ ¬ lng q ∧ ¬ lng e ∧ ¬ (Fac p ∧ Fac q) ∧ p < 3) ∨ (¬ lng p ∧ ¬ lng q ∧ ¬ lng e ∧ ¬ (Fac p ∧ Fac q) ∧ 3 ≤ p ∧ q < 3) ∨ (¬ lng p ∧ ¬ lng q ∧ ¬ lng e ∧ ¬ (Fac p ∧ Fac q) ∧ 3 ≤ p ∧ 3 ≤ q ∧ 64 < nb p) ∨ (¬ lng p ∧ ¬ lng q ∧ ¬ lng e ∧ ¬ (Fac p ∧ Fac q) ∧ 3 ≤ p ∧ 3 ≤ q ∧ nb p ≤ 64 ∧ 64 < nb q) ∨
    (¬ lng p ∧ ¬ lng q ∧ ¬ lng e ∧ Fac p ∧ Fac q ∧ Nat.gcd ((p - 1) * (q - 1)) e ≠ 1) ∨ (¬ lng p ∧ ¬ lng q ∧ ¬ lng e ∧ Fac p ∧ Fac q ∧ Nat.gcd ((p - 1) * (q - 1)) e = 1 ∧ ¬ PubOk (p * q) e) ∨ (¬ lng p ∧ ¬ lng q ∧ ¬ lng e ∧ Fac p ∧ Fac q ∧ Nat.gcd ((p - 1) * (q - 1)) e = 1 ∧ PubOk (p * q) e) := by
  by_cases h1 : lng p
  · exact .inl ⟨.inl h1, h1⟩
  by_cases h2 : lng q
  · exact .inr (.inl ⟨.inr (.inl h2), h1, h2⟩)
  by_cases h3 : lng e
  · exact .inr (.inr (.inl ⟨.inr (.inr h3), h1, h2, h3⟩))
  by_cases g1 : p < 3
  · exact .inr (.inr (.inr (.inl ⟨h1, h2, h3, fun h => by have := h.1.lo; omega, g1⟩)))
  by_cases g2 : q < 3
  · exact .inr (.inr (.inr (.inr (.inl ⟨h1, h2, h3, fun h => by have := h.2.lo; omega, by omega, g2⟩))))
  by_cases g3 : 64 < nb p
  · exact .inr (.inr (.inr (.inr (.inr (.inl ⟨h1, h2, h3, fun h => by have := h.1.hi; omega, by omega, by omega, g3⟩)))))
  by_cases g4 : 64 < nb q
  · exact .inr (.inr (.inr (.inr (.inr (.inr (.inl ⟨h1, h2, h3, fun h => by have := h.2.hi; omega, by omega, by omega, by omega, g4⟩))))))
  have fp : Fac p := ⟨by omega, by omega⟩
  have fq : Fac q := ⟨by omega, by omega⟩
  by_cases g5 : Nat.gcd ((p - 1) * (q - 1)) e = 1
  · by_cases g6 : PubOk (p * q) e
    · exact .inr (.inr (.inr (.inr (.inr (.inr (.inr (.inr (.inr ⟨h1, h2, h3, fp, fq, g5, g6⟩))))))))
    · exact .inr (.inr (.inr (.inr (.inr (.inr (.inr (.inr (.inl ⟨h1, h2, h3, fp, fq, g5, g6⟩))))))))
  · exact .inr (.inr (.inr (.inr (.inr (.inr (.inr (.inl ⟨h1, h2, h3, fp, fq, g5⟩)))))))
set_option maxHeartbeats 8000000 in
set_option maxRecDepth 100000 in
theorem RsaPairs_any {w : World} {AN AE AD : Option Addr} {nN nE nD cN cE cD : Nat} {lN lE lD : List Nat} (hN : Nk w AN nN cN lN) (hE : Nk w AE nE cE lE) (hD : Nk w AD nD cD lD) :
    Calls Try.prog 4 #[.slice AN nN cN, .slice AE nE cE, .slice AD nD cD] w fun e w' => e = .returned (.bool true) ∧ Below w.heap.size w w' := by
  have HU := Kp.mk (fun u => up6_any u)
  rcases light_cases6 nN nE nD with ⟨g1, g2, g3⟩ | ⟨hl, g1⟩ | ⟨hl, g1, g2⟩ | ⟨hl, g1, g2, g3⟩
  rotate_left
  · have d1 : (70 : Int) < (nN : Int) := by omega
    have e1 : 70 < nN := by omega
    clear hl hN hE hD g1
    go_enter Try.func4, Try.ntmps4
    go_wp2_with fail
    refine (HU.out _).mono ?_
    rintro e w1 ⟨rfl, x⟩
    have x1 := x
    clear x
    have HX := Kp.mk (show Ext w w1 from (by (repeat (first | assumption | exact Ext.refl _ | apply Ext.drew | apply Ext.drewN | apply Ext.alloc | refine Ext.trans ?_ (by assumption))); first | done | fail))
    clear x1
    go_wp2_with fail
    go_ret
    exact ⟨rfl, HX.out.b⟩
  · have d1 : decide ((70 : Int) < (nN : Int)) = false := decide_eq_false (by omega)
    have e1 : decide (70 < nN) = false := decide_eq_false (by omega)
    have d2 : (70 : Int) < (nE : Int) := by omega
    have e2 : 70 < nE := by omega
    clear hl hN hE hD g1 g2
    go_enter Try.func4, Try.ntmps4
    go_wp2_with fail
    refine (HU.out _).mono ?_
    rintro e w1 ⟨rfl, x⟩
    have x1 := x
    clear x
    have HX := Kp.mk (show Ext w w1 from (by (repeat (first | assumption | exact Ext.refl _ | apply Ext.drew | apply Ext.drewN | apply Ext.alloc | refine Ext.trans ?_ (by assumption))); first | done | fail))
    clear x1
    go_wp2_with fail
    go_ret
    exact ⟨rfl, HX.out.b⟩
  · have d1 : decide ((70 : Int) < (nN : Int)) = false := decide_eq_false (by omega)
    have e1 : decide (70 < nN) = false := decide_eq_false (by omega)
    have d2 : decide ((70 : Int) < (nE : Int)) = false := decide_eq_false (by omega)
    have e2 : decide (70 < nE) = false := decide_eq_false (by omega)
    have d3 : (70 : Int) < (nD : Int) := by omega
    have e3 : 70 < nD := by omega
    clear hl hN hE hD g1 g2 g3
    go_enter Try.func4, Try.ntmps4
    go_wp2_with fail
    refine (HU.out _).mono ?_
    rintro e w1 ⟨rfl, x⟩
    have x1 := x
    clear x
    have HX := Kp.mk (show Ext w w1 from (by (repeat (first | assumption | exact Ext.refl _ | apply Ext.drew | apply Ext.drewN | apply Ext.alloc | refine Ext.trans ?_ (by assumption))); first | done | fail))
    clear x1
    go_wp2_with fail
    go_ret
    exact ⟨rfl, HX.out.b⟩
  · have d1 : decide ((70 : Int) < (nN : Int)) = false := decide_eq_false (by omega)
    have e1 : decide (70 < nN) = false := decide_eq_false (by omega)
    have d2 : decide ((70 : Int) < (nE : Int)) = false := decide_eq_false (by omega)
    have e2 : decide (70 < nE) = false := decide_eq_false (by omega)
    have d3 : decide ((70 : Int) < (nD : Int)) = false := decide_eq_false (by omega)
    have e3 : decide (70 < nD) = false := decide_eq_false (by omega)
    have NN := Kp.mk (Nv.small hN.r hN.d (by omega))
    have bN := Kp.mk (Nat.lt_of_lt_of_le (vl_len hN.r hN.d) (Nat.pow_le_pow_right (n := BB) (by decide) (show nN ≤ 70 by omega)))
    obtain ⟨vN, hvN⟩ : ∃ v, vl BB lN = v := ⟨_, rfl⟩
    rw [hvN] at NN bN
    clear hN hvN
    have NE := Kp.mk (Nv.small hE.r hE.d (by omega))
    have bE := Kp.mk (Nat.lt_of_lt_of_le (vl_len hE.r hE.d) (Nat.pow_le_pow_right (n := BB) (by decide) (show nE ≤ 70 by omega)))
    obtain ⟨vE, hvE⟩ : ∃ v, vl BB lE = v := ⟨_, rfl⟩
    rw [hvE] at NE bE
    clear hE hvE
    have ND := Kp.mk (Nv.small hD.r hD.d (by omega))
    have bD := Kp.mk (Nat.lt_of_lt_of_le (vl_len hD.r hD.d) (Nat.pow_le_pow_right (n := BB) (by decide) (show nD ≤ 70 by omega)))
    obtain ⟨vD, hvD⟩ : ∃ v, vl BB lD = v := ⟨_, rfl⟩
    rw [hvD] at ND bD
    clear hD hvD
    have e4 := code_eq 4 4
    have e1c := code_eq 1 1
    have e13 := code_eq 13 13
    rcases pair_ways vN vE vD with ⟨h, h1⟩ | ⟨h, h1, h2⟩ | ⟨h, h1, h2, h3⟩ | ⟨s1, s2, s3, h, h1⟩ | ⟨s1, s2, s3, h, h1, h2⟩ | ⟨s1, s2, s3, h, h1, h2, h3⟩ | ⟨s1, s2, s3, h, h1, h2, h3, h4⟩ | ⟨s1, s2, s3, h1, h2, h3⟩ | ⟨s1, s2, s3, h1, h2, h3, h4⟩ | ⟨s1, s2, s3, h1, h2, h3, h4⟩
    · have HL := Kp.mk h
      have H1 := Kp.mk h1
      clear h h1
      go_enter Try.func4, Try.ntmps4
      go_wp2_with fail
      refine (HU.out _).mono ?_
      rintro e w1 ⟨rfl, x⟩
      have x1 := x
      clear x
      go_wp2_with fail
      refine (Pair_long (NN.out.ext (by (repeat (first | assumption | exact Ext.refl _ | apply Ext.drew | apply Ext.drewN | apply Ext.alloc | refine Ext.trans ?_ (by assumption))); first | done | fail)) (NE.out.ext (by (repeat (first | assumption | exact Ext.refl _ | apply Ext.drew | apply Ext.drewN | apply Ext.alloc | refine Ext.trans ?_ (by assumption))); first | done | fail)) (ND.out.ext (by (repeat (first | assumption | exact Ext.refl _ | apply Ext.drew | apply Ext.drewN | apply Ext.alloc | refine Ext.trans ?_ (by assumption))); first | done | fail)) HL.out).mono ?_
      rintro e w2 ⟨rfl, x⟩
      have x2 := Ext.trans (show Ext w1 _ from (by (repeat (first | assumption | exact Ext.refl _ | apply Ext.drew | apply Ext.drewN | apply Ext.alloc | refine Ext.trans ?_ (by assumption))); first | done | fail)) x
      clear x
      have HZ := Kp.mk (Blk.new w2 25 #[.slice none 0 0, .slice none 0 0, .slice none 0 0])
      have HXR := Kp.mk (Ext.setRow (show Ext w (w2.alloc (.cells #[.slice none 0 0, .slice none 0 0, .slice none 0 0] 25)) from (by (repeat (first | assumption | exact Ext.refl _ | apply Ext.drew | apply Ext.drewN | apply Ext.alloc | refine Ext.trans ?_ (by assumption))); first | done | fail)) (show w.heap.size ≤ w2.heap.size from (show Ext w w2 from (by (repeat (first | assumption | exact Ext.refl _ | apply Ext.drew | apply Ext.drewN | apply Ext.alloc | refine Ext.trans ?_ (by assumption))); first | done | fail)).size) #[.slice none 0 0, .slice none 0 0, .slice none 0 0])
      have HR := Kp.mk (HZ.out.row #[.slice none 0 0, .slice none 0 0, .slice none 0 0])
      have HW := Kp.mk (Ext.setRow (show Ext w2 (w2.alloc (.cells #[.slice none 0 0, .slice none 0 0, .slice none 0 0] 25)) from (by (repeat (first | assumption | exact Ext.refl _ | apply Ext.drew | apply Ext.drewN | apply Ext.alloc | refine Ext.trans ?_ (by assumption))); first | done | fail)) (Nat.le_refl w2.heap.size) #[.slice none 0 0, .slice none 0 0, .slice none 0 0])
      obtain ⟨wz, hwz⟩ : ∃ wz, wz = (w2.alloc (.cells #[.slice none 0 0, .slice none 0 0, .slice none 0 0] 25)).setRow w2.heap.size #[.slice none 0 0, .slice none 0 0, .slice none 0 0] := ⟨_, rfl⟩
      have hb0 := box3 HR.out (Ext.refl _)
      rw [← hwz] at HR HW hb0
      obtain ⟨c0, c1, c2⟩ := hb0
      have xz := HW.out
      go_wp2_with (first | ((with_reducible refine at_store 8 42 ?_); refine wpList_store_row rfl 25 _ _ rfl w2.heap.size #[.slice none 0 0, .slice none 0 0, .slice none 0 0] rfl rfl 25 _ HZ.out.h szS rfl (one_three _ _ _ _ _ _ _ _ _) ?_; rw [← hwz]; clear hwz) | fail)
      refine (MayV (NN.out.ext (by (repeat (first | assumption | exact Ext.refl _ | apply Ext.drew | apply Ext.drewN | apply Ext.alloc | refine Ext.trans ?_ (by assumption))); first | done | fail)) false (by simp [H1.out])).mono ?_
      rintro e w3 ⟨rfl, x⟩
      have x3 := Ext.trans (show Ext wz _ from (by (repeat (first | assumption | exact Ext.refl _ | apply Ext.drew | apply Ext.drewN | apply Ext.alloc | refine Ext.trans ?_ (by assumption))); first | done | fail)) x
      clear x
      obtain ⟨c0, c1, c2⟩ := box3 HR.out (show Ext wz w3 from (by (repeat (first | assumption | exact Ext.refl _ | apply Ext.drew | apply Ext.drewN | apply Ext.alloc | refine Ext.trans ?_ (by assumption))); first | done | fail))
      have HX := Kp.mk (show Ext w w3 from (by (repeat (first | assumption | exact Ext.refl _ | apply Ext.drew | apply Ext.drewN | apply Ext.alloc | refine Ext.trans ?_ (by assumption))); first | done | fail))
      clear x1 x2 xz x3
      go_wp2_with fail
      go_ret
      exact ⟨rfl, HX.out.b⟩
    · have HL := Kp.mk h
      have H1 := Kp.mk h1
      have H2 := Kp.mk h2
      clear h h1 h2
      go_enter Try.func4, Try.ntmps4
      go_wp2_with fail
      refine (HU.out _).mono ?_
      rintro e w1 ⟨rfl, x⟩
      have x1 := x
      clear x
      go_wp2_with fail
      refine (Pair_long (NN.out.ext (by (repeat (first | assumption | exact Ext.refl _ | apply Ext.drew | apply Ext.drewN | apply Ext.alloc | refine Ext.trans ?_ (by assumption))); first | done | fail)) (NE.out.ext (by (repeat (first | assumption | exact Ext.refl _ | apply Ext.drew | apply Ext.drewN | apply Ext.alloc | refine Ext.trans ?_ (by assumption))); first | done | fail)) (ND.out.ext (by (repeat (first | assumption | exact Ext.refl _ | apply Ext.drew | apply Ext.drewN | apply Ext.alloc | refine Ext.trans ?_ (by assumption))); first | done | fail)) HL.out).mono ?_
      rintro e w2 ⟨rfl, x⟩
      have x2 := Ext.trans (show Ext w1 _ from (by (repeat (first | assumption | exact Ext.refl _ | apply Ext.drew | apply Ext.drewN | apply Ext.alloc | refine Ext.trans ?_ (by assumption))); first | done | fail)) x
      clear x
      have HZ := Kp.mk (Blk.new w2 25 #[.slice none 0 0, .slice none 0 0, .slice none 0 0])
      have HXR := Kp.mk (Ext.setRow (show Ext w (w2.alloc (.cells #[.slice none 0 0, .slice none 0 0, .slice none 0 0] 25)) from (by (repeat (first | assumption | exact Ext.refl _ | apply Ext.drew | apply Ext.drewN | apply Ext.alloc | refine Ext.trans ?_ (by assumption))); first | done | fail)) (show w.heap.size ≤ w2.heap.size from (show Ext w w2 from (by (repeat (first | assumption | exact Ext.refl _ | apply Ext.drew | apply Ext.drewN | apply Ext.alloc | refine Ext.trans ?_ (by assumption))); first | done | fail)).size) #[.slice none 0 0, .slice none 0 0, .slice none 0 0])
      have HR := Kp.mk (HZ.out.row #[.slice none 0 0, .slice none 0 0, .slice none 0 0])
      have HW := Kp.mk (Ext.setRow (show Ext w2 (w2.alloc (.cells #[.slice none 0 0, .slice none 0 0, .slice none 0 0] 25)) from (by (repeat (first | assumption | exact Ext.refl _ | apply Ext.drew | apply Ext.drewN | apply Ext.alloc | refine Ext.trans ?_ (by assumption))); first | done | fail)) (Nat.le_refl w2.heap.size) #[.slice none 0 0, .slice none 0 0, .slice none 0 0])
      obtain ⟨wz, hwz⟩ : ∃ wz, wz = (w2.alloc (.cells #[.slice none 0 0, .slice none 0 0, .slice none 0 0] 25)).setRow w2.heap.size #[.slice none 0 0, .slice none 0 0, .slice none 0 0] := ⟨_, rfl⟩
      have hb0 := box3 HR.out (Ext.refl _)
      rw [← hwz] at HR HW hb0
      obtain ⟨c0, c1, c2⟩ := hb0
      have xz := HW.out
      go_wp2_with (first | ((with_reducible refine at_store 8 42 ?_); refine wpList_store_row rfl 25 _ _ rfl w2.heap.size #[.slice none 0 0, .slice none 0 0, .slice none 0 0] rfl rfl 25 _ HZ.out.h szS rfl (one_three _ _ _ _ _ _ _ _ _) ?_; rw [← hwz]; clear hwz) | fail)
      refine (MayV (NN.out.ext (by (repeat (first | assumption | exact Ext.refl _ | apply Ext.drew | apply Ext.drewN | apply Ext.alloc | refine Ext.trans ?_ (by assumption))); first | done | fail)) true (by simp [H1.out])).mono ?_
      rintro e w3 ⟨rfl, x⟩
      have x3 := Ext.trans (show Ext wz _ from (by (repeat (first | assumption | exact Ext.refl _ | apply Ext.drew | apply Ext.drewN | apply Ext.alloc | refine Ext.trans ?_ (by assumption))); first | done | fail)) x
      clear x
      obtain ⟨c0, c1, c2⟩ := box3 HR.out (show Ext wz w3 from (by (repeat (first | assumption | exact Ext.refl _ | apply Ext.drew | apply Ext.drewN | apply Ext.alloc | refine Ext.trans ?_ (by assumption))); first | done | fail))
      go_wp2_with fail
      refine (MayV (NE.out.ext (by (repeat (first | assumption | exact Ext.refl _ | apply Ext.drew | apply Ext.drewN | apply Ext.alloc | refine Ext.trans ?_ (by assumption))); first | done | fail)) false (by simp [H2.out])).mono ?_
      rintro e w4 ⟨rfl, x⟩
      have x4 := Ext.trans (show Ext w3 _ from (by (repeat (first | assumption | exact Ext.refl _ | apply Ext.drew | apply Ext.drewN | apply Ext.alloc | refine Ext.trans ?_ (by assumption))); first | done | fail)) x
      clear x
      obtain ⟨c0, c1, c2⟩ := box3 HR.out (show Ext wz w4 from (by (repeat (first | assumption | exact Ext.refl _ | apply Ext.drew | apply Ext.drewN | apply Ext.alloc | refine Ext.trans ?_ (by assumption))); first | done | fail))
      have HX := Kp.mk (show Ext w w4 from (by (repeat (first | assumption | exact Ext.refl _ | apply Ext.drew | apply Ext.drewN | apply Ext.alloc | refine Ext.trans ?_ (by assumption))); first | done | fail))
      clear x1 x2 xz x3 x4
      go_wp2_with fail
      go_ret
      exact ⟨rfl, HX.out.b⟩
    · have HL := Kp.mk h
      have H1 := Kp.mk h1
      have H2 := Kp.mk h2
      have H3 := Kp.mk h3
      clear h h1 h2 h3
      go_enter Try.func4, Try.ntmps4
      go_wp2_with fail
      refine (HU.out _).mono ?_
      rintro e w1 ⟨rfl, x⟩
      have x1 := x
      clear x
      go_wp2_with fail
      refine (Pair_long (NN.out.ext (by (repeat (first | assumption | exact Ext.refl _ | apply Ext.drew | apply Ext.drewN | apply Ext.alloc | refine Ext.trans ?_ (by assumption))); first | done | fail)) (NE.out.ext (by (repeat (first | assumption | exact Ext.refl _ | apply Ext.drew | apply Ext.drewN | apply Ext.alloc | refine Ext.trans ?_ (by assumption))); first | done | fail)) (ND.out.ext (by (repeat (first | assumption | exact Ext.refl _ | apply Ext.drew | apply Ext.drewN | apply Ext.alloc | refine Ext.trans ?_ (by assumption))); first | done | fail)) HL.out).mono ?_
      rintro e w2 ⟨rfl, x⟩
      have x2 := Ext.trans (show Ext w1 _ from (by (repeat (first | assumption | exact Ext.refl _ | apply Ext.drew | apply Ext.drewN | apply Ext.alloc | refine Ext.trans ?_ (by assumption))); first | done | fail)) x
      clear x
      have HZ := Kp.mk (Blk.new w2 25 #[.slice none 0 0, .slice none 0 0, .slice none 0 0])
      have HXR := Kp.mk (Ext.setRow (show Ext w (w2.alloc (.cells #[.slice none 0 0, .slice none 0 0, .slice none 0 0] 25)) from (by (repeat (first | assumption | exact Ext.refl _ | apply Ext.drew | apply Ext.drewN | apply Ext.alloc | refine Ext.trans ?_ (by assumption))); first | done | fail)) (show w.heap.size ≤ w2.heap.size from (show Ext w w2 from (by (repeat (first | assumption | exact Ext.refl _ | apply Ext.drew | apply Ext.drewN | apply Ext.alloc | refine Ext.trans ?_ (by assumption))); first | done | fail)).size) #[.slice none 0 0, .slice none 0 0, .slice none 0 0])
      have HR := Kp.mk (HZ.out.row #[.slice none 0 0, .slice none 0 0, .slice none 0 0])
      have HW := Kp.mk (Ext.setRow (show Ext w2 (w2.alloc (.cells #[.slice none 0 0, .slice none 0 0, .slice none 0 0] 25)) from (by (repeat (first | assumption | exact Ext.refl _ | apply Ext.drew | apply Ext.drewN | apply Ext.alloc | refine Ext.trans ?_ (by assumption))); first | done | fail)) (Nat.le_refl w2.heap.size) #[.slice none 0 0, .slice none 0 0, .slice none 0 0])
      obtain ⟨wz, hwz⟩ : ∃ wz, wz = (w2.alloc (.cells #[.slice none 0 0, .slice none 0 0, .slice none 0 0] 25)).setRow w2.heap.size #[.slice none 0 0, .slice none 0 0, .slice none 0 0] := ⟨_, rfl⟩
      have hb0 := box3 HR.out (Ext.refl _)
      rw [← hwz] at HR HW hb0
      obtain ⟨c0, c1, c2⟩ := hb0
      have xz := HW.out
      go_wp2_with (first | ((with_reducible refine at_store 8 42 ?_); refine wpList_store_row rfl 25 _ _ rfl w2.heap.size #[.slice none 0 0, .slice none 0 0, .slice none 0 0] rfl rfl 25 _ HZ.out.h szS rfl (one_three _ _ _ _ _ _ _ _ _) ?_; rw [← hwz]; clear hwz) | fail)
      refine (MayV (NN.out.ext (by (repeat (first | assumption | exact Ext.refl _ | apply Ext.drew | apply Ext.drewN | apply Ext.alloc | refine Ext.trans ?_ (by assumption))); first | done | fail)) true (by simp [H1.out])).mono ?_
      rintro e w3 ⟨rfl, x⟩
      have x3 := Ext.trans (show Ext wz _ from (by (repeat (first | assumption | exact Ext.refl _ | apply Ext.drew | apply Ext.drewN | apply Ext.alloc | refine Ext.trans ?_ (by assumption))); first | done | fail)) x
      clear x
      obtain ⟨c0, c1, c2⟩ := box3 HR.out (show Ext wz w3 from (by (repeat (first | assumption | exact Ext.refl _ | apply Ext.drew | apply Ext.drewN | apply Ext.alloc | refine Ext.trans ?_ (by assumption))); first | done | fail))
      go_wp2_with fail
      refine (MayV (NE.out.ext (by (repeat (first | assumption | exact Ext.refl _ | apply Ext.drew | apply Ext.drewN | apply Ext.alloc | refine Ext.trans ?_ (by assumption))); first | done | fail)) true (by simp [H2.out])).mono ?_
      rintro e w4 ⟨rfl, x⟩
      have x4 := Ext.trans (show Ext w3 _ from (by (repeat (first | assumption | exact Ext.refl _ | apply Ext.drew | apply Ext.drewN | apply Ext.alloc | refine Ext.trans ?_ (by assumption))); first | done | fail)) x
      clear x
      obtain ⟨c0, c1, c2⟩ := box3 HR.out (show Ext wz w4 from (by (repeat (first | assumption | exact Ext.refl _ | apply Ext.drew | apply Ext.drewN | apply Ext.alloc | refine Ext.trans ?_ (by assumption))); first | done | fail))
      go_wp2_with fail
      refine (MayV (ND.out.ext (by (repeat (first | assumption | exact Ext.refl _ | apply Ext.drew | apply Ext.drewN | apply Ext.alloc | refine Ext.trans ?_ (by assumption))); first | done | fail)) false (by simp [H3.out])).mono ?_
      rintro e w5 ⟨rfl, x⟩
      have x5 := Ext.trans (show Ext w4 _ from (by (repeat (first | assumption | exact Ext.refl _ | apply Ext.drew | apply Ext.drewN | apply Ext.alloc | refine Ext.trans ?_ (by assumption))); first | done | fail)) x
      clear x
      obtain ⟨c0, c1, c2⟩ := box3 HR.out (show Ext wz w5 from (by (repeat (first | assumption | exact Ext.refl _ | apply Ext.drew | apply Ext.drewN | apply Ext.alloc | refine Ext.trans ?_ (by assumption))); first | done | fail))
      have HX := Kp.mk (show Ext w w5 from (by (repeat (first | assumption | exact Ext.refl _ | apply Ext.drew | apply Ext.drewN | apply Ext.alloc | refine Ext.trans ?_ (by assumption))); first | done | fail))
      clear x1 x2 xz x3 x4 x5
      go_wp2_with fail
      go_ret
      exact ⟨rfl, HX.out.b⟩
    · have H1 := Kp.mk s1
      have H2 := Kp.mk s2
      have H3 := Kp.mk s3
      have HF := Kp.mk h
      have Z1 := Kp.mk (cmpI_lt h1)
      clear s1 s2 s3 h h1
      go_enter Try.func4, Try.ntmps4
      go_wp2_with fail
      refine (HU.out _).mono ?_
      rintro e w1 ⟨rfl, x⟩
      have x1 := x
      clear x
      go_wp2_with fail
      refine (Pair_fac (NN.out.ext (by (repeat (first | assumption | exact Ext.refl _ | apply Ext.drew | apply Ext.drewN | apply Ext.alloc | refine Ext.trans ?_ (by assumption))); first | done | fail)) (NE.out.ext (by (repeat (first | assumption | exact Ext.refl _ | apply Ext.drew | apply Ext.drewN | apply Ext.alloc | refine Ext.trans ?_ (by assumption))); first | done | fail)) (ND.out.ext (by (repeat (first | assumption | exact Ext.refl _ | apply Ext.drew | apply Ext.drewN | apply Ext.alloc | refine Ext.trans ?_ (by assumption))); first | done | fail)) H1.out H2.out H3.out HF.out).mono ?_
      rintro e w2 ⟨rfl, x⟩
      have x2 := Ext.trans (show Ext w1 _ from (by (repeat (first | assumption | exact Ext.refl _ | apply Ext.drew | apply Ext.drewN | apply Ext.alloc | refine Ext.trans ?_ (by assumption))); first | done | fail)) x
      clear x
      have HZ := Kp.mk (Blk.new w2 25 #[.slice none 0 0, .slice none 0 0, .slice none 0 0])
      have HXR := Kp.mk (Ext.setRow (show Ext w (w2.alloc (.cells #[.slice none 0 0, .slice none 0 0, .slice none 0 0] 25)) from (by (repeat (first | assumption | exact Ext.refl _ | apply Ext.drew | apply Ext.drewN | apply Ext.alloc | refine Ext.trans ?_ (by assumption))); first | done | fail)) (show w.heap.size ≤ w2.heap.size from (show Ext w w2 from (by (repeat (first | assumption | exact Ext.refl _ | apply Ext.drew | apply Ext.drewN | apply Ext.alloc | refine Ext.trans ?_ (by assumption))); first | done | fail)).size) #[.slice none 0 0, .slice none 0 0, .slice none 0 0])
      have HR := Kp.mk (HZ.out.row #[.slice none 0 0, .slice none 0 0, .slice none 0 0])
      have HW := Kp.mk (Ext.setRow (show Ext w2 (w2.alloc (.cells #[.slice none 0 0, .slice none 0 0, .slice none 0 0] 25)) from (by (repeat (first | assumption | exact Ext.refl _ | apply Ext.drew | apply Ext.drewN | apply Ext.alloc | refine Ext.trans ?_ (by assumption))); first | done | fail)) (Nat.le_refl w2.heap.size) #[.slice none 0 0, .slice none 0 0, .slice none 0 0])
      obtain ⟨wz, hwz⟩ : ∃ wz, wz = (w2.alloc (.cells #[.slice none 0 0, .slice none 0 0, .slice none 0 0] 25)).setRow w2.heap.size #[.slice none 0 0, .slice none 0 0, .slice none 0 0] := ⟨_, rfl⟩
      have hb0 := box3 HR.out (Ext.refl _)
      rw [← hwz] at HR HW hb0
      obtain ⟨c0, c1, c2⟩ := hb0
      have xz := HW.out
      go_wp2_with (first | ((with_reducible refine at_store 8 42 ?_); refine wpList_store_row rfl 25 _ _ rfl w2.heap.size #[.slice none 0 0, .slice none 0 0, .slice none 0 0] rfl rfl 25 _ HZ.out.h szS rfl (one_three _ _ _ _ _ _ _ _ _) ?_; rw [← hwz]; clear hwz) | fail)
      refine (MayV (NN.out.ext (by (repeat (first | assumption | exact Ext.refl _ | apply Ext.drew | apply Ext.drewN | apply Ext.alloc | refine Ext.trans ?_ (by assumption))); first | done | fail)) true (by simp [H1.out])).mono ?_
      rintro e w3 ⟨rfl, x⟩
      have x3 := Ext.trans (show Ext wz _ from (by (repeat (first | assumption | exact Ext.refl _ | apply Ext.drew | apply Ext.drewN | apply Ext.alloc | refine Ext.trans ?_ (by assumption))); first | done | fail)) x
      clear x
      obtain ⟨c0, c1, c2⟩ := box3 HR.out (show Ext wz w3 from (by (repeat (first | assumption | exact Ext.refl _ | apply Ext.drew | apply Ext.drewN | apply Ext.alloc | refine Ext.trans ?_ (by assumption))); first | done | fail))
      go_wp2_with fail
      refine (MayV (NE.out.ext (by (repeat (first | assumption | exact Ext.refl _ | apply Ext.drew | apply Ext.drewN | apply Ext.alloc | refine Ext.trans ?_ (by assumption))); first | done | fail)) true (by simp [H2.out])).mono ?_
      rintro e w4 ⟨rfl, x⟩
      have x4 := Ext.trans (show Ext w3 _ from (by (repeat (first | assumption | exact Ext.refl _ | apply Ext.drew | apply Ext.drewN | apply Ext.alloc | refine Ext.trans ?_ (by assumption))); first | done | fail)) x
      clear x
      obtain ⟨c0, c1, c2⟩ := box3 HR.out (show Ext wz w4 from (by (repeat (first | assumption | exact Ext.refl _ | apply Ext.drew | apply Ext.drewN | apply Ext.alloc | refine Ext.trans ?_ (by assumption))); first | done | fail))
      go_wp2_with fail
      refine (MayV (ND.out.ext (by (repeat (first | assumption | exact Ext.refl _ | apply Ext.drew | apply Ext.drewN | apply Ext.alloc | refine Ext.trans ?_ (by assumption))); first | done | fail)) true (by simp [H3.out])).mono ?_
      rintro e w5 ⟨rfl, x⟩
      have x5 := Ext.trans (show Ext w4 _ from (by (repeat (first | assumption | exact Ext.refl _ | apply Ext.drew | apply Ext.drewN | apply Ext.alloc | refine Ext.trans ?_ (by assumption))); first | done | fail)) x
      clear x
      obtain ⟨c0, c1, c2⟩ := box3 HR.out (show Ext wz w5 from (by (repeat (first | assumption | exact Ext.refl _ | apply Ext.drew | apply Ext.drewN | apply Ext.alloc | refine Ext.trans ?_ (by assumption))); first | done | fail))
      go_wp2_with fail
      refine (OfV (NN.out.ext (by (repeat (first | assumption | exact Ext.refl _ | apply Ext.drew | apply Ext.drewN | apply Ext.alloc | refine Ext.trans ?_ (by assumption))); first | done | fail))).mono ?_
      rintro e w6 ⟨AN, nN', eN, rfl, rN, _, x⟩
      have x6 := Ext.trans (show Ext w5 _ from (by (repeat (first | assumption | exact Ext.refl _ | apply Ext.drew | apply Ext.drewN | apply Ext.alloc | refine Ext.trans ?_ (by assumption))); first | done | fail)) x
      clear x
      have IN := Kp.mk rN
      have JN := Kp.mk (Ni.of rN bN.out (by decide))
      have qN : nN' ≤ 800 := by have h1 := len16 bN.out; have h2 := rN.len; omega
      clear rN
      go_wp2_with fail
      refine (OfV (NE.out.ext (by (repeat (first | assumption | exact Ext.refl _ | apply Ext.drew | apply Ext.drewN | apply Ext.alloc | refine Ext.trans ?_ (by assumption))); first | done | fail))).mono ?_
      rintro e w7 ⟨AE, nE', eE, rfl, rE, _, x⟩
      have x7 := Ext.trans (show Ext w6 _ from (by (repeat (first | assumption | exact Ext.refl _ | apply Ext.drew | apply Ext.drewN | apply Ext.alloc | refine Ext.trans ?_ (by assumption))); first | done | fail)) x
      clear x
      have IE := Kp.mk rE
      have JE := Kp.mk (Ni.of rE bE.out (by decide))
      have qE : nE' ≤ 800 := by have h1 := len16 bE.out; have h2 := rE.len; omega
      clear rE
      go_wp2_with fail
      refine (OfV (ND.out.ext (by (repeat (first | assumption | exact Ext.refl _ | apply Ext.drew | apply Ext.drewN | apply Ext.alloc | refine Ext.trans ?_ (by assumption))); first | done | fail))).mono ?_
      rintro e w8 ⟨AD, nD', eD, rfl, rD, _, x⟩
      have x8 := Ext.trans (show Ext w7 _ from (by (repeat (first | assumption | exact Ext.refl _ | apply Ext.drew | apply Ext.drewN | apply Ext.alloc | refine Ext.trans ?_ (by assumption))); first | done | fail)) x
      clear x
      have ID := Kp.mk rD
      have JD := Kp.mk (Ni.of rD bD.out (by decide))
      have qD : nD' ≤ 800 := by have h1 := len16 bD.out; have h2 := rD.len; omega
      clear rD
      go_wp2_with fail
      have T3 := Kp.mk (lit_ni w8 3 3 rfl (by decide) (by decide))
      have y3 := (show Ext w8 (w8.alloc (.cells #[.int .i64 3] it)) from (by (repeat (first | assumption | exact Ext.refl _ | apply Ext.drew | apply Ext.drewN | apply Ext.alloc | refine Ext.trans ?_ (by assumption))); first | done | fail))
      generalize w8.heap.size = g3 at T3 ⊢
      generalize w8.alloc (.cells #[.int .i64 3] it) = wt at *
      obtain ⟨c0, c1, c2⟩ := box3 HR.out (show Ext wz wt from (by (repeat (first | assumption | exact Ext.refl _ | apply Ext.drew | apply Ext.drewN | apply Ext.alloc | refine Ext.trans ?_ (by assumption))); first | done | fail))
      go_wp2_with fail
      refine (RCmpV (JN.out.ext (by (repeat (first | assumption | exact Ext.refl _ | apply Ext.drew | apply Ext.drewN | apply Ext.alloc | refine Ext.trans ?_ (by assumption))); first | done | fail)) (T3.out.ext (by (repeat (first | assumption | exact Ext.refl _ | apply Ext.drew | apply Ext.drewN | apply Ext.alloc | refine Ext.trans ?_ (by assumption))); first | done | fail)) _ Z1.out).mono ?_
      rintro e w9 ⟨rfl, x⟩
      have x9 := Ext.trans (show Ext wt _ from (by (repeat (first | assumption | exact Ext.refl _ | apply Ext.drew | apply Ext.drewN | apply Ext.alloc | refine Ext.trans ?_ (by assumption))); first | done | fail)) x
      clear x
      obtain ⟨c0, c1, c2⟩ := box3 HR.out (show Ext wz w9 from (by (repeat (first | assumption | exact Ext.refl _ | apply Ext.drew | apply Ext.drewN | apply Ext.alloc | refine Ext.trans ?_ (by assumption))); first | done | fail))
      have HX := Kp.mk (show Ext w w9 from (by (repeat (first | assumption | exact Ext.refl _ | apply Ext.drew | apply Ext.drewN | apply Ext.alloc | refine Ext.trans ?_ (by assumption))); first | done | fail))
      clear x1 x2 xz x3 x4 x5 x6 x7 x8 y3 x9
      go_wp2_with fail
      go_ret
      exact ⟨rfl, HX.out.b⟩
    · have H1 := Kp.mk s1
      have H2 := Kp.mk s2
      have H3 := Kp.mk s3
      have HF := Kp.mk h
      obtain ⟨z, hz, z1⟩ := cmpI_no h1
      have Z1 := Kp.mk hz
      clear hz
      have Z2 := Kp.mk (cmpI_lt h2)
      clear s1 s2 s3 h h1 h2
      go_enter Try.func4, Try.ntmps4
      go_wp2_with fail
      refine (HU.out _).mono ?_
      rintro e w1 ⟨rfl, x⟩
      have x1 := x
      clear x
      go_wp2_with fail
      refine (Pair_fac (NN.out.ext (by (repeat (first | assumption | exact Ext.refl _ | apply Ext.drew | apply Ext.drewN | apply Ext.alloc | refine Ext.trans ?_ (by assumption))); first | done | fail)) (NE.out.ext (by (repeat (first | assumption | exact Ext.refl _ | apply Ext.drew | apply Ext.drewN | apply Ext.alloc | refine Ext.trans ?_ (by assumption))); first | done | fail)) (ND.out.ext (by (repeat (first | assumption | exact Ext.refl _ | apply Ext.drew | apply Ext.drewN | apply Ext.alloc | refine Ext.trans ?_ (by assumption))); first | done | fail)) H1.out H2.out H3.out HF.out).mono ?_
      rintro e w2 ⟨rfl, x⟩
      have x2 := Ext.trans (show Ext w1 _ from (by (repeat (first | assumption | exact Ext.refl _ | apply Ext.drew | apply Ext.drewN | apply Ext.alloc | refine Ext.trans ?_ (by assumption))); first | done | fail)) x
      clear x
      have HZ := Kp.mk (Blk.new w2 25 #[.slice none 0 0, .slice none 0 0, .slice none 0 0])
      have HXR := Kp.mk (Ext.setRow (show Ext w (w2.alloc (.cells #[.slice none 0 0, .slice none 0 0, .slice none 0 0] 25)) from (by (repeat (first | assumption | exact Ext.refl _ | apply Ext.drew | apply Ext.drewN | apply Ext.alloc | refine Ext.trans ?_ (by assumption))); first | done | fail)) (show w.heap.size ≤ w2.heap.size from (show Ext w w2 from (by (repeat (first | assumption | exact Ext.refl _ | apply Ext.drew | apply Ext.drewN | apply Ext.alloc | refine Ext.trans ?_ (by assumption))); first | done | fail)).size) #[.slice none 0 0, .slice none 0 0, .slice none 0 0])
      have HR := Kp.mk (HZ.out.row #[.slice none 0 0, .slice none 0 0, .slice none 0 0])
      have HW := Kp.mk (Ext.setRow (show Ext w2 (w2.alloc (.cells #[.slice none 0 0, .slice none 0 0, .slice none 0 0] 25)) from (by (repeat (first | assumption | exact Ext.refl _ | apply Ext.drew | apply Ext.drewN | apply Ext.alloc | refine Ext.trans ?_ (by assumption))); first | done | fail)) (Nat.le_refl w2.heap.size) #[.slice none 0 0, .slice none 0 0, .slice none 0 0])
      obtain ⟨wz, hwz⟩ : ∃ wz, wz = (w2.alloc (.cells #[.slice none 0 0, .slice none 0 0, .slice none 0 0] 25)).setRow w2.heap.size #[.slice none 0 0, .slice none 0 0, .slice none 0 0] := ⟨_, rfl⟩
      have hb0 := box3 HR.out (Ext.refl _)
      rw [← hwz] at HR HW hb0
      obtain ⟨c0, c1, c2⟩ := hb0
      have xz := HW.out
      go_wp2_with (first | ((with_reducible refine at_store 8 42 ?_); refine wpList_store_row rfl 25 _ _ rfl w2.heap.size #[.slice none 0 0, .slice none 0 0, .slice none 0 0] rfl rfl 25 _ HZ.out.h szS rfl (one_three _ _ _ _ _ _ _ _ _) ?_; rw [← hwz]; clear hwz) | fail)
      refine (MayV (NN.out.ext (by (repeat (first | assumption | exact Ext.refl _ | apply Ext.drew | apply Ext.drewN | apply Ext.alloc | refine Ext.trans ?_ (by assumption))); first | done | fail)) true (by simp [H1.out])).mono ?_
      rintro e w3 ⟨rfl, x⟩
      have x3 := Ext.trans (show Ext wz _ from (by (repeat (first | assumption | exact Ext.refl _ | apply Ext.drew | apply Ext.drewN | apply Ext.alloc | refine Ext.trans ?_ (by assumption))); first | done | fail)) x
      clear x
      obtain ⟨c0, c1, c2⟩ := box3 HR.out (show Ext wz w3 from (by (repeat (first | assumption | exact Ext.refl _ | apply Ext.drew | apply Ext.drewN | apply Ext.alloc | refine Ext.trans ?_ (by assumption))); first | done | fail))
      go_wp2_with fail
      refine (MayV (NE.out.ext (by (repeat (first | assumption | exact Ext.refl _ | apply Ext.drew | apply Ext.drewN | apply Ext.alloc | refine Ext.trans ?_ (by assumption))); first | done | fail)) true (by simp [H2.out])).mono ?_
      rintro e w4 ⟨rfl, x⟩
      have x4 := Ext.trans (show Ext w3 _ from (by (repeat (first | assumption | exact Ext.refl _ | apply Ext.drew | apply Ext.drewN | apply Ext.alloc | refine Ext.trans ?_ (by assumption))); first | done | fail)) x
      clear x
      obtain ⟨c0, c1, c2⟩ := box3 HR.out (show Ext wz w4 from (by (repeat (first | assumption | exact Ext.refl _ | apply Ext.drew | apply Ext.drewN | apply Ext.alloc | refine Ext.trans ?_ (by assumption))); first | done | fail))
      go_wp2_with fail
      refine (MayV (ND.out.ext (by (repeat (first | assumption | exact Ext.refl _ | apply Ext.drew | apply Ext.drewN | apply Ext.alloc | refine Ext.trans ?_ (by assumption))); first | done | fail)) true (by simp [H3.out])).mono ?_
      rintro e w5 ⟨rfl, x⟩
      have x5 := Ext.trans (show Ext w4 _ from (by (repeat (first | assumption | exact Ext.refl _ | apply Ext.drew | apply Ext.drewN | apply Ext.alloc | refine Ext.trans ?_ (by assumption))); first | done | fail)) x
      clear x
      obtain ⟨c0, c1, c2⟩ := box3 HR.out (show Ext wz w5 from (by (repeat (first | assumption | exact Ext.refl _ | apply Ext.drew | apply Ext.drewN | apply Ext.alloc | refine Ext.trans ?_ (by assumption))); first | done | fail))
      go_wp2_with fail
      refine (OfV (NN.out.ext (by (repeat (first | assumption | exact Ext.refl _ | apply Ext.drew | apply Ext.drewN | apply Ext.alloc | refine Ext.trans ?_ (by assumption))); first | done | fail))).mono ?_
      rintro e w6 ⟨AN, nN', eN, rfl, rN, _, x⟩
      have x6 := Ext.trans (show Ext w5 _ from (by (repeat (first | assumption | exact Ext.refl _ | apply Ext.drew | apply Ext.drewN | apply Ext.alloc | refine Ext.trans ?_ (by assumption))); first | done | fail)) x
      clear x
      have IN := Kp.mk rN
      have JN := Kp.mk (Ni.of rN bN.out (by decide))
      have qN : nN' ≤ 800 := by have h1 := len16 bN.out; have h2 := rN.len; omega
      clear rN
      go_wp2_with fail
      refine (OfV (NE.out.ext (by (repeat (first | assumption | exact Ext.refl _ | apply Ext.drew | apply Ext.drewN | apply Ext.alloc | refine Ext.trans ?_ (by assumption))); first | done | fail))).mono ?_
      rintro e w7 ⟨AE, nE', eE, rfl, rE, _, x⟩
      have x7 := Ext.trans (show Ext w6 _ from (by (repeat (first | assumption | exact Ext.refl _ | apply Ext.drew | apply Ext.drewN | apply Ext.alloc | refine Ext.trans ?_ (by assumption))); first | done | fail)) x
      clear x
      have IE := Kp.mk rE
      have JE := Kp.mk (Ni.of rE bE.out (by decide))
      have qE : nE' ≤ 800 := by have h1 := len16 bE.out; have h2 := rE.len; omega
      clear rE
      go_wp2_with fail
      refine (OfV (ND.out.ext (by (repeat (first | assumption | exact Ext.refl _ | apply Ext.drew | apply Ext.drewN | apply Ext.alloc | refine Ext.trans ?_ (by assumption))); first | done | fail))).mono ?_
      rintro e w8 ⟨AD, nD', eD, rfl, rD, _, x⟩
      have x8 := Ext.trans (show Ext w7 _ from (by (repeat (first | assumption | exact Ext.refl _ | apply Ext.drew | apply Ext.drewN | apply Ext.alloc | refine Ext.trans ?_ (by assumption))); first | done | fail)) x
      clear x
      have ID := Kp.mk rD
      have JD := Kp.mk (Ni.of rD bD.out (by decide))
      have qD : nD' ≤ 800 := by have h1 := len16 bD.out; have h2 := rD.len; omega
      clear rD
      go_wp2_with fail
      have T3 := Kp.mk (lit_ni w8 3 3 rfl (by decide) (by decide))
      have y3 := (show Ext w8 (w8.alloc (.cells #[.int .i64 3] it)) from (by (repeat (first | assumption | exact Ext.refl _ | apply Ext.drew | apply Ext.drewN | apply Ext.alloc | refine Ext.trans ?_ (by assumption))); first | done | fail))
      generalize w8.heap.size = g3 at T3 ⊢
      generalize w8.alloc (.cells #[.int .i64 3] it) = wt at *
      obtain ⟨c0, c1, c2⟩ := box3 HR.out (show Ext wz wt from (by (repeat (first | assumption | exact Ext.refl _ | apply Ext.drew | apply Ext.drewN | apply Ext.alloc | refine Ext.trans ?_ (by assumption))); first | done | fail))
      go_wp2_with fail
      refine (RCmpV (JN.out.ext (by (repeat (first | assumption | exact Ext.refl _ | apply Ext.drew | apply Ext.drewN | apply Ext.alloc | refine Ext.trans ?_ (by assumption))); first | done | fail)) (T3.out.ext (by (repeat (first | assumption | exact Ext.refl _ | apply Ext.drew | apply Ext.drewN | apply Ext.alloc | refine Ext.trans ?_ (by assumption))); first | done | fail)) _ Z1.out).mono ?_
      rintro e w9 ⟨rfl, x⟩
      have x9 := Ext.trans (show Ext wt _ from (by (repeat (first | assumption | exact Ext.refl _ | apply Ext.drew | apply Ext.drewN | apply Ext.alloc | refine Ext.trans ?_ (by assumption))); first | done | fail)) x
      clear x
      obtain ⟨c0, c1, c2⟩ := box3 HR.out (show Ext wz w9 from (by (repeat (first | assumption | exact Ext.refl _ | apply Ext.drew | apply Ext.drewN | apply Ext.alloc | refine Ext.trans ?_ (by assumption))); first | done | fail))
      go_wp2_with fail
      refine (RCmpV (JE.out.ext (by (repeat (first | assumption | exact Ext.refl _ | apply Ext.drew | apply Ext.drewN | apply Ext.alloc | refine Ext.trans ?_ (by assumption))); first | done | fail)) (T3.out.ext (by (repeat (first | assumption | exact Ext.refl _ | apply Ext.drew | apply Ext.drewN | apply Ext.alloc | refine Ext.trans ?_ (by assumption))); first | done | fail)) _ Z2.out).mono ?_
      rintro e w10 ⟨rfl, x⟩
      have x10 := Ext.trans (show Ext w9 _ from (by (repeat (first | assumption | exact Ext.refl _ | apply Ext.drew | apply Ext.drewN | apply Ext.alloc | refine Ext.trans ?_ (by assumption))); first | done | fail)) x
      clear x
      obtain ⟨c0, c1, c2⟩ := box3 HR.out (show Ext wz w10 from (by (repeat (first | assumption | exact Ext.refl _ | apply Ext.drew | apply Ext.drewN | apply Ext.alloc | refine Ext.trans ?_ (by assumption))); first | done | fail))
      have HX := Kp.mk (show Ext w w10 from (by (repeat (first | assumption | exact Ext.refl _ | apply Ext.drew | apply Ext.drewN | apply Ext.alloc | refine Ext.trans ?_ (by assumption))); first | done | fail))
      clear x1 x2 xz x3 x4 x5 x6 x7 x8 y3 x9 x10
      go_wp2_with fail
      go_ret
      exact ⟨rfl, HX.out.b⟩
    · have H1 := Kp.mk s1
      have H2 := Kp.mk s2
      have H3 := Kp.mk s3
      have HF := Kp.mk h
      obtain ⟨z, hz, z1⟩ := cmpI_no h1
      have Z1 := Kp.mk hz
      clear hz
      obtain ⟨y, hy, y1⟩ := cmpI_no h2
      have Z2 := Kp.mk hy
      clear hy
      obtain ⟨P, hP⟩ : ∃ P, nb vN = P := ⟨_, rfl⟩
      have SP := Kp.mk hP
      rw [hP] at h3
      have p1 : (64 : Int) < (P : Int) := by omega
      have p2 : 64 < P := by omega
      clear s1 s2 s3 h h1 h2 h3 hP
      go_enter Try.func4, Try.ntmps4
      go_wp2_with fail
      refine (HU.out _).mono ?_
      rintro e w1 ⟨rfl, x⟩
      have x1 := x
      clear x
      go_wp2_with fail
      refine (Pair_fac (NN.out.ext (by (repeat (first | assumption | exact Ext.refl _ | apply Ext.drew | apply Ext.drewN | apply Ext.alloc | refine Ext.trans ?_ (by assumption))); first | done | fail)) (NE.out.ext (by (repeat (first | assumption | exact Ext.refl _ | apply Ext.drew | apply Ext.drewN | apply Ext.alloc | refine Ext.trans ?_ (by assumption))); first | done | fail)) (ND.out.ext (by (repeat (first | assumption | exact Ext.refl _ | apply Ext.drew | apply Ext.drewN | apply Ext.alloc | refine Ext.trans ?_ (by assumption))); first | done | fail)) H1.out H2.out H3.out HF.out).mono ?_
      rintro e w2 ⟨rfl, x⟩
      have x2 := Ext.trans (show Ext w1 _ from (by (repeat (first | assumption | exact Ext.refl _ | apply Ext.drew | apply Ext.drewN | apply Ext.alloc | refine Ext.trans ?_ (by assumption))); first | done | fail)) x
      clear x
      have HZ := Kp.mk (Blk.new w2 25 #[.slice none 0 0, .slice none 0 0, .slice none 0 0])
      have HXR := Kp.mk (Ext.setRow (show Ext w (w2.alloc (.cells #[.slice none 0 0, .slice none 0 0, .slice none 0 0] 25)) from (by (repeat (first | assumption | exact Ext.refl _ | apply Ext.drew | apply Ext.drewN | apply Ext.alloc | refine Ext.trans ?_ (by assumption))); first | done | fail)) (show w.heap.size ≤ w2.heap.size from (show Ext w w2 from (by (repeat (first | assumption | exact Ext.refl _ | apply Ext.drew | apply Ext.drewN | apply Ext.alloc | refine Ext.trans ?_ (by assumption))); first | done | fail)).size) #[.slice none 0 0, .slice none 0 0, .slice none 0 0])
      have HR := Kp.mk (HZ.out.row #[.slice none 0 0, .slice none 0 0, .slice none 0 0])
      have HW := Kp.mk (Ext.setRow (show Ext w2 (w2.alloc (.cells #[.slice none 0 0, .slice none 0 0, .slice none 0 0] 25)) from (by (repeat (first | assumption | exact Ext.refl _ | apply Ext.drew | apply Ext.drewN | apply Ext.alloc | refine Ext.trans ?_ (by assumption))); first | done | fail)) (Nat.le_refl w2.heap.size) #[.slice none 0 0, .slice none 0 0, .slice none 0 0])
      obtain ⟨wz, hwz⟩ : ∃ wz, wz = (w2.alloc (.cells #[.slice none 0 0, .slice none 0 0, .slice none 0 0] 25)).setRow w2.heap.size #[.slice none 0 0, .slice none 0 0, .slice none 0 0] := ⟨_, rfl⟩
      have hb0 := box3 HR.out (Ext.refl _)
      rw [← hwz] at HR HW hb0
      obtain ⟨c0, c1, c2⟩ := hb0
      have xz := HW.out
      go_wp2_with (first | ((with_reducible refine at_store 8 42 ?_); refine wpList_store_row rfl 25 _ _ rfl w2.heap.size #[.slice none 0 0, .slice none 0 0, .slice none 0 0] rfl rfl 25 _ HZ.out.h szS rfl (one_three _ _ _ _ _ _ _ _ _) ?_; rw [← hwz]; clear hwz) | fail)
      refine (MayV (NN.out.ext (by (repeat (first | assumption | exact Ext.refl _ | apply Ext.drew | apply Ext.drewN | apply Ext.alloc | refine Ext.trans ?_ (by assumption))); first | done | fail)) true (by simp [H1.out])).mono ?_
      rintro e w3 ⟨rfl, x⟩
      have x3 := Ext.trans (show Ext wz _ from (by (repeat (first | assumption | exact Ext.refl _ | apply Ext.drew | apply Ext.drewN | apply Ext.alloc | refine Ext.trans ?_ (by assumption))); first | done | fail)) x
      clear x
      obtain ⟨c0, c1, c2⟩ := box3 HR.out (show Ext wz w3 from (by (repeat (first | assumption | exact Ext.refl _ | apply Ext.drew | apply Ext.drewN | apply Ext.alloc | refine Ext.trans ?_ (by assumption))); first | done | fail))
      go_wp2_with fail
      refine (MayV (NE.out.ext (by (repeat (first | assumption | exact Ext.refl _ | apply Ext.drew | apply Ext.drewN | apply Ext.alloc | refine Ext.trans ?_ (by assumption))); first | done | fail)) true (by simp [H2.out])).mono ?_
      rintro e w4 ⟨rfl, x⟩
      have x4 := Ext.trans (show Ext w3 _ from (by (repeat (first | assumption | exact Ext.refl _ | apply Ext.drew | apply Ext.drewN | apply Ext.alloc | refine Ext.trans ?_ (by assumption))); first | done | fail)) x
      clear x
      obtain ⟨c0, c1, c2⟩ := box3 HR.out (show Ext wz w4 from (by (repeat (first | assumption | exact Ext.refl _ | apply Ext.drew | apply Ext.drewN | apply Ext.alloc | refine Ext.trans ?_ (by assumption))); first | done | fail))
      go_wp2_with fail
      refine (MayV (ND.out.ext (by (repeat (first | assumption | exact Ext.refl _ | apply Ext.drew | apply Ext.drewN | apply Ext.alloc | refine Ext.trans ?_ (by assumption))); first | done | fail)) true (by simp [H3.out])).mono ?_
      rintro e w5 ⟨rfl, x⟩
      have x5 := Ext.trans (show Ext w4 _ from (by (repeat (first | assumption | exact Ext.refl _ | apply Ext.drew | apply Ext.drewN | apply Ext.alloc | refine Ext.trans ?_ (by assumption))); first | done | fail)) x
      clear x
      obtain ⟨c0, c1, c2⟩ := box3 HR.out (show Ext wz w5 from (by (repeat (first | assumption | exact Ext.refl _ | apply Ext.drew | apply Ext.drewN | apply Ext.alloc | refine Ext.trans ?_ (by assumption))); first | done | fail))
      go_wp2_with fail
      refine (OfV (NN.out.ext (by (repeat (first | assumption | exact Ext.refl _ | apply Ext.drew | apply Ext.drewN | apply Ext.alloc | refine Ext.trans ?_ (by assumption))); first | done | fail))).mono ?_
      rintro e w6 ⟨AN, nN', eN, rfl, rN, _, x⟩
      have x6 := Ext.trans (show Ext w5 _ from (by (repeat (first | assumption | exact Ext.refl _ | apply Ext.drew | apply Ext.drewN | apply Ext.alloc | refine Ext.trans ?_ (by assumption))); first | done | fail)) x
      clear x
      have IN := Kp.mk rN
      have JN := Kp.mk (Ni.of rN bN.out (by decide))
      have qN : nN' ≤ 800 := by have h1 := len16 bN.out; have h2 := rN.len; omega
      clear rN
      go_wp2_with fail
      refine (OfV (NE.out.ext (by (repeat (first | assumption | exact Ext.refl _ | apply Ext.drew | apply Ext.drewN | apply Ext.alloc | refine Ext.trans ?_ (by assumption))); first | done | fail))).mono ?_
      rintro e w7 ⟨AE, nE', eE, rfl, rE, _, x⟩
      have x7 := Ext.trans (show Ext w6 _ from (by (repeat (first | assumption | exact Ext.refl _ | apply Ext.drew | apply Ext.drewN | apply Ext.alloc | refine Ext.trans ?_ (by assumption))); first | done | fail)) x
      clear x
      have IE := Kp.mk rE
      have JE := Kp.mk (Ni.of rE bE.out (by decide))
      have qE : nE' ≤ 800 := by have h1 := len16 bE.out; have h2 := rE.len; omega
      clear rE
      go_wp2_with fail
      refine (OfV (ND.out.ext (by (repeat (first | assumption | exact Ext.refl _ | apply Ext.drew | apply Ext.drewN | apply Ext.alloc | refine Ext.trans ?_ (by assumption))); first | done | fail))).mono ?_
      rintro e w8 ⟨AD, nD', eD, rfl, rD, _, x⟩
      have x8 := Ext.trans (show Ext w7 _ from (by (repeat (first | assumption | exact Ext.refl _ | apply Ext.drew | apply Ext.drewN | apply Ext.alloc | refine Ext.trans ?_ (by assumption))); first | done | fail)) x
      clear x
      have ID := Kp.mk rD
      have JD := Kp.mk (Ni.of rD bD.out (by decide))
      have qD : nD' ≤ 800 := by have h1 := len16 bD.out; have h2 := rD.len; omega
      clear rD
      go_wp2_with fail
      have T3 := Kp.mk (lit_ni w8 3 3 rfl (by decide) (by decide))
      have y3 := (show Ext w8 (w8.alloc (.cells #[.int .i64 3] it)) from (by (repeat (first | assumption | exact Ext.refl _ | apply Ext.drew | apply Ext.drewN | apply Ext.alloc | refine Ext.trans ?_ (by assumption))); first | done | fail))
      generalize w8.heap.size = g3 at T3 ⊢
      generalize w8.alloc (.cells #[.int .i64 3] it) = wt at *
      obtain ⟨c0, c1, c2⟩ := box3 HR.out (show Ext wz wt from (by (repeat (first | assumption | exact Ext.refl _ | apply Ext.drew | apply Ext.drewN | apply Ext.alloc | refine Ext.trans ?_ (by assumption))); first | done | fail))
      go_wp2_with fail
      refine (RCmpV (JN.out.ext (by (repeat (first | assumption | exact Ext.refl _ | apply Ext.drew | apply Ext.drewN | apply Ext.alloc | refine Ext.trans ?_ (by assumption))); first | done | fail)) (T3.out.ext (by (repeat (first | assumption | exact Ext.refl _ | apply Ext.drew | apply Ext.drewN | apply Ext.alloc | refine Ext.trans ?_ (by assumption))); first | done | fail)) _ Z1.out).mono ?_
      rintro e w9 ⟨rfl, x⟩
      have x9 := Ext.trans (show Ext wt _ from (by (repeat (first | assumption | exact Ext.refl _ | apply Ext.drew | apply Ext.drewN | apply Ext.alloc | refine Ext.trans ?_ (by assumption))); first | done | fail)) x
      clear x
      obtain ⟨c0, c1, c2⟩ := box3 HR.out (show Ext wz w9 from (by (repeat (first | assumption | exact Ext.refl _ | apply Ext.drew | apply Ext.drewN | apply Ext.alloc | refine Ext.trans ?_ (by assumption))); first | done | fail))
      go_wp2_with fail
      refine (RCmpV (JE.out.ext (by (repeat (first | assumption | exact Ext.refl _ | apply Ext.drew | apply Ext.drewN | apply Ext.alloc | refine Ext.trans ?_ (by assumption))); first | done | fail)) (T3.out.ext (by (repeat (first | assumption | exact Ext.refl _ | apply Ext.drew | apply Ext.drewN | apply Ext.alloc | refine Ext.trans ?_ (by assumption))); first | done | fail)) _ Z2.out).mono ?_
      rintro e w10 ⟨rfl, x⟩
      have x10 := Ext.trans (show Ext w9 _ from (by (repeat (first | assumption | exact Ext.refl _ | apply Ext.drew | apply Ext.drewN | apply Ext.alloc | refine Ext.trans ?_ (by assumption))); first | done | fail)) x
      clear x
      obtain ⟨c0, c1, c2⟩ := box3 HR.out (show Ext wz w10 from (by (repeat (first | assumption | exact Ext.refl _ | apply Ext.drew | apply Ext.drewN | apply Ext.alloc | refine Ext.trans ?_ (by assumption))); first | done | fail))
      have CN := Kp.mk (Size_any (JN.out.ext (show Ext _ w10 from (by (repeat (first | assumption | exact Ext.refl _ | apply Ext.drew | apply Ext.drewN | apply Ext.alloc | refine Ext.trans ?_ (by assumption))); first | done | fail))).r (by omega))
      rw [sz_nb, SP.out] at CN
      go_wp2_with fail
      refine CN.out.mono ?_
      rintro e wq ⟨rfl, hw⟩
      subst hw
      clear CN
      obtain ⟨c0, c1, c2⟩ := box3 HR.out (show Ext wz wq from (by (repeat (first | assumption | exact Ext.refl _ | apply Ext.drew | apply Ext.drewN | apply Ext.alloc | refine Ext.trans ?_ (by assumption))); first | done | fail))
      have HX := Kp.mk (show Ext w wq from (by (repeat (first | assumption | exact Ext.refl _ | apply Ext.drew | apply Ext.drewN | apply Ext.alloc | refine Ext.trans ?_ (by assumption))); first | done | fail))
      clear x1 x2 xz x3 x4 x5 x6 x7 x8 y3 x9 x10
      go_wp2_with fail
      go_ret
      exact ⟨rfl, HX.out.b⟩
    · have H1 := Kp.mk s1
      have H2 := Kp.mk s2
      have H3 := Kp.mk s3
      have HF := Kp.mk h
      obtain ⟨z, hz, z1⟩ := cmpI_no h1
      have Z1 := Kp.mk hz
      clear hz
      obtain ⟨y, hy, y1⟩ := cmpI_no h2
      have Z2 := Kp.mk hy
      clear hy
      obtain ⟨P, hP⟩ : ∃ P, nb vN = P := ⟨_, rfl⟩
      have SP := Kp.mk hP
      rw [hP] at h3
      have p1 : decide ((64 : Int) < (P : Int)) = false := decide_eq_false (by omega)
      have p2 : decide (64 < P) = false := decide_eq_false (by omega)
      obtain ⟨Q, hQ⟩ : ∃ Q, nb vE = Q := ⟨_, rfl⟩
      have SQ := Kp.mk hQ
      rw [hQ] at h4
      have q1 : (64 : Int) < (Q : Int) := by omega
      have q2 : 64 < Q := by omega
      clear s1 s2 s3 h h1 h2 h3 h4 hP hQ
      go_enter Try.func4, Try.ntmps4
      go_wp2_with fail
      refine (HU.out _).mono ?_
      rintro e w1 ⟨rfl, x⟩
      have x1 := x
      clear x
      go_wp2_with fail
      refine (Pair_fac (NN.out.ext (by (repeat (first | assumption | exact Ext.refl _ | apply Ext.drew | apply Ext.drewN | apply Ext.alloc | refine Ext.trans ?_ (by assumption))); first | done | fail)) (NE.out.ext (by (repeat (first | assumption | exact Ext.refl _ | apply Ext.drew | apply Ext.drewN | apply Ext.alloc | refine Ext.trans ?_ (by assumption))); first | done | fail)) (ND.out.ext (by (repeat (first | assumption | exact Ext.refl _ | apply Ext.drew | apply Ext.drewN | apply Ext.alloc | refine Ext.trans ?_ (by assumption))); first | done | fail)) H1.out H2.out H3.out HF.out).mono ?_
      rintro e w2 ⟨rfl, x⟩
      have x2 := Ext.trans (show Ext w1 _ from (by (repeat (first | assumption | exact Ext.refl _ | apply Ext.drew | apply Ext.drewN | apply Ext.alloc | refine Ext.trans ?_ (by assumption))); first | done | fail)) x
      clear x
      have HZ := Kp.mk (Blk.new w2 25 #[.slice none 0 0, .slice none 0 0, .slice none 0 0])
      have HXR := Kp.mk (Ext.setRow (show Ext w (w2.alloc (.cells #[.slice none 0 0, .slice none 0 0, .slice none 0 0] 25)) from (by (repeat (first | assumption | exact Ext.refl _ | apply Ext.drew | apply Ext.drewN | apply Ext.alloc | refine Ext.trans ?_ (by assumption))); first | done | fail)) (show w.heap.size ≤ w2.heap.size from (show Ext w w2 from (by (repeat (first | assumption | exact Ext.refl _ | apply Ext.drew | apply Ext.drewN | apply Ext.alloc | refine Ext.trans ?_ (by assumption))); first | done | fail)).size) #[.slice none 0 0, .slice none 0 0, .slice none 0 0])
      have HR := Kp.mk (HZ.out.row #[.slice none 0 0, .slice none 0 0, .slice none 0 0])
      have HW := Kp.mk (Ext.setRow (show Ext w2 (w2.alloc (.cells #[.slice none 0 0, .slice none 0 0, .slice none 0 0] 25)) from (by (repeat (first | assumption | exact Ext.refl _ | apply Ext.drew | apply Ext.drewN | apply Ext.alloc | refine Ext.trans ?_ (by assumption))); first | done | fail)) (Nat.le_refl w2.heap.size) #[.slice none 0 0, .slice none 0 0, .slice none 0 0])
      obtain ⟨wz, hwz⟩ : ∃ wz, wz = (w2.alloc (.cells #[.slice none 0 0, .slice none 0 0, .slice none 0 0] 25)).setRow w2.heap.size #[.slice none 0 0, .slice none 0 0, .slice none 0 0] := ⟨_, rfl⟩
      have hb0 := box3 HR.out (Ext.refl _)
      rw [← hwz] at HR HW hb0
      obtain ⟨c0, c1, c2⟩ := hb0
      have xz := HW.out
      go_wp2_with (first | ((with_reducible refine at_store 8 42 ?_); refine wpList_store_row rfl 25 _ _ rfl w2.heap.size #[.slice none 0 0, .slice none 0 0, .slice none 0 0] rfl rfl 25 _ HZ.out.h szS rfl (one_three _ _ _ _ _ _ _ _ _) ?_; rw [← hwz]; clear hwz) | fail)
      refine (MayV (NN.out.ext (by (repeat (first | assumption | exact Ext.refl _ | apply Ext.drew | apply Ext.drewN | apply Ext.alloc | refine Ext.trans ?_ (by assumption))); first | done | fail)) true (by simp [H1.out])).mono ?_
      rintro e w3 ⟨rfl, x⟩
      have x3 := Ext.trans (show Ext wz _ from (by (repeat (first | assumption | exact Ext.refl _ | apply Ext.drew | apply Ext.drewN | apply Ext.alloc | refine Ext.trans ?_ (by assumption))); first | done | fail)) x
      clear x
      obtain ⟨c0, c1, c2⟩ := box3 HR.out (show Ext wz w3 from (by (repeat (first | assumption | exact Ext.refl _ | apply Ext.drew | apply Ext.drewN | apply Ext.alloc | refine Ext.trans ?_ (by assumption))); first | done | fail))
      go_wp2_with fail
      refine (MayV (NE.out.ext (by (repeat (first | assumption | exact Ext.refl _ | apply Ext.drew | apply Ext.drewN | apply Ext.alloc | refine Ext.trans ?_ (by assumption))); first | done | fail)) true (by simp [H2.out])).mono ?_
      rintro e w4 ⟨rfl, x⟩
      have x4 := Ext.trans (show Ext w3 _ from (by (repeat (first | assumption | exact Ext.refl _ | apply Ext.drew | apply Ext.drewN | apply Ext.alloc | refine Ext.trans ?_ (by assumption))); first | done | fail)) x
      clear x
      obtain ⟨c0, c1, c2⟩ := box3 HR.out (show Ext wz w4 from (by (repeat (first | assumption | exact Ext.refl _ | apply Ext.drew | apply Ext.drewN | apply Ext.alloc | refine Ext.trans ?_ (by assumption))); first | done | fail))
      go_wp2_with fail
      refine (MayV (ND.out.ext (by (repeat (first | assumption | exact Ext.refl _ | apply Ext.drew | apply Ext.drewN | apply Ext.alloc | refine Ext.trans ?_ (by assumption))); first | done | fail)) true (by simp [H3.out])).mono ?_
      rintro e w5 ⟨rfl, x⟩
      have x5 := Ext.trans (show Ext w4 _ from (by (repeat (first | assumption | exact Ext.refl _ | apply Ext.drew | apply Ext.drewN | apply Ext.alloc | refine Ext.trans ?_ (by assumption))); first | done | fail)) x
      clear x
      obtain ⟨c0, c1, c2⟩ := box3 HR.out (show Ext wz w5 from (by (repeat (first | assumption | exact Ext.refl _ | apply Ext.drew | apply Ext.drewN | apply Ext.alloc | refine Ext.trans ?_ (by assumption))); first | done | fail))
      go_wp2_with fail
      refine (OfV (NN.out.ext (by (repeat (first | assumption | exact Ext.refl _ | apply Ext.drew | apply Ext.drewN | apply Ext.alloc | refine Ext.trans ?_ (by assumption))); first | done | fail))).mono ?_
      rintro e w6 ⟨AN, nN', eN, rfl, rN, _, x⟩
      have x6 := Ext.trans (show Ext w5 _ from (by (repeat (first | assumption | exact Ext.refl _ | apply Ext.drew | apply Ext.drewN | apply Ext.alloc | refine Ext.trans ?_ (by assumption))); first | done | fail)) x
      clear x
      have IN := Kp.mk rN
      have JN := Kp.mk (Ni.of rN bN.out (by decide))
      have qN : nN' ≤ 800 := by have h1 := len16 bN.out; have h2 := rN.len; omega
      clear rN
      go_wp2_with fail
      refine (OfV (NE.out.ext (by (repeat (first | assumption | exact Ext.refl _ | apply Ext.drew | apply Ext.drewN | apply Ext.alloc | refine Ext.trans ?_ (by assumption))); first | done | fail))).mono ?_
      rintro e w7 ⟨AE, nE', eE, rfl, rE, _, x⟩
      have x7 := Ext.trans (show Ext w6 _ from (by (repeat (first | assumption | exact Ext.refl _ | apply Ext.drew | apply Ext.drewN | apply Ext.alloc | refine Ext.trans ?_ (by assumption))); first | done | fail)) x
      clear x
      have IE := Kp.mk rE
      have JE := Kp.mk (Ni.of rE bE.out (by decide))
      have qE : nE' ≤ 800 := by have h1 := len16 bE.out; have h2 := rE.len; omega
      clear rE
      go_wp2_with fail
      refine (OfV (ND.out.ext (by (repeat (first | assumption | exact Ext.refl _ | apply Ext.drew | apply Ext.drewN | apply Ext.alloc | refine Ext.trans ?_ (by assumption))); first | done | fail))).mono ?_
      rintro e w8 ⟨AD, nD', eD, rfl, rD, _, x⟩
      have x8 := Ext.trans (show Ext w7 _ from (by (repeat (first | assumption | exact Ext.refl _ | apply Ext.drew | apply Ext.drewN | apply Ext.alloc | refine Ext.trans ?_ (by assumption))); first | done | fail)) x
      clear x
      have ID := Kp.mk rD
      have JD := Kp.mk (Ni.of rD bD.out (by decide))
      have qD : nD' ≤ 800 := by have h1 := len16 bD.out; have h2 := rD.len; omega
      clear rD
      go_wp2_with fail
      have T3 := Kp.mk (lit_ni w8 3 3 rfl (by decide) (by decide))
      have y3 := (show Ext w8 (w8.alloc (.cells #[.int .i64 3] it)) from (by (repeat (first | assumption | exact Ext.refl _ | apply Ext.drew | apply Ext.drewN | apply Ext.alloc | refine Ext.trans ?_ (by assumption))); first | done | fail))
      generalize w8.heap.size = g3 at T3 ⊢
      generalize w8.alloc (.cells #[.int .i64 3] it) = wt at *
      obtain ⟨c0, c1, c2⟩ := box3 HR.out (show Ext wz wt from (by (repeat (first | assumption | exact Ext.refl _ | apply Ext.drew | apply Ext.drewN | apply Ext.alloc | refine Ext.trans ?_ (by assumption))); first | done | fail))
      go_wp2_with fail
      refine (RCmpV (JN.out.ext (by (repeat (first | assumption | exact Ext.refl _ | apply Ext.drew | apply Ext.drewN | apply Ext.alloc | refine Ext.trans ?_ (by assumption))); first | done | fail)) (T3.out.ext (by (repeat (first | assumption | exact Ext.refl _ | apply Ext.drew | apply Ext.drewN | apply Ext.alloc | refine Ext.trans ?_ (by assumption))); first | done | fail)) _ Z1.out).mono ?_
      rintro e w9 ⟨rfl, x⟩
      have x9 := Ext.trans (show Ext wt _ from (by (repeat (first | assumption | exact Ext.refl _ | apply Ext.drew | apply Ext.drewN | apply Ext.alloc | refine Ext.trans ?_ (by assumption))); first | done | fail)) x
      clear x
      obtain ⟨c0, c1, c2⟩ := box3 HR.out (show Ext wz w9 from (by (repeat (first | assumption | exact Ext.refl _ | apply Ext.drew | apply Ext.drewN | apply Ext.alloc | refine Ext.trans ?_ (by assumption))); first | done | fail))
      go_wp2_with fail
      refine (RCmpV (JE.out.ext (by (repeat (first | assumption | exact Ext.refl _ | apply Ext.drew | apply Ext.drewN | apply Ext.alloc | refine Ext.trans ?_ (by assumption))); first | done | fail)) (T3.out.ext (by (repeat (first | assumption | exact Ext.refl _ | apply Ext.drew | apply Ext.drewN | apply Ext.alloc | refine Ext.trans ?_ (by assumption))); first | done | fail)) _ Z2.out).mono ?_
      rintro e w10 ⟨rfl, x⟩
      have x10 := Ext.trans (show Ext w9 _ from (by (repeat (first | assumption | exact Ext.refl _ | apply Ext.drew | apply Ext.drewN | apply Ext.alloc | refine Ext.trans ?_ (by assumption))); first | done | fail)) x
      clear x
      obtain ⟨c0, c1, c2⟩ := box3 HR.out (show Ext wz w10 from (by (repeat (first | assumption | exact Ext.refl _ | apply Ext.drew | apply Ext.drewN | apply Ext.alloc | refine Ext.trans ?_ (by assumption))); first | done | fail))
      have CN := Kp.mk (Size_any (JN.out.ext (show Ext _ w10 from (by (repeat (first | assumption | exact Ext.refl _ | apply Ext.drew | apply Ext.drewN | apply Ext.alloc | refine Ext.trans ?_ (by assumption))); first | done | fail))).r (by omega))
      rw [sz_nb, SP.out] at CN
      go_wp2_with fail
      refine CN.out.mono ?_
      rintro e wq ⟨rfl, hw⟩
      subst hw
      clear CN
      obtain ⟨c0, c1, c2⟩ := box3 HR.out (show Ext wz wq from (by (repeat (first | assumption | exact Ext.refl _ | apply Ext.drew | apply Ext.drewN | apply Ext.alloc | refine Ext.trans ?_ (by assumption))); first | done | fail))
      have CE := Kp.mk (Size_any (JE.out.ext (show Ext _ wq from (by (repeat (first | assumption | exact Ext.refl _ | apply Ext.drew | apply Ext.drewN | apply Ext.alloc | refine Ext.trans ?_ (by assumption))); first | done | fail))).r (by omega))
      rw [sz_nb, SQ.out] at CE
      go_wp2_with fail
      refine CE.out.mono ?_
      rintro e wq ⟨rfl, hw⟩
      subst hw
      clear CE
      obtain ⟨c0, c1, c2⟩ := box3 HR.out (show Ext wz wq from (by (repeat (first | assumption | exact Ext.refl _ | apply Ext.drew | apply Ext.drewN | apply Ext.alloc | refine Ext.trans ?_ (by assumption))); first | done | fail))
      have HX := Kp.mk (show Ext w wq from (by (repeat (first | assumption | exact Ext.refl _ | apply Ext.drew | apply Ext.drewN | apply Ext.alloc | refine Ext.trans ?_ (by assumption))); first | done | fail))
      clear x1 x2 xz x3 x4 x5 x6 x7 x8 y3 x9 x10
      go_wp2_with fail
      go_ret
      exact ⟨rfl, HX.out.b⟩
    · have H1 := Kp.mk s1
      have H2 := Kp.mk s2
      have H3 := Kp.mk s3
      have FP := Kp.mk h1
      have FQ := Kp.mk h2
      have HG := Kp.mk h3
      obtain ⟨z, hz, z1⟩ := cmpI_no h1.lo
      have Z1 := Kp.mk hz
      obtain ⟨y, hy, y1⟩ := cmpI_no h2.lo
      have Z2 := Kp.mk hy
      obtain ⟨P, hP⟩ : ∃ P, nb vN = P := ⟨_, rfl⟩
      have SP := Kp.mk hP
      obtain ⟨Q, hQ⟩ : ∃ Q, nb vE = Q := ⟨_, rfl⟩
      have SQ := Kp.mk hQ
      have p0 := h1.hi
      rw [hP] at p0
      have q0 := h2.hi
      rw [hQ] at q0
      have p1 : decide ((64 : Int) < (P : Int)) = false := decide_eq_false (by omega)
      have p2 : decide (64 < P) = false := decide_eq_false (by omega)
      have q1 : decide ((64 : Int) < (Q : Int)) = false := decide_eq_false (by omega)
      have q2 : decide (64 < Q) = false := decide_eq_false (by omega)
      clear s1 s2 s3 h1 h2 h3 hz hy hP hQ p0 q0
      go_enter Try.func4, Try.ntmps4
      go_wp2_with fail
      refine (HU.out _).mono ?_
      rintro e w1 ⟨rfl, x⟩
      have x1 := x
      clear x
      go_wp2_with fail
      refine (Pair_none (NN.out.ext (by (repeat (first | assumption | exact Ext.refl _ | apply Ext.drew | apply Ext.drewN | apply Ext.alloc | refine Ext.trans ?_ (by assumption))); first | done | fail)) (NE.out.ext (by (repeat (first | assumption | exact Ext.refl _ | apply Ext.drew | apply Ext.drewN | apply Ext.alloc | refine Ext.trans ?_ (by assumption))); first | done | fail)) (ND.out.ext (by (repeat (first | assumption | exact Ext.refl _ | apply Ext.drew | apply Ext.drewN | apply Ext.alloc | refine Ext.trans ?_ (by assumption))); first | done | fail)) H1.out H2.out H3.out FP.out FQ.out HG.out).mono ?_
      rintro e w2 ⟨rfl, x⟩
      have x2 := Ext.trans (show Ext w1 _ from (by (repeat (first | assumption | exact Ext.refl _ | apply Ext.drew | apply Ext.drewN | apply Ext.alloc | refine Ext.trans ?_ (by assumption))); first | done | fail)) x
      clear x
      have HZ := Kp.mk (Blk.new w2 25 #[.slice none 0 0, .slice none 0 0, .slice none 0 0])
      have HXR := Kp.mk (Ext.setRow (show Ext w (w2.alloc (.cells #[.slice none 0 0, .slice none 0 0, .slice none 0 0] 25)) from (by (repeat (first | assumption | exact Ext.refl _ | apply Ext.drew | apply Ext.drewN | apply Ext.alloc | refine Ext.trans ?_ (by assumption))); first | done | fail)) (show w.heap.size ≤ w2.heap.size from (show Ext w w2 from (by (repeat (first | assumption | exact Ext.refl _ | apply Ext.drew | apply Ext.drewN | apply Ext.alloc | refine Ext.trans ?_ (by assumption))); first | done | fail)).size) #[.slice none 0 0, .slice none 0 0, .slice none 0 0])
      have HR := Kp.mk (HZ.out.row #[.slice none 0 0, .slice none 0 0, .slice none 0 0])
      have HW := Kp.mk (Ext.setRow (show Ext w2 (w2.alloc (.cells #[.slice none 0 0, .slice none 0 0, .slice none 0 0] 25)) from (by (repeat (first | assumption | exact Ext.refl _ | apply Ext.drew | apply Ext.drewN | apply Ext.alloc | refine Ext.trans ?_ (by assumption))); first | done | fail)) (Nat.le_refl w2.heap.size) #[.slice none 0 0, .slice none 0 0, .slice none 0 0])
      obtain ⟨wz, hwz⟩ : ∃ wz, wz = (w2.alloc (.cells #[.slice none 0 0, .slice none 0 0, .slice none 0 0] 25)).setRow w2.heap.size #[.slice none 0 0, .slice none 0 0, .slice none 0 0] := ⟨_, rfl⟩
      have hb0 := box3 HR.out (Ext.refl _)
      rw [← hwz] at HR HW hb0
      obtain ⟨c0, c1, c2⟩ := hb0
      have xz := HW.out
      go_wp2_with (first | ((with_reducible refine at_store 8 42 ?_); refine wpList_store_row rfl 25 _ _ rfl w2.heap.size #[.slice none 0 0, .slice none 0 0, .slice none 0 0] rfl rfl 25 _ HZ.out.h szS rfl (one_three _ _ _ _ _ _ _ _ _) ?_; rw [← hwz]; clear hwz) | fail)
      refine (MayV (NN.out.ext (by (repeat (first | assumption | exact Ext.refl _ | apply Ext.drew | apply Ext.drewN | apply Ext.alloc | refine Ext.trans ?_ (by assumption))); first | done | fail)) true (by simp [H1.out])).mono ?_
      rintro e w3 ⟨rfl, x⟩
      have x3 := Ext.trans (show Ext wz _ from (by (repeat (first | assumption | exact Ext.refl _ | apply Ext.drew | apply Ext.drewN | apply Ext.alloc | refine Ext.trans ?_ (by assumption))); first | done | fail)) x
      clear x
      obtain ⟨c0, c1, c2⟩ := box3 HR.out (show Ext wz w3 from (by (repeat (first | assumption | exact Ext.refl _ | apply Ext.drew | apply Ext.drewN | apply Ext.alloc | refine Ext.trans ?_ (by assumption))); first | done | fail))
      go_wp2_with fail
      refine (MayV (NE.out.ext (by (repeat (first | assumption | exact Ext.refl _ | apply Ext.drew | apply Ext.drewN | apply Ext.alloc | refine Ext.trans ?_ (by assumption))); first | done | fail)) true (by simp [H2.out])).mono ?_
      rintro e w4 ⟨rfl, x⟩
      have x4 := Ext.trans (show Ext w3 _ from (by (repeat (first | assumption | exact Ext.refl _ | apply Ext.drew | apply Ext.drewN | apply Ext.alloc | refine Ext.trans ?_ (by assumption))); first | done | fail)) x
      clear x
      obtain ⟨c0, c1, c2⟩ := box3 HR.out (show Ext wz w4 from (by (repeat (first | assumption | exact Ext.refl _ | apply Ext.drew | apply Ext.drewN | apply Ext.alloc | refine Ext.trans ?_ (by assumption))); first | done | fail))
      go_wp2_with fail
      refine (MayV (ND.out.ext (by (repeat (first | assumption | exact Ext.refl _ | apply Ext.drew | apply Ext.drewN | apply Ext.alloc | refine Ext.trans ?_ (by assumption))); first | done | fail)) true (by simp [H3.out])).mono ?_
      rintro e w5 ⟨rfl, x⟩
      have x5 := Ext.trans (show Ext w4 _ from (by (repeat (first | assumption | exact Ext.refl _ | apply Ext.drew | apply Ext.drewN | apply Ext.alloc | refine Ext.trans ?_ (by assumption))); first | done | fail)) x
      clear x
      obtain ⟨c0, c1, c2⟩ := box3 HR.out (show Ext wz w5 from (by (repeat (first | assumption | exact Ext.refl _ | apply Ext.drew | apply Ext.drewN | apply Ext.alloc | refine Ext.trans ?_ (by assumption))); first | done | fail))
      go_wp2_with fail
      refine (OfV (NN.out.ext (by (repeat (first | assumption | exact Ext.refl _ | apply Ext.drew | apply Ext.drewN | apply Ext.alloc | refine Ext.trans ?_ (by assumption))); first | done | fail))).mono ?_
      rintro e w6 ⟨AN, nN', eN, rfl, rN, _, x⟩
      have x6 := Ext.trans (show Ext w5 _ from (by (repeat (first | assumption | exact Ext.refl _ | apply Ext.drew | apply Ext.drewN | apply Ext.alloc | refine Ext.trans ?_ (by assumption))); first | done | fail)) x
      clear x
      have IN := Kp.mk rN
      have JN := Kp.mk (Ni.of rN bN.out (by decide))
      have qN : nN' ≤ 800 := by have h1 := len16 bN.out; have h2 := rN.len; omega
      clear rN
      go_wp2_with fail
      refine (OfV (NE.out.ext (by (repeat (first | assumption | exact Ext.refl _ | apply Ext.drew | apply Ext.drewN | apply Ext.alloc | refine Ext.trans ?_ (by assumption))); first | done | fail))).mono ?_
      rintro e w7 ⟨AE, nE', eE, rfl, rE, _, x⟩
      have x7 := Ext.trans (show Ext w6 _ from (by (repeat (first | assumption | exact Ext.refl _ | apply Ext.drew | apply Ext.drewN | apply Ext.alloc | refine Ext.trans ?_ (by assumption))); first | done | fail)) x
      clear x
      have IE := Kp.mk rE
      have JE := Kp.mk (Ni.of rE bE.out (by decide))
      have qE : nE' ≤ 800 := by have h1 := len16 bE.out; have h2 := rE.len; omega
      clear rE
      go_wp2_with fail
      refine (OfV (ND.out.ext (by (repeat (first | assumption | exact Ext.refl _ | apply Ext.drew | apply Ext.drewN | apply Ext.alloc | refine Ext.trans ?_ (by assumption))); first | done | fail))).mono ?_
      rintro e w8 ⟨AD, nD', eD, rfl, rD, _, x⟩
      have x8 := Ext.trans (show Ext w7 _ from (by (repeat (first | assumption | exact Ext.refl _ | apply Ext.drew | apply Ext.drewN | apply Ext.alloc | refine Ext.trans ?_ (by assumption))); first | done | fail)) x
      clear x
      have ID := Kp.mk rD
      have JD := Kp.mk (Ni.of rD bD.out (by decide))
      have qD : nD' ≤ 800 := by have h1 := len16 bD.out; have h2 := rD.len; omega
      clear rD
      go_wp2_with fail
      have T3 := Kp.mk (lit_ni w8 3 3 rfl (by decide) (by decide))
      have y3 := (show Ext w8 (w8.alloc (.cells #[.int .i64 3] it)) from (by (repeat (first | assumption | exact Ext.refl _ | apply Ext.drew | apply Ext.drewN | apply Ext.alloc | refine Ext.trans ?_ (by assumption))); first | done | fail))
      generalize w8.heap.size = g3 at T3 ⊢
      generalize w8.alloc (.cells #[.int .i64 3] it) = wt at *
      obtain ⟨c0, c1, c2⟩ := box3 HR.out (show Ext wz wt from (by (repeat (first | assumption | exact Ext.refl _ | apply Ext.drew | apply Ext.drewN | apply Ext.alloc | refine Ext.trans ?_ (by assumption))); first | done | fail))
      go_wp2_with fail
      refine (RCmpV (JN.out.ext (by (repeat (first | assumption | exact Ext.refl _ | apply Ext.drew | apply Ext.drewN | apply Ext.alloc | refine Ext.trans ?_ (by assumption))); first | done | fail)) (T3.out.ext (by (repeat (first | assumption | exact Ext.refl _ | apply Ext.drew | apply Ext.drewN | apply Ext.alloc | refine Ext.trans ?_ (by assumption))); first | done | fail)) _ Z1.out).mono ?_
      rintro e w9 ⟨rfl, x⟩
      have x9 := Ext.trans (show Ext wt _ from (by (repeat (first | assumption | exact Ext.refl _ | apply Ext.drew | apply Ext.drewN | apply Ext.alloc | refine Ext.trans ?_ (by assumption))); first | done | fail)) x
      clear x
      obtain ⟨c0, c1, c2⟩ := box3 HR.out (show Ext wz w9 from (by (repeat (first | assumption | exact Ext.refl _ | apply Ext.drew | apply Ext.drewN | apply Ext.alloc | refine Ext.trans ?_ (by assumption))); first | done | fail))
      go_wp2_with fail
      refine (RCmpV (JE.out.ext (by (repeat (first | assumption | exact Ext.refl _ | apply Ext.drew | apply Ext.drewN | apply Ext.alloc | refine Ext.trans ?_ (by assumption))); first | done | fail)) (T3.out.ext (by (repeat (first | assumption | exact Ext.refl _ | apply Ext.drew | apply Ext.drewN | apply Ext.alloc | refine Ext.trans ?_ (by assumption))); first | done | fail)) _ Z2.out).mono ?_
      rintro e w10 ⟨rfl, x⟩
      have x10 := Ext.trans (show Ext w9 _ from (by (repeat (first | assumption | exact Ext.refl _ | apply Ext.drew | apply Ext.drewN | apply Ext.alloc | refine Ext.trans ?_ (by assumption))); first | done | fail)) x
      clear x
      obtain ⟨c0, c1, c2⟩ := box3 HR.out (show Ext wz w10 from (by (repeat (first | assumption | exact Ext.refl _ | apply Ext.drew | apply Ext.drewN | apply Ext.alloc | refine Ext.trans ?_ (by assumption))); first | done | fail))
      have CN := Kp.mk (Size_any (JN.out.ext (show Ext _ w10 from (by (repeat (first | assumption | exact Ext.refl _ | apply Ext.drew | apply Ext.drewN | apply Ext.alloc | refine Ext.trans ?_ (by assumption))); first | done | fail))).r (by omega))
      rw [sz_nb, SP.out] at CN
      go_wp2_with fail
      refine CN.out.mono ?_
      rintro e wq ⟨rfl, hw⟩
      subst hw
      clear CN
      obtain ⟨c0, c1, c2⟩ := box3 HR.out (show Ext wz wq from (by (repeat (first | assumption | exact Ext.refl _ | apply Ext.drew | apply Ext.drewN | apply Ext.alloc | refine Ext.trans ?_ (by assumption))); first | done | fail))
      have CE := Kp.mk (Size_any (JE.out.ext (show Ext _ wq from (by (repeat (first | assumption | exact Ext.refl _ | apply Ext.drew | apply Ext.drewN | apply Ext.alloc | refine Ext.trans ?_ (by assumption))); first | done | fail))).r (by omega))
      rw [sz_nb, SQ.out] at CE
      go_wp2_with fail
      refine CE.out.mono ?_
      rintro e wq ⟨rfl, hw⟩
      subst hw
      clear CE
      obtain ⟨c0, c1, c2⟩ := box3 HR.out (show Ext wz wq from (by (repeat (first | assumption | exact Ext.refl _ | apply Ext.drew | apply Ext.drewN | apply Ext.alloc | refine Ext.trans ?_ (by assumption))); first | done | fail))
      go_wp2_with fail
      have T1 := Kp.mk (lit_ni wq 1 1 rfl (by decide) (by decide))
      have y1 := (show Ext wq (wq.alloc (.cells #[.int .i64 1] it)) from (by (repeat (first | assumption | exact Ext.refl _ | apply Ext.drew | apply Ext.drewN | apply Ext.alloc | refine Ext.trans ?_ (by assumption))); first | done | fail))
      generalize wq.heap.size = g1 at T1 ⊢
      generalize wq.alloc (.cells #[.int .i64 1] it) = wu at *
      obtain ⟨c0, c1, c2⟩ := box3 HR.out (show Ext wz wu from (by (repeat (first | assumption | exact Ext.refl _ | apply Ext.drew | apply Ext.drewN | apply Ext.alloc | refine Ext.trans ?_ (by assumption))); first | done | fail))
      refine (RSubV (JN.out.ext (by (repeat (first | assumption | exact Ext.refl _ | apply Ext.drew | apply Ext.drewN | apply Ext.alloc | refine Ext.trans ?_ (by assumption))); first | done | fail)) (T1.out.ext (by (repeat (first | assumption | exact Ext.refl _ | apply Ext.drew | apply Ext.drewN | apply Ext.alloc | refine Ext.trans ?_ (by assumption))); first | done | fail)) (by have := FP.out.lo; omega)).mono ?_
      rintro e w11 ⟨Ap, np, ep, rfl, rp, _, x⟩
      have x11 := Ext.trans (show Ext wu _ from (by (repeat (first | assumption | exact Ext.refl _ | apply Ext.drew | apply Ext.drewN | apply Ext.alloc | refine Ext.trans ?_ (by assumption))); first | done | fail)) x
      clear x
      have Jp := Kp.mk (Ni.of rp FP.out.pred (by decide))
      clear rp
      obtain ⟨c0, c1, c2⟩ := box3 HR.out (show Ext wz w11 from (by (repeat (first | assumption | exact Ext.refl _ | apply Ext.drew | apply Ext.drewN | apply Ext.alloc | refine Ext.trans ?_ (by assumption))); first | done | fail))
      go_wp2_with fail
      refine (RSubV (JE.out.ext (by (repeat (first | assumption | exact Ext.refl _ | apply Ext.drew | apply Ext.drewN | apply Ext.alloc | refine Ext.trans ?_ (by assumption))); first | done | fail)) (T1.out.ext (by (repeat (first | assumption | exact Ext.refl _ | apply Ext.drew | apply Ext.drewN | apply Ext.alloc | refine Ext.trans ?_ (by assumption))); first | done | fail)) (by have := FQ.out.lo; omega)).mono ?_
      rintro e w12 ⟨Aq, nq, eq, rfl, rq, _, x⟩
      have x12 := Ext.trans (show Ext w11 _ from (by (repeat (first | assumption | exact Ext.refl _ | apply Ext.drew | apply Ext.drewN | apply Ext.alloc | refine Ext.trans ?_ (by assumption))); first | done | fail)) x
      clear x
      have Jq := Kp.mk (Ni.of rq FQ.out.pred (by decide))
      clear rq
      obtain ⟨c0, c1, c2⟩ := box3 HR.out (show Ext wz w12 from (by (repeat (first | assumption | exact Ext.refl _ | apply Ext.drew | apply Ext.drewN | apply Ext.alloc | refine Ext.trans ?_ (by assumption))); first | done | fail))
      go_wp2_with fail
      refine (RMulV (Jp.out.ext (by (repeat (first | assumption | exact Ext.refl _ | apply Ext.drew | apply Ext.drewN | apply Ext.alloc | refine Ext.trans ?_ (by assumption))); first | done | fail)) (Jq.out.ext (by (repeat (first | assumption | exact Ext.refl _ | apply Ext.drew | apply Ext.drewN | apply Ext.alloc | refine Ext.trans ?_ (by assumption))); first | done | fail))).mono ?_
      rintro e w13 ⟨Af, nf, ef, rfl, rf, _, x⟩
      have x13 := Ext.trans (show Ext w12 _ from (by (repeat (first | assumption | exact Ext.refl _ | apply Ext.drew | apply Ext.drewN | apply Ext.alloc | refine Ext.trans ?_ (by assumption))); first | done | fail)) x
      clear x
      have If := Kp.mk rf
      have Jf := Kp.mk (Ni.of rf (FP.out.round FQ.out) (by decide))
      clear rf
      obtain ⟨c0, c1, c2⟩ := box3 HR.out (show Ext wz w13 from (by (repeat (first | assumption | exact Ext.refl _ | apply Ext.drew | apply Ext.drewN | apply Ext.alloc | refine Ext.trans ?_ (by assumption))); first | done | fail))
      go_wp2_with fail
      refine (RRestV (ID.out.ext (by (repeat (first | assumption | exact Ext.refl _ | apply Ext.drew | apply Ext.drewN | apply Ext.alloc | refine Ext.trans ?_ (by assumption))); first | done | fail)) (If.out.ext (by (repeat (first | assumption | exact Ext.refl _ | apply Ext.drew | apply Ext.drewN | apply Ext.alloc | refine Ext.trans ?_ (by assumption))); first | done | fail)) bD.out (FP.out.round FQ.out) (by decide) (by decide) (by have := FP.out.round2 FQ.out; omega)).mono ?_
      rintro e w14 ⟨Ar, nr, er, rfl, rr, _, x⟩
      have x14 := Ext.trans (show Ext w13 _ from (by (repeat (first | assumption | exact Ext.refl _ | apply Ext.drew | apply Ext.drewN | apply Ext.alloc | refine Ext.trans ?_ (by assumption))); first | done | fail)) x
      clear x
      have Ir := Kp.mk rr
      clear rr
      obtain ⟨c0, c1, c2⟩ := box3 HR.out (show Ext wz w14 from (by (repeat (first | assumption | exact Ext.refl _ | apply Ext.drew | apply Ext.drewN | apply Ext.alloc | refine Ext.trans ?_ (by assumption))); first | done | fail))
      go_wp2_with fail
      refine (RGcdV (If.out.ext (by (repeat (first | assumption | exact Ext.refl _ | apply Ext.drew | apply Ext.drewN | apply Ext.alloc | refine Ext.trans ?_ (by assumption))); first | done | fail)) (Ir.out.ext (by (repeat (first | assumption | exact Ext.refl _ | apply Ext.drew | apply Ext.drewN | apply Ext.alloc | refine Ext.trans ?_ (by assumption))); first | done | fail)) (FP.out.round FQ.out) (Nat.lt_of_le_of_lt (Nat.mod_le _ _) bD.out) (by decide) (by decide)).mono ?_
      rintro e w15 ⟨Ag, ng, eg, rfl, rg, x⟩
      have x15 := Ext.trans (show Ext w14 _ from (by (repeat (first | assumption | exact Ext.refl _ | apply Ext.drew | apply Ext.drewN | apply Ext.alloc | refine Ext.trans ?_ (by assumption))); first | done | fail)) x
      clear x
      rw [gcd_mod] at rg
      obtain ⟨c0, c1, c2⟩ := box3 HR.out (show Ext wz w15 from (by (repeat (first | assumption | exact Ext.refl _ | apply Ext.drew | apply Ext.drewN | apply Ext.alloc | refine Ext.trans ?_ (by assumption))); first | done | fail))
      have HX := Kp.mk (show Ext w w15 from (by (repeat (first | assumption | exact Ext.refl _ | apply Ext.drew | apply Ext.drewN | apply Ext.alloc | refine Ext.trans ?_ (by assumption))); first | done | fail))
      clear x1 x2 xz x3 x4 x5 x6 x7 x8 y3 x9 x10 y1 x11 x12 x13 x14 x15
      by_cases h9 : ng = 1
      · subst h9
        obtain ⟨g9, o9, rfl⟩ := rg.some_ (by omega)
        have k9 := rg.dig 0 (by omega)
        unfold vI at k9
        rw [Nat.add_zero] at k9
        have q9 := one_dg rg.len
        have b9 : ¬ ((dg (dgs 65536 (Nat.gcd ((vN - 1) * (vE - 1)) vD)) 0 : Nat) : Int) = 1 := by have := HG.out; omega
        generalize dg (dgs 65536 (Nat.gcd ((vN - 1) * (vE - 1)) vD)) 0 = y9 at *
        clear rg q9
        go_wp2_with fail
        go_ret
        exact ⟨rfl, HX.out.b⟩
      · have b9 : ¬ (ng : Int) = 1 := by omega
        clear rg
        go_wp2_with fail
        go_ret
        exact ⟨rfl, HX.out.b⟩
    · have H1 := Kp.mk s1
      have H2 := Kp.mk s2
      have H3 := Kp.mk s3
      have FP := Kp.mk h1
      have FQ := Kp.mk h2
      have HG := Kp.mk h3
      obtain ⟨z, hz, z1⟩ := cmpI_no h1.lo
      have Z1 := Kp.mk hz
      obtain ⟨y, hy, y1⟩ := cmpI_no h2.lo
      have Z2 := Kp.mk hy
      obtain ⟨P, hP⟩ : ∃ P, nb vN = P := ⟨_, rfl⟩
      have SP := Kp.mk hP
      obtain ⟨Q, hQ⟩ : ∃ Q, nb vE = Q := ⟨_, rfl⟩
      have SQ := Kp.mk hQ
      have p0 := h1.hi
      rw [hP] at p0
      have q0 := h2.hi
      rw [hQ] at q0
      have p1 : decide ((64 : Int) < (P : Int)) = false := decide_eq_false (by omega)
      have p2 : decide (64 < P) = false := decide_eq_false (by omega)
      have q1 : decide ((64 : Int) < (Q : Int)) = false := decide_eq_false (by omega)
      have q2 : decide (64 < Q) = false := decide_eq_false (by omega)
      have HK := Kp.mk h4
      clear s1 s2 s3 h1 h2 h3 h4 hz hy hP hQ p0 q0
      go_enter Try.func4, Try.ntmps4
      go_wp2_with fail
      refine (HU.out _).mono ?_
      rintro e w1 ⟨rfl, x⟩
      have x1 := x
      clear x
      go_wp2_with fail
      refine (Pair_amiss (NN.out.ext (by (repeat (first | assumption | exact Ext.refl _ | apply Ext.drew | apply Ext.drewN | apply Ext.alloc | refine Ext.trans ?_ (by assumption))); first | done | fail)) (NE.out.ext (by (repeat (first | assumption | exact Ext.refl _ | apply Ext.drew | apply Ext.drewN | apply Ext.alloc | refine Ext.trans ?_ (by assumption))); first | done | fail)) (ND.out.ext (by (repeat (first | assumption | exact Ext.refl _ | apply Ext.drew | apply Ext.drewN | apply Ext.alloc | refine Ext.trans ?_ (by assumption))); first | done | fail)) H1.out H2.out H3.out FP.out FQ.out HG.out HK.out).mono ?_
      rintro e w2 ⟨rfl, x⟩
      have x2 := Ext.trans (show Ext w1 _ from (by (repeat (first | assumption | exact Ext.refl _ | apply Ext.drew | apply Ext.drewN | apply Ext.alloc | refine Ext.trans ?_ (by assumption))); first | done | fail)) x
      clear x
      have HZ := Kp.mk (Blk.new w2 25 #[.slice none 0 0, .slice none 0 0, .slice none 0 0])
      have HXR := Kp.mk (Ext.setRow (show Ext w (w2.alloc (.cells #[.slice none 0 0, .slice none 0 0, .slice none 0 0] 25)) from (by (repeat (first | assumption | exact Ext.refl _ | apply Ext.drew | apply Ext.drewN | apply Ext.alloc | refine Ext.trans ?_ (by assumption))); first | done | fail)) (show w.heap.size ≤ w2.heap.size from (show Ext w w2 from (by (repeat (first | assumption | exact Ext.refl _ | apply Ext.drew | apply Ext.drewN | apply Ext.alloc | refine Ext.trans ?_ (by assumption))); first | done | fail)).size) #[.slice none 0 0, .slice none 0 0, .slice none 0 0])
      have HR := Kp.mk (HZ.out.row #[.slice none 0 0, .slice none 0 0, .slice none 0 0])
      have HW := Kp.mk (Ext.setRow (show Ext w2 (w2.alloc (.cells #[.slice none 0 0, .slice none 0 0, .slice none 0 0] 25)) from (by (repeat (first | assumption | exact Ext.refl _ | apply Ext.drew | apply Ext.drewN | apply Ext.alloc | refine Ext.trans ?_ (by assumption))); first | done | fail)) (Nat.le_refl w2.heap.size) #[.slice none 0 0, .slice none 0 0, .slice none 0 0])
      obtain ⟨wz, hwz⟩ : ∃ wz, wz = (w2.alloc (.cells #[.slice none 0 0, .slice none 0 0, .slice none 0 0] 25)).setRow w2.heap.size #[.slice none 0 0, .slice none 0 0, .slice none 0 0] := ⟨_, rfl⟩
      have hb0 := box3 HR.out (Ext.refl _)
      rw [← hwz] at HR HW hb0
      obtain ⟨c0, c1, c2⟩ := hb0
      have xz := HW.out
      go_wp2_with (first | ((with_reducible refine at_store 8 42 ?_); refine wpList_store_row rfl 25 _ _ rfl w2.heap.size #[.slice none 0 0, .slice none 0 0, .slice none 0 0] rfl rfl 25 _ HZ.out.h szS rfl (one_three _ _ _ _ _ _ _ _ _) ?_; rw [← hwz]; clear hwz) | fail)
      refine (MayV (NN.out.ext (by (repeat (first | assumption | exact Ext.refl _ | apply Ext.drew | apply Ext.drewN | apply Ext.alloc | refine Ext.trans ?_ (by assumption))); first | done | fail)) true (by simp [H1.out])).mono ?_
      rintro e w3 ⟨rfl, x⟩
      have x3 := Ext.trans (show Ext wz _ from (by (repeat (first | assumption | exact Ext.refl _ | apply Ext.drew | apply Ext.drewN | apply Ext.alloc | refine Ext.trans ?_ (by assumption))); first | done | fail)) x
      clear x
      obtain ⟨c0, c1, c2⟩ := box3 HR.out (show Ext wz w3 from (by (repeat (first | assumption | exact Ext.refl _ | apply Ext.drew | apply Ext.drewN | apply Ext.alloc | refine Ext.trans ?_ (by assumption))); first | done | fail))
      go_wp2_with fail
      refine (MayV (NE.out.ext (by (repeat (first | assumption | exact Ext.refl _ | apply Ext.drew | apply Ext.drewN | apply Ext.alloc | refine Ext.trans ?_ (by assumption))); first | done | fail)) true (by simp [H2.out])).mono ?_
      rintro e w4 ⟨rfl, x⟩
      have x4 := Ext.trans (show Ext w3 _ from (by (repeat (first | assumption | exact Ext.refl _ | apply Ext.drew | apply Ext.drewN | apply Ext.alloc | refine Ext.trans ?_ (by assumption))); first | done | fail)) x
      clear x
      obtain ⟨c0, c1, c2⟩ := box3 HR.out (show Ext wz w4 from (by (repeat (first | assumption | exact Ext.refl _ | apply Ext.drew | apply Ext.drewN | apply Ext.alloc | refine Ext.trans ?_ (by assumption))); first | done | fail))
      go_wp2_with fail
      refine (MayV (ND.out.ext (by (repeat (first | assumption | exact Ext.refl _ | apply Ext.drew | apply Ext.drewN | apply Ext.alloc | refine Ext.trans ?_ (by assumption))); first | done | fail)) true (by simp [H3.out])).mono ?_
      rintro e w5 ⟨rfl, x⟩
      have x5 := Ext.trans (show Ext w4 _ from (by (repeat (first | assumption | exact Ext.refl _ | apply Ext.drew | apply Ext.drewN | apply Ext.alloc | refine Ext.trans ?_ (by assumption))); first | done | fail)) x
      clear x
      obtain ⟨c0, c1, c2⟩ := box3 HR.out (show Ext wz w5 from (by (repeat (first | assumption | exact Ext.refl _ | apply Ext.drew | apply Ext.drewN | apply Ext.alloc | refine Ext.trans ?_ (by assumption))); first | done | fail))
      go_wp2_with fail
      refine (OfV (NN.out.ext (by (repeat (first | assumption | exact Ext.refl _ | apply Ext.drew | apply Ext.drewN | apply Ext.alloc | refine Ext.trans ?_ (by assumption))); first | done | fail))).mono ?_
      rintro e w6 ⟨AN, nN', eN, rfl, rN, _, x⟩
      have x6 := Ext.trans (show Ext w5 _ from (by (repeat (first | assumption | exact Ext.refl _ | apply Ext.drew | apply Ext.drewN | apply Ext.alloc | refine Ext.trans ?_ (by assumption))); first | done | fail)) x
      clear x
      have IN := Kp.mk rN
      have JN := Kp.mk (Ni.of rN bN.out (by decide))
      have qN : nN' ≤ 800 := by have h1 := len16 bN.out; have h2 := rN.len; omega
      clear rN
      go_wp2_with fail
      refine (OfV (NE.out.ext (by (repeat (first | assumption | exact Ext.refl _ | apply Ext.drew | apply Ext.drewN | apply Ext.alloc | refine Ext.trans ?_ (by assumption))); first | done | fail))).mono ?_
      rintro e w7 ⟨AE, nE', eE, rfl, rE, _, x⟩
      have x7 := Ext.trans (show Ext w6 _ from (by (repeat (first | assumption | exact Ext.refl _ | apply Ext.drew | apply Ext.drewN | apply Ext.alloc | refine Ext.trans ?_ (by assumption))); first | done | fail)) x
      clear x
      have IE := Kp.mk rE
      have JE := Kp.mk (Ni.of rE bE.out (by decide))
      have qE : nE' ≤ 800 := by have h1 := len16 bE.out; have h2 := rE.len; omega
      clear rE
      go_wp2_with fail
      refine (OfV (ND.out.ext (by (repeat (first | assumption | exact Ext.refl _ | apply Ext.drew | apply Ext.drewN | apply Ext.alloc | refine Ext.trans ?_ (by assumption))); first | done | fail))).mono ?_
      rintro e w8 ⟨AD, nD', eD, rfl, rD, _, x⟩
      have x8 := Ext.trans (show Ext w7 _ from (by (repeat (first | assumption | exact Ext.refl _ | apply Ext.drew | apply Ext.drewN | apply Ext.alloc | refine Ext.trans ?_ (by assumption))); first | done | fail)) x
      clear x
      have ID := Kp.mk rD
      have JD := Kp.mk (Ni.of rD bD.out (by decide))
      have qD : nD' ≤ 800 := by have h1 := len16 bD.out; have h2 := rD.len; omega
      clear rD
      go_wp2_with fail
      have T3 := Kp.mk (lit_ni w8 3 3 rfl (by decide) (by decide))
      have y3 := (show Ext w8 (w8.alloc (.cells #[.int .i64 3] it)) from (by (repeat (first | assumption | exact Ext.refl _ | apply Ext.drew | apply Ext.drewN | apply Ext.alloc | refine Ext.trans ?_ (by assumption))); first | done | fail))
      generalize w8.heap.size = g3 at T3 ⊢
      generalize w8.alloc (.cells #[.int .i64 3] it) = wt at *
      obtain ⟨c0, c1, c2⟩ := box3 HR.out (show Ext wz wt from (by (repeat (first | assumption | exact Ext.refl _ | apply Ext.drew | apply Ext.drewN | apply Ext.alloc | refine Ext.trans ?_ (by assumption))); first | done | fail))
      go_wp2_with fail
      refine (RCmpV (JN.out.ext (by (repeat (first | assumption | exact Ext.refl _ | apply Ext.drew | apply Ext.drewN | apply Ext.alloc | refine Ext.trans ?_ (by assumption))); first | done | fail)) (T3.out.ext (by (repeat (first | assumption | exact Ext.refl _ | apply Ext.drew | apply Ext.drewN | apply Ext.alloc | refine Ext.trans ?_ (by assumption))); first | done | fail)) _ Z1.out).mono ?_
      rintro e w9 ⟨rfl, x⟩
      have x9 := Ext.trans (show Ext wt _ from (by (repeat (first | assumption | exact Ext.refl _ | apply Ext.drew | apply Ext.drewN | apply Ext.alloc | refine Ext.trans ?_ (by assumption))); first | done | fail)) x
      clear x
      obtain ⟨c0, c1, c2⟩ := box3 HR.out (show Ext wz w9 from (by (repeat (first | assumption | exact Ext.refl _ | apply Ext.drew | apply Ext.drewN | apply Ext.alloc | refine Ext.trans ?_ (by assumption))); first | done | fail))
      go_wp2_with fail
      refine (RCmpV (JE.out.ext (by (repeat (first | assumption | exact Ext.refl _ | apply Ext.drew | apply Ext.drewN | apply Ext.alloc | refine Ext.trans ?_ (by assumption))); first | done | fail)) (T3.out.ext (by (repeat (first | assumption | exact Ext.refl _ | apply Ext.drew | apply Ext.drewN | apply Ext.alloc | refine Ext.trans ?_ (by assumption))); first | done | fail)) _ Z2.out).mono ?_
      rintro e w10 ⟨rfl, x⟩
      have x10 := Ext.trans (show Ext w9 _ from (by (repeat (first | assumption | exact Ext.refl _ | apply Ext.drew | apply Ext.drewN | apply Ext.alloc | refine Ext.trans ?_ (by assumption))); first | done | fail)) x
      clear x
      obtain ⟨c0, c1, c2⟩ := box3 HR.out (show Ext wz w10 from (by (repeat (first | assumption | exact Ext.refl _ | apply Ext.drew | apply Ext.drewN | apply Ext.alloc | refine Ext.trans ?_ (by assumption))); first | done | fail))
      have CN := Kp.mk (Size_any (JN.out.ext (show Ext _ w10 from (by (repeat (first | assumption | exact Ext.refl _ | apply Ext.drew | apply Ext.drewN | apply Ext.alloc | refine Ext.trans ?_ (by assumption))); first | done | fail))).r (by omega))
      rw [sz_nb, SP.out] at CN
      go_wp2_with fail
      refine CN.out.mono ?_
      rintro e wq ⟨rfl, hw⟩
      subst hw
      clear CN
      obtain ⟨c0, c1, c2⟩ := box3 HR.out (show Ext wz wq from (by (repeat (first | assumption | exact Ext.refl _ | apply Ext.drew | apply Ext.drewN | apply Ext.alloc | refine Ext.trans ?_ (by assumption))); first | done | fail))
      have CE := Kp.mk (Size_any (JE.out.ext (show Ext _ wq from (by (repeat (first | assumption | exact Ext.refl _ | apply Ext.drew | apply Ext.drewN | apply Ext.alloc | refine Ext.trans ?_ (by assumption))); first | done | fail))).r (by omega))
      rw [sz_nb, SQ.out] at CE
      go_wp2_with fail
      refine CE.out.mono ?_
      rintro e wq ⟨rfl, hw⟩
      subst hw
      clear CE
      obtain ⟨c0, c1, c2⟩ := box3 HR.out (show Ext wz wq from (by (repeat (first | assumption | exact Ext.refl _ | apply Ext.drew | apply Ext.drewN | apply Ext.alloc | refine Ext.trans ?_ (by assumption))); first | done | fail))
      go_wp2_with fail
      have T1 := Kp.mk (lit_ni wq 1 1 rfl (by decide) (by decide))
      have y1 := (show Ext wq (wq.alloc (.cells #[.int .i64 1] it)) from (by (repeat (first | assumption | exact Ext.refl _ | apply Ext.drew | apply Ext.drewN | apply Ext.alloc | refine Ext.trans ?_ (by assumption))); first | done | fail))
      generalize wq.heap.size = g1 at T1 ⊢
      generalize wq.alloc (.cells #[.int .i64 1] it) = wu at *
      obtain ⟨c0, c1, c2⟩ := box3 HR.out (show Ext wz wu from (by (repeat (first | assumption | exact Ext.refl _ | apply Ext.drew | apply Ext.drewN | apply Ext.alloc | refine Ext.trans ?_ (by assumption))); first | done | fail))
      refine (RSubV (JN.out.ext (by (repeat (first | assumption | exact Ext.refl _ | apply Ext.drew | apply Ext.drewN | apply Ext.alloc | refine Ext.trans ?_ (by assumption))); first | done | fail)) (T1.out.ext (by (repeat (first | assumption | exact Ext.refl _ | apply Ext.drew | apply Ext.drewN | apply Ext.alloc | refine Ext.trans ?_ (by assumption))); first | done | fail)) (by have := FP.out.lo; omega)).mono ?_
      rintro e w11 ⟨Ap, np, ep, rfl, rp, _, x⟩
      have x11 := Ext.trans (show Ext wu _ from (by (repeat (first | assumption | exact Ext.refl _ | apply Ext.drew | apply Ext.drewN | apply Ext.alloc | refine Ext.trans ?_ (by assumption))); first | done | fail)) x
      clear x
      have Jp := Kp.mk (Ni.of rp FP.out.pred (by decide))
      clear rp
      obtain ⟨c0, c1, c2⟩ := box3 HR.out (show Ext wz w11 from (by (repeat (first | assumption | exact Ext.refl _ | apply Ext.drew | apply Ext.drewN | apply Ext.alloc | refine Ext.trans ?_ (by assumption))); first | done | fail))
      go_wp2_with fail
      refine (RSubV (JE.out.ext (by (repeat (first | assumption | exact Ext.refl _ | apply Ext.drew | apply Ext.drewN | apply Ext.alloc | refine Ext.trans ?_ (by assumption))); first | done | fail)) (T1.out.ext (by (repeat (first | assumption | exact Ext.refl _ | apply Ext.drew | apply Ext.drewN | apply Ext.alloc | refine Ext.trans ?_ (by assumption))); first | done | fail)) (by have := FQ.out.lo; omega)).mono ?_
      rintro e w12 ⟨Aq, nq, eq, rfl, rq, _, x⟩
      have x12 := Ext.trans (show Ext w11 _ from (by (repeat (first | assumption | exact Ext.refl _ | apply Ext.drew | apply Ext.drewN | apply Ext.alloc | refine Ext.trans ?_ (by assumption))); first | done | fail)) x
      clear x
      have Jq := Kp.mk (Ni.of rq FQ.out.pred (by decide))
      clear rq
      obtain ⟨c0, c1, c2⟩ := box3 HR.out (show Ext wz w12 from (by (repeat (first | assumption | exact Ext.refl _ | apply Ext.drew | apply Ext.drewN | apply Ext.alloc | refine Ext.trans ?_ (by assumption))); first | done | fail))
      go_wp2_with fail
      refine (RMulV (Jp.out.ext (by (repeat (first | assumption | exact Ext.refl _ | apply Ext.drew | apply Ext.drewN | apply Ext.alloc | refine Ext.trans ?_ (by assumption))); first | done | fail)) (Jq.out.ext (by (repeat (first | assumption | exact Ext.refl _ | apply Ext.drew | apply Ext.drewN | apply Ext.alloc | refine Ext.trans ?_ (by assumption))); first | done | fail))).mono ?_
      rintro e w13 ⟨Af, nf, ef, rfl, rf, _, x⟩
      have x13 := Ext.trans (show Ext w12 _ from (by (repeat (first | assumption | exact Ext.refl _ | apply Ext.drew | apply Ext.drewN | apply Ext.alloc | refine Ext.trans ?_ (by assumption))); first | done | fail)) x
      clear x
      have If := Kp.mk rf
      have Jf := Kp.mk (Ni.of rf (FP.out.round FQ.out) (by decide))
      clear rf
      obtain ⟨c0, c1, c2⟩ := box3 HR.out (show Ext wz w13 from (by (repeat (first | assumption | exact Ext.refl _ | apply Ext.drew | apply Ext.drewN | apply Ext.alloc | refine Ext.trans ?_ (by assumption))); first | done | fail))
      go_wp2_with fail
      refine (RRestV (ID.out.ext (by (repeat (first | assumption | exact Ext.refl _ | apply Ext.drew | apply Ext.drewN | apply Ext.alloc | refine Ext.trans ?_ (by assumption))); first | done | fail)) (If.out.ext (by (repeat (first | assumption | exact Ext.refl _ | apply Ext.drew | apply Ext.drewN | apply Ext.alloc | refine Ext.trans ?_ (by assumption))); first | done | fail)) bD.out (FP.out.round FQ.out) (by decide) (by decide) (by have := FP.out.round2 FQ.out; omega)).mono ?_
      rintro e w14 ⟨Ar, nr, er, rfl, rr, _, x⟩
      have x14 := Ext.trans (show Ext w13 _ from (by (repeat (first | assumption | exact Ext.refl _ | apply Ext.drew | apply Ext.drewN | apply Ext.alloc | refine Ext.trans ?_ (by assumption))); first | done | fail)) x
      clear x
      have Ir := Kp.mk rr
      clear rr
      obtain ⟨c0, c1, c2⟩ := box3 HR.out (show Ext wz w14 from (by (repeat (first | assumption | exact Ext.refl _ | apply Ext.drew | apply Ext.drewN | apply Ext.alloc | refine Ext.trans ?_ (by assumption))); first | done | fail))
      go_wp2_with fail
      refine (RGcdV (If.out.ext (by (repeat (first | assumption | exact Ext.refl _ | apply Ext.drew | apply Ext.drewN | apply Ext.alloc | refine Ext.trans ?_ (by assumption))); first | done | fail)) (Ir.out.ext (by (repeat (first | assumption | exact Ext.refl _ | apply Ext.drew | apply Ext.drewN | apply Ext.alloc | refine Ext.trans ?_ (by assumption))); first | done | fail)) (FP.out.round FQ.out) (Nat.lt_of_le_of_lt (Nat.mod_le _ _) bD.out) (by decide) (by decide)).mono ?_
      rintro e w15 ⟨Ag, ng, eg, rfl, rg, x⟩
      have x15 := Ext.trans (show Ext w14 _ from (by (repeat (first | assumption | exact Ext.refl _ | apply Ext.drew | apply Ext.drewN | apply Ext.alloc | refine Ext.trans ?_ (by assumption))); first | done | fail)) x
      clear x
      rw [gcd_mod] at rg
      obtain ⟨c0, c1, c2⟩ := box3 HR.out (show Ext wz w15 from (by (repeat (first | assumption | exact Ext.refl _ | apply Ext.drew | apply Ext.drewN | apply Ext.alloc | refine Ext.trans ?_ (by assumption))); first | done | fail))
      rw [HG.out, ← one_dgs (d := 1) (by decide) (by decide)] at rg
      obtain rfl : ng = 1 := rg.len.symm
      obtain ⟨g9, o9, rfl⟩ := rg.some_ (by omega)
      have k9 := rg.dig 0 (by omega)
      unfold vI at k9
      rw [show dg [1] 0 = 1 from rfl, Nat.add_zero] at k9
      clear rg
      go_wp2_with fail
      refine (RMulV (JN.out.ext (by (repeat (first | assumption | exact Ext.refl _ | apply Ext.drew | apply Ext.drewN | apply Ext.alloc | refine Ext.trans ?_ (by assumption))); first | done | fail)) (JE.out.ext (by (repeat (first | assumption | exact Ext.refl _ | apply Ext.drew | apply Ext.drewN | apply Ext.alloc | refine Ext.trans ?_ (by assumption))); first | done | fail))).mono ?_
      rintro e w16 ⟨Am, nm, em, rfl, rm, _, x⟩
      have x16 := Ext.trans (show Ext w15 _ from (by (repeat (first | assumption | exact Ext.refl _ | apply Ext.drew | apply Ext.drewN | apply Ext.alloc | refine Ext.trans ?_ (by assumption))); first | done | fail)) x
      clear x
      have qm : nm ≤ 800 := by have h1 := len16 (FP.out.mul FQ.out); have h2 := rm.len; omega
      have Im := Kp.mk rm
      clear rm k9
      obtain ⟨c0, c1, c2⟩ := box3 HR.out (show Ext wz w16 from (by (repeat (first | assumption | exact Ext.refl _ | apply Ext.drew | apply Ext.drewN | apply Ext.alloc | refine Ext.trans ?_ (by assumption))); first | done | fail))
      go_wp2_with fail
      refine (To_any (Im.out.ext (by (repeat (first | assumption | exact Ext.refl _ | apply Ext.drew | apply Ext.drewN | apply Ext.alloc | refine Ext.trans ?_ (by assumption))); first | done | fail)) (cn_dgs (by decide) _).d (by omega)).mono ?_
      rintro e w17 ⟨At, nt', et, rfl, rto, x⟩
      have x17 := Ext.trans (show Ext w16 _ from (by (repeat (first | assumption | exact Ext.refl _ | apply Ext.drew | apply Ext.drewN | apply Ext.alloc | refine Ext.trans ?_ (by assumption))); first | done | fail)) x
      clear x
      rw [jn_dgs (by decide)] at rto
      change Rd vL _ At nt' et (dgs BB (vN * vE)) at rto
      have st : nt' ≤ 32 := by have h1 := nl_le (FP.out.mul FQ.out); have h2 := rto.len; unfold nl at h1; omega
      have NT := Kp.mk (show Nv _ At nt' et (vN * vE) from ⟨_, ⟨rto, (cn_dgs (by decide) _).d, by omega⟩, vl_dgs (by decide) _⟩)
      clear rto st
      obtain ⟨c0, c1, c2⟩ := box3 HR.out (show Ext wz w17 from (by (repeat (first | assumption | exact Ext.refl _ | apply Ext.drew | apply Ext.drewN | apply Ext.alloc | refine Ext.trans ?_ (by assumption))); first | done | fail))
      go_wp2_with fail
      refine (refPublic_any (NT.out.ext (by (repeat (first | assumption | exact Ext.refl _ | apply Ext.drew | apply Ext.drewN | apply Ext.alloc | refine Ext.trans ?_ (by assumption))); first | done | fail)) (ND.out.ext (by (repeat (first | assumption | exact Ext.refl _ | apply Ext.drew | apply Ext.drewN | apply Ext.alloc | refine Ext.trans ?_ (by assumption))); first | done | fail)) (FP.out.mul FQ.out) bD.out (by decide) (by decide) false (by simp [HK.out])).mono ?_
      rintro e w18 ⟨rfl, x⟩
      have x18 := Ext.trans (show Ext w17 _ from (by (repeat (first | assumption | exact Ext.refl _ | apply Ext.drew | apply Ext.drewN | apply Ext.alloc | refine Ext.trans ?_ (by assumption))); first | done | fail)) x
      clear x
      obtain ⟨c0, c1, c2⟩ := box3 HR.out (show Ext wz w18 from (by (repeat (first | assumption | exact Ext.refl _ | apply Ext.drew | apply Ext.drewN | apply Ext.alloc | refine Ext.trans ?_ (by assumption))); first | done | fail))
      have HX := Kp.mk (show Ext w w18 from (by (repeat (first | assumption | exact Ext.refl _ | apply Ext.drew | apply Ext.drewN | apply Ext.alloc | refine Ext.trans ?_ (by assumption))); first | done | fail))
      clear x1 x2 xz x3 x4 x5 x6 x7 x8 y3 x9 x10 y1 x11 x12 x13 x14 x15 x16 x17 x18
      go_wp2_with fail
      go_ret
      exact ⟨rfl, HX.out.b⟩
    · have H1 := Kp.mk s1
      have H2 := Kp.mk s2
      have H3 := Kp.mk s3
      have FP := Kp.mk h1
      have FQ := Kp.mk h2
      have HG := Kp.mk h3
      obtain ⟨z, hz, z1⟩ := cmpI_no h1.lo
      have Z1 := Kp.mk hz
      obtain ⟨y, hy, y1⟩ := cmpI_no h2.lo
      have Z2 := Kp.mk hy
      obtain ⟨P, hP⟩ : ∃ P, nb vN = P := ⟨_, rfl⟩
      have SP := Kp.mk hP
      obtain ⟨Q, hQ⟩ : ∃ Q, nb vE = Q := ⟨_, rfl⟩
      have SQ := Kp.mk hQ
      have p0 := h1.hi
      rw [hP] at p0
      have q0 := h2.hi
      rw [hQ] at q0
      have p1 : decide ((64 : Int) < (P : Int)) = false := decide_eq_false (by omega)
      have p2 : decide (64 < P) = false := decide_eq_false (by omega)
      have q1 : decide ((64 : Int) < (Q : Int)) = false := decide_eq_false (by omega)
      have q2 : decide (64 < Q) = false := decide_eq_false (by omega)
      have HK := Kp.mk h4
      have hiv := invN_spec (h1.round2 h2) h3
      have HV := Kp.mk hiv
      have ld := Kp.mk (Nat.lt_trans hiv.1 (h1.round h2))
      clear s1 s2 s3 h1 h2 h3 h4 hz hy hP hQ p0 q0 hiv
      go_enter Try.func4, Try.ntmps4
      go_wp2_with fail
      refine (HU.out _).mono ?_
      rintro e w1 ⟨rfl, x⟩
      have x1 := x
      clear x
      go_wp2_with fail
      refine (Pair_ok (NN.out.ext (by (repeat (first | assumption | exact Ext.refl _ | apply Ext.drew | apply Ext.drewN | apply Ext.alloc | refine Ext.trans ?_ (by assumption))); first | done | fail)) (NE.out.ext (by (repeat (first | assumption | exact Ext.refl _ | apply Ext.drew | apply Ext.drewN | apply Ext.alloc | refine Ext.trans ?_ (by assumption))); first | done | fail)) (ND.out.ext (by (repeat (first | assumption | exact Ext.refl _ | apply Ext.drew | apply Ext.drewN | apply Ext.alloc | refine Ext.trans ?_ (by assumption))); first | done | fail)) H1.out H2.out H3.out FP.out FQ.out HG.out HK.out).mono ?_
      rintro e w2 ⟨A4, n4, c4, A5, n5, c5, A6, n6, c6, rfl, r4, r5, r6, x⟩
      have x2 := Ext.trans (show Ext w1 _ from (by (repeat (first | assumption | exact Ext.refl _ | apply Ext.drew | apply Ext.drewN | apply Ext.alloc | refine Ext.trans ?_ (by assumption))); first | done | fail)) x
      clear x
      have hn4 : n4 ≠ 0 := by intro h; have h1 := r4.len; rw [h] at h1; have h2 := (dgs_nil (B := BB) (by decide) _).1 (List.eq_nil_of_length_eq_zero h1); have h3 := FP.out.lo; have h4 := FQ.out.lo; have h5 := Nat.mul_le_mul h3 h4; omega
      have hn4i : ¬ (n4 : Int) = 0 := by omega
      have hn4b : ((n4 : Int) == 0) = false := beq_eq_false_iff_ne.2 (by omega)
      have Q4 := Kp.mk r4.rd
      have Q5 := Kp.mk r5.rd
      have Q6 := Kp.mk r6.rd
      have N6 := Kp.mk (Nv.of r6 (short_of ld.out (by decide)))
      clear r4 r5 r6
      have HZ := Kp.mk (Blk.new w2 25 #[.slice none 0 0, .slice none 0 0, .slice none 0 0])
      have HR := Kp.mk (HZ.out.row #[.slice A4 n4 c4, .slice A5 n5 c5, .slice A6 n6 c6])
      have HW := Kp.mk (Ext.setRow (show Ext w2 (w2.alloc (.cells #[.slice none 0 0, .slice none 0 0, .slice none 0 0] 25)) from (by (repeat (first | assumption | exact Ext.refl _ | apply Ext.drew | apply Ext.drewN | apply Ext.alloc | refine Ext.trans ?_ (by assumption))); first | done | fail)) (Nat.le_refl w2.heap.size) #[.slice A4 n4 c4, .slice A5 n5 c5, .slice A6 n6 c6])
      obtain ⟨wz, hwz⟩ : ∃ wz, wz = (w2.alloc (.cells #[.slice none 0 0, .slice none 0 0, .slice none 0 0] 25)).setRow w2.heap.size #[.slice A4 n4 c4, .slice A5 n5 c5, .slice A6 n6 c6] := ⟨_, rfl⟩
      have hb0 := box3 HR.out (Ext.refl _)
      rw [← hwz] at HR HW hb0
      obtain ⟨c0, c1, c2⟩ := hb0
      have xz := HW.out
      go_wp2_with (first | ((with_reducible refine at_store 8 42 ?_); refine wpList_store_row rfl 25 _ _ rfl w2.heap.size #[.slice A4 n4 c4, .slice A5 n5 c5, .slice A6 n6 c6] rfl rfl 25 _ HZ.out.h szS rfl (one_three _ _ _ _ _ _ _ _ _) ?_; rw [← hwz]; clear hwz) | fail)
      refine (MayV (NN.out.ext (by (repeat (first | assumption | exact Ext.refl _ | apply Ext.drew | apply Ext.drewN | apply Ext.alloc | refine Ext.trans ?_ (by assumption))); first | done | fail)) true (by simp [H1.out])).mono ?_
      rintro e w3 ⟨rfl, x⟩
      have x3 := Ext.trans (show Ext wz _ from (by (repeat (first | assumption | exact Ext.refl _ | apply Ext.drew | apply Ext.drewN | apply Ext.alloc | refine Ext.trans ?_ (by assumption))); first | done | fail)) x
      clear x
      obtain ⟨c0, c1, c2⟩ := box3 HR.out (show Ext wz w3 from (by (repeat (first | assumption | exact Ext.refl _ | apply Ext.drew | apply Ext.drewN | apply Ext.alloc | refine Ext.trans ?_ (by assumption))); first | done | fail))
      go_wp2_with fail
      refine (MayV (NE.out.ext (by (repeat (first | assumption | exact Ext.refl _ | apply Ext.drew | apply Ext.drewN | apply Ext.alloc | refine Ext.trans ?_ (by assumption))); first | done | fail)) true (by simp [H2.out])).mono ?_
      rintro e w4 ⟨rfl, x⟩
      have x4 := Ext.trans (show Ext w3 _ from (by (repeat (first | assumption | exact Ext.refl _ | apply Ext.drew | apply Ext.drewN | apply Ext.alloc | refine Ext.trans ?_ (by assumption))); first | done | fail)) x
      clear x
      obtain ⟨c0, c1, c2⟩ := box3 HR.out (show Ext wz w4 from (by (repeat (first | assumption | exact Ext.refl _ | apply Ext.drew | apply Ext.drewN | apply Ext.alloc | refine Ext.trans ?_ (by assumption))); first | done | fail))
      go_wp2_with fail
      refine (MayV (ND.out.ext (by (repeat (first | assumption | exact Ext.refl _ | apply Ext.drew | apply Ext.drewN | apply Ext.alloc | refine Ext.trans ?_ (by assumption))); first | done | fail)) true (by simp [H3.out])).mono ?_
      rintro e w5 ⟨rfl, x⟩
      have x5 := Ext.trans (show Ext w4 _ from (by (repeat (first | assumption | exact Ext.refl _ | apply Ext.drew | apply Ext.drewN | apply Ext.alloc | refine Ext.trans ?_ (by assumption))); first | done | fail)) x
      clear x
      obtain ⟨c0, c1, c2⟩ := box3 HR.out (show Ext wz w5 from (by (repeat (first | assumption | exact Ext.refl _ | apply Ext.drew | apply Ext.drewN | apply Ext.alloc | refine Ext.trans ?_ (by assumption))); first | done | fail))
      go_wp2_with fail
      refine (OfV (NN.out.ext (by (repeat (first | assumption | exact Ext.refl _ | apply Ext.drew | apply Ext.drewN | apply Ext.alloc | refine Ext.trans ?_ (by assumption))); first | done | fail))).mono ?_
      rintro e w6 ⟨AN, nN', eN, rfl, rN, _, x⟩
      have x6 := Ext.trans (show Ext w5 _ from (by (repeat (first | assumption | exact Ext.refl _ | apply Ext.drew | apply Ext.drewN | apply Ext.alloc | refine Ext.trans ?_ (by assumption))); first | done | fail)) x
      clear x
      have IN := Kp.mk rN
      have JN := Kp.mk (Ni.of rN bN.out (by decide))
      have qN : nN' ≤ 800 := by have h1 := len16 bN.out; have h2 := rN.len; omega
      clear rN
      go_wp2_with fail
      refine (OfV (NE.out.ext (by (repeat (first | assumption | exact Ext.refl _ | apply Ext.drew | apply Ext.drewN | apply Ext.alloc | refine Ext.trans ?_ (by assumption))); first | done | fail))).mono ?_
      rintro e w7 ⟨AE, nE', eE, rfl, rE, _, x⟩
      have x7 := Ext.trans (show Ext w6 _ from (by (repeat (first | assumption | exact Ext.refl _ | apply Ext.drew | apply Ext.drewN | apply Ext.alloc | refine Ext.trans ?_ (by assumption))); first | done | fail)) x
      clear x
      have IE := Kp.mk rE
      have JE := Kp.mk (Ni.of rE bE.out (by decide))
      have qE : nE' ≤ 800 := by have h1 := len16 bE.out; have h2 := rE.len; omega
      clear rE
      go_wp2_with fail
      refine (OfV (ND.out.ext (by (repeat (first | assumption | exact Ext.refl _ | apply Ext.drew | apply Ext.drewN | apply Ext.alloc | refine Ext.trans ?_ (by assumption))); first | done | fail))).mono ?_
      rintro e w8 ⟨AD, nD', eD, rfl, rD, _, x⟩
      have x8 := Ext.trans (show Ext w7 _ from (by (repeat (first | assumption | exact Ext.refl _ | apply Ext.drew | apply Ext.drewN | apply Ext.alloc | refine Ext.trans ?_ (by assumption))); first | done | fail)) x
      clear x
      have ID := Kp.mk rD
      have JD := Kp.mk (Ni.of rD bD.out (by decide))
      have qD : nD' ≤ 800 := by have h1 := len16 bD.out; have h2 := rD.len; omega
      clear rD
      go_wp2_with fail
      have T3 := Kp.mk (lit_ni w8 3 3 rfl (by decide) (by decide))
      have y3 := (show Ext w8 (w8.alloc (.cells #[.int .i64 3] it)) from (by (repeat (first | assumption | exact Ext.refl _ | apply Ext.drew | apply Ext.drewN | apply Ext.alloc | refine Ext.trans ?_ (by assumption))); first | done | fail))
      generalize w8.heap.size = g3 at T3 ⊢
      generalize w8.alloc (.cells #[.int .i64 3] it) = wt at *
      obtain ⟨c0, c1, c2⟩ := box3 HR.out (show Ext wz wt from (by (repeat (first | assumption | exact Ext.refl _ | apply Ext.drew | apply Ext.drewN | apply Ext.alloc | refine Ext.trans ?_ (by assumption))); first | done | fail))
      go_wp2_with fail
      refine (RCmpV (JN.out.ext (by (repeat (first | assumption | exact Ext.refl _ | apply Ext.drew | apply Ext.drewN | apply Ext.alloc | refine Ext.trans ?_ (by assumption))); first | done | fail)) (T3.out.ext (by (repeat (first | assumption | exact Ext.refl _ | apply Ext.drew | apply Ext.drewN | apply Ext.alloc | refine Ext.trans ?_ (by assumption))); first | done | fail)) _ Z1.out).mono ?_
      rintro e w9 ⟨rfl, x⟩
      have x9 := Ext.trans (show Ext wt _ from (by (repeat (first | assumption | exact Ext.refl _ | apply Ext.drew | apply Ext.drewN | apply Ext.alloc | refine Ext.trans ?_ (by assumption))); first | done | fail)) x
      clear x
      obtain ⟨c0, c1, c2⟩ := box3 HR.out (show Ext wz w9 from (by (repeat (first | assumption | exact Ext.refl _ | apply Ext.drew | apply Ext.drewN | apply Ext.alloc | refine Ext.trans ?_ (by assumption))); first | done | fail))
      go_wp2_with fail
      refine (RCmpV (JE.out.ext (by (repeat (first | assumption | exact Ext.refl _ | apply Ext.drew | apply Ext.drewN | apply Ext.alloc | refine Ext.trans ?_ (by assumption))); first | done | fail)) (T3.out.ext (by (repeat (first | assumption | exact Ext.refl _ | apply Ext.drew | apply Ext.drewN | apply Ext.alloc | refine Ext.trans ?_ (by assumption))); first | done | fail)) _ Z2.out).mono ?_
      rintro e w10 ⟨rfl, x⟩
      have x10 := Ext.trans (show Ext w9 _ from (by (repeat (first | assumption | exact Ext.refl _ | apply Ext.drew | apply Ext.drewN | apply Ext.alloc | refine Ext.trans ?_ (by assumption))); first | done | fail)) x
      clear x
      obtain ⟨c0, c1, c2⟩ := box3 HR.out (show Ext wz w10 from (by (repeat (first | assumption | exact Ext.refl _ | apply Ext.drew | apply Ext.drewN | apply Ext.alloc | refine Ext.trans ?_ (by assumption))); first | done | fail))
      have CN := Kp.mk (Size_any (JN.out.ext (show Ext _ w10 from (by (repeat (first | assumption | exact Ext.refl _ | apply Ext.drew | apply Ext.drewN | apply Ext.alloc | refine Ext.trans ?_ (by assumption))); first | done | fail))).r (by omega))
      rw [sz_nb, SP.out] at CN
      go_wp2_with fail
      refine CN.out.mono ?_
      rintro e wq ⟨rfl, hw⟩
      subst hw
      clear CN
      obtain ⟨c0, c1, c2⟩ := box3 HR.out (show Ext wz wq from (by (repeat (first | assumption | exact Ext.refl _ | apply Ext.drew | apply Ext.drewN | apply Ext.alloc | refine Ext.trans ?_ (by assumption))); first | done | fail))
      have CE := Kp.mk (Size_any (JE.out.ext (show Ext _ wq from (by (repeat (first | assumption | exact Ext.refl _ | apply Ext.drew | apply Ext.drewN | apply Ext.alloc | refine Ext.trans ?_ (by assumption))); first | done | fail))).r (by omega))
      rw [sz_nb, SQ.out] at CE
      go_wp2_with fail
      refine CE.out.mono ?_
      rintro e wq ⟨rfl, hw⟩
      subst hw
      clear CE
      obtain ⟨c0, c1, c2⟩ := box3 HR.out (show Ext wz wq from (by (repeat (first | assumption | exact Ext.refl _ | apply Ext.drew | apply Ext.drewN | apply Ext.alloc | refine Ext.trans ?_ (by assumption))); first | done | fail))
      go_wp2_with fail
      have T1 := Kp.mk (lit_ni wq 1 1 rfl (by decide) (by decide))
      have y1 := (show Ext wq (wq.alloc (.cells #[.int .i64 1] it)) from (by (repeat (first | assumption | exact Ext.refl _ | apply Ext.drew | apply Ext.drewN | apply Ext.alloc | refine Ext.trans ?_ (by assumption))); first | done | fail))
      generalize wq.heap.size = g1 at T1 ⊢
      generalize wq.alloc (.cells #[.int .i64 1] it) = wu at *
      obtain ⟨c0, c1, c2⟩ := box3 HR.out (show Ext wz wu from (by (repeat (first | assumption | exact Ext.refl _ | apply Ext.drew | apply Ext.drewN | apply Ext.alloc | refine Ext.trans ?_ (by assumption))); first | done | fail))
      refine (RSubV (JN.out.ext (by (repeat (first | assumption | exact Ext.refl _ | apply Ext.drew | apply Ext.drewN | apply Ext.alloc | refine Ext.trans ?_ (by assumption))); first | done | fail)) (T1.out.ext (by (repeat (first | assumption | exact Ext.refl _ | apply Ext.drew | apply Ext.drewN | apply Ext.alloc | refine Ext.trans ?_ (by assumption))); first | done | fail)) (by have := FP.out.lo; omega)).mono ?_
      rintro e w11 ⟨Ap, np, ep, rfl, rp, _, x⟩
      have x11 := Ext.trans (show Ext wu _ from (by (repeat (first | assumption | exact Ext.refl _ | apply Ext.drew | apply Ext.drewN | apply Ext.alloc | refine Ext.trans ?_ (by assumption))); first | done | fail)) x
      clear x
      have Jp := Kp.mk (Ni.of rp FP.out.pred (by decide))
      clear rp
      obtain ⟨c0, c1, c2⟩ := box3 HR.out (show Ext wz w11 from (by (repeat (first | assumption | exact Ext.refl _ | apply Ext.drew | apply Ext.drewN | apply Ext.alloc | refine Ext.trans ?_ (by assumption))); first | done | fail))
      go_wp2_with fail
      refine (RSubV (JE.out.ext (by (repeat (first | assumption | exact Ext.refl _ | apply Ext.drew | apply Ext.drewN | apply Ext.alloc | refine Ext.trans ?_ (by assumption))); first | done | fail)) (T1.out.ext (by (repeat (first | assumption | exact Ext.refl _ | apply Ext.drew | apply Ext.drewN | apply Ext.alloc | refine Ext.trans ?_ (by assumption))); first | done | fail)) (by have := FQ.out.lo; omega)).mono ?_
      rintro e w12 ⟨Aq, nq, eq, rfl, rq, _, x⟩
      have x12 := Ext.trans (show Ext w11 _ from (by (repeat (first | assumption | exact Ext.refl _ | apply Ext.drew | apply Ext.drewN | apply Ext.alloc | refine Ext.trans ?_ (by assumption))); first | done | fail)) x
      clear x
      have Jq := Kp.mk (Ni.of rq FQ.out.pred (by decide))
      clear rq
      obtain ⟨c0, c1, c2⟩ := box3 HR.out (show Ext wz w12 from (by (repeat (first | assumption | exact Ext.refl _ | apply Ext.drew | apply Ext.drewN | apply Ext.alloc | refine Ext.trans ?_ (by assumption))); first | done | fail))
      go_wp2_with fail
      refine (RMulV (Jp.out.ext (by (repeat (first | assumption | exact Ext.refl _ | apply Ext.drew | apply Ext.drewN | apply Ext.alloc | refine Ext.trans ?_ (by assumption))); first | done | fail)) (Jq.out.ext (by (repeat (first | assumption | exact Ext.refl _ | apply Ext.drew | apply Ext.drewN | apply Ext.alloc | refine Ext.trans ?_ (by assumption))); first | done | fail))).mono ?_
      rintro e w13 ⟨Af, nf, ef, rfl, rf, _, x⟩
      have x13 := Ext.trans (show Ext w12 _ from (by (repeat (first | assumption | exact Ext.refl _ | apply Ext.drew | apply Ext.drewN | apply Ext.alloc | refine Ext.trans ?_ (by assumption))); first | done | fail)) x
      clear x
      have If := Kp.mk rf
      have Jf := Kp.mk (Ni.of rf (FP.out.round FQ.out) (by decide))
      clear rf
      obtain ⟨c0, c1, c2⟩ := box3 HR.out (show Ext wz w13 from (by (repeat (first | assumption | exact Ext.refl _ | apply Ext.drew | apply Ext.drewN | apply Ext.alloc | refine Ext.trans ?_ (by assumption))); first | done | fail))
      go_wp2_with fail
      refine (RRestV (ID.out.ext (by (repeat (first | assumption | exact Ext.refl _ | apply Ext.drew | apply Ext.drewN | apply Ext.alloc | refine Ext.trans ?_ (by assumption))); first | done | fail)) (If.out.ext (by (repeat (first | assumption | exact Ext.refl _ | apply Ext.drew | apply Ext.drewN | apply Ext.alloc | refine Ext.trans ?_ (by assumption))); first | done | fail)) bD.out (FP.out.round FQ.out) (by decide) (by decide) (by have := FP.out.round2 FQ.out; omega)).mono ?_
      rintro e w14 ⟨Ar, nr, er, rfl, rr, _, x⟩
      have x14 := Ext.trans (show Ext w13 _ from (by (repeat (first | assumption | exact Ext.refl _ | apply Ext.drew | apply Ext.drewN | apply Ext.alloc | refine Ext.trans ?_ (by assumption))); first | done | fail)) x
      clear x
      have Ir := Kp.mk rr
      clear rr
      obtain ⟨c0, c1, c2⟩ := box3 HR.out (show Ext wz w14 from (by (repeat (first | assumption | exact Ext.refl _ | apply Ext.drew | apply Ext.drewN | apply Ext.alloc | refine Ext.trans ?_ (by assumption))); first | done | fail))
      go_wp2_with fail
      refine (RGcdV (If.out.ext (by (repeat (first | assumption | exact Ext.refl _ | apply Ext.drew | apply Ext.drewN | apply Ext.alloc | refine Ext.trans ?_ (by assumption))); first | done | fail)) (Ir.out.ext (by (repeat (first | assumption | exact Ext.refl _ | apply Ext.drew | apply Ext.drewN | apply Ext.alloc | refine Ext.trans ?_ (by assumption))); first | done | fail)) (FP.out.round FQ.out) (Nat.lt_of_le_of_lt (Nat.mod_le _ _) bD.out) (by decide) (by decide)).mono ?_
      rintro e w15 ⟨Ag, ng, eg, rfl, rg, x⟩
      have x15 := Ext.trans (show Ext w14 _ from (by (repeat (first | assumption | exact Ext.refl _ | apply Ext.drew | apply Ext.drewN | apply Ext.alloc | refine Ext.trans ?_ (by assumption))); first | done | fail)) x
      clear x
      rw [gcd_mod] at rg
      obtain ⟨c0, c1, c2⟩ := box3 HR.out (show Ext wz w15 from (by (repeat (first | assumption | exact Ext.refl _ | apply Ext.drew | apply Ext.drewN | apply Ext.alloc | refine Ext.trans ?_ (by assumption))); first | done | fail))
      rw [HG.out, ← one_dgs (d := 1) (by decide) (by decide)] at rg
      obtain rfl : ng = 1 := rg.len.symm
      obtain ⟨g9, o9, rfl⟩ := rg.some_ (by omega)
      have k9 := rg.dig 0 (by omega)
      unfold vI at k9
      rw [show dg [1] 0 = 1 from rfl, Nat.add_zero] at k9
      clear rg
      go_wp2_with fail
      refine (RMulV (JN.out.ext (by (repeat (first | assumption | exact Ext.refl _ | apply Ext.drew | apply Ext.drewN | apply Ext.alloc | refine Ext.trans ?_ (by assumption))); first | done | fail)) (JE.out.ext (by (repeat (first | assumption | exact Ext.refl _ | apply Ext.drew | apply Ext.drewN | apply Ext.alloc | refine Ext.trans ?_ (by assumption))); first | done | fail))).mono ?_
      rintro e w16 ⟨Am, nm, em, rfl, rm, _, x⟩
      have x16 := Ext.trans (show Ext w15 _ from (by (repeat (first | assumption | exact Ext.refl _ | apply Ext.drew | apply Ext.drewN | apply Ext.alloc | refine Ext.trans ?_ (by assumption))); first | done | fail)) x
      clear x
      have qm : nm ≤ 800 := by have h1 := len16 (FP.out.mul FQ.out); have h2 := rm.len; omega
      have Im := Kp.mk rm
      clear rm k9
      obtain ⟨c0, c1, c2⟩ := box3 HR.out (show Ext wz w16 from (by (repeat (first | assumption | exact Ext.refl _ | apply Ext.drew | apply Ext.drewN | apply Ext.alloc | refine Ext.trans ?_ (by assumption))); first | done | fail))
      go_wp2_with fail
      refine (To_any (Im.out.ext (by (repeat (first | assumption | exact Ext.refl _ | apply Ext.drew | apply Ext.drewN | apply Ext.alloc | refine Ext.trans ?_ (by assumption))); first | done | fail)) (cn_dgs (by decide) _).d (by omega)).mono ?_
      rintro e w17 ⟨At, nt', et, rfl, rto, x⟩
      have x17 := Ext.trans (show Ext w16 _ from (by (repeat (first | assumption | exact Ext.refl _ | apply Ext.drew | apply Ext.drewN | apply Ext.alloc | refine Ext.trans ?_ (by assumption))); first | done | fail)) x
      clear x
      rw [jn_dgs (by decide)] at rto
      change Rd vL _ At nt' et (dgs BB (vN * vE)) at rto
      have st : nt' ≤ 32 := by have h1 := nl_le (FP.out.mul FQ.out); have h2 := rto.len; unfold nl at h1; omega
      have NT := Kp.mk (show Nv _ At nt' et (vN * vE) from ⟨_, ⟨rto, (cn_dgs (by decide) _).d, by omega⟩, vl_dgs (by decide) _⟩)
      clear rto st
      obtain ⟨c0, c1, c2⟩ := box3 HR.out (show Ext wz w17 from (by (repeat (first | assumption | exact Ext.refl _ | apply Ext.drew | apply Ext.drewN | apply Ext.alloc | refine Ext.trans ?_ (by assumption))); first | done | fail))
      go_wp2_with fail
      refine (refPublic_any (NT.out.ext (by (repeat (first | assumption | exact Ext.refl _ | apply Ext.drew | apply Ext.drewN | apply Ext.alloc | refine Ext.trans ?_ (by assumption))); first | done | fail)) (ND.out.ext (by (repeat (first | assumption | exact Ext.refl _ | apply Ext.drew | apply Ext.drewN | apply Ext.alloc | refine Ext.trans ?_ (by assumption))); first | done | fail)) (FP.out.mul FQ.out) bD.out (by decide) (by decide) true (by simp [HK.out])).mono ?_
      rintro e w18 ⟨rfl, x⟩
      have x18 := Ext.trans (show Ext w17 _ from (by (repeat (first | assumption | exact Ext.refl _ | apply Ext.drew | apply Ext.drewN | apply Ext.alloc | refine Ext.trans ?_ (by assumption))); first | done | fail)) x
      clear x
      obtain ⟨c0, c1, c2⟩ := box3 HR.out (show Ext wz w18 from (by (repeat (first | assumption | exact Ext.refl _ | apply Ext.drew | apply Ext.drewN | apply Ext.alloc | refine Ext.trans ?_ (by assumption))); first | done | fail))
      go_wp2_with fail
      refine (OfV (N6.out.ext (by (repeat (first | assumption | exact Ext.refl _ | apply Ext.drew | apply Ext.drewN | apply Ext.alloc | refine Ext.trans ?_ (by assumption))); first | done | fail))).mono ?_
      rintro e w19 ⟨A7, n7, e7, rfl, r7, _, x⟩
      have x19 := Ext.trans (show Ext w18 _ from (by (repeat (first | assumption | exact Ext.refl _ | apply Ext.drew | apply Ext.drewN | apply Ext.alloc | refine Ext.trans ?_ (by assumption))); first | done | fail)) x
      clear x
      have I7 := Kp.mk r7
      have J7 := Kp.mk (Ni.of r7 ld.out (by decide))
      clear r7
      obtain ⟨c0, c1, c2⟩ := box3 HR.out (show Ext wz w19 from (by (repeat (first | assumption | exact Ext.refl _ | apply Ext.drew | apply Ext.drewN | apply Ext.alloc | refine Ext.trans ?_ (by assumption))); first | done | fail))
      go_wp2_with fail
      refine (RMulV (J7.out.ext (by (repeat (first | assumption | exact Ext.refl _ | apply Ext.drew | apply Ext.drewN | apply Ext.alloc | refine Ext.trans ?_ (by assumption))); first | done | fail)) (JD.out.ext (by (repeat (first | assumption | exact Ext.refl _ | apply Ext.drew | apply Ext.drewN | apply Ext.alloc | refine Ext.trans ?_ (by assumption))); first | done | fail))).mono ?_
      rintro e w20 ⟨A8, n8, e8, rfl, r8, _, x⟩
      have x20 := Ext.trans (show Ext w19 _ from (by (repeat (first | assumption | exact Ext.refl _ | apply Ext.drew | apply Ext.drewN | apply Ext.alloc | refine Ext.trans ?_ (by assumption))); first | done | fail)) x
      clear x
      have I8 := Kp.mk r8
      clear r8
      obtain ⟨c0, c1, c2⟩ := box3 HR.out (show Ext wz w20 from (by (repeat (first | assumption | exact Ext.refl _ | apply Ext.drew | apply Ext.drewN | apply Ext.alloc | refine Ext.trans ?_ (by assumption))); first | done | fail))
      go_wp2_with fail
      refine (RRestV (I8.out.ext (by (repeat (first | assumption | exact Ext.refl _ | apply Ext.drew | apply Ext.drewN | apply Ext.alloc | refine Ext.trans ?_ (by assumption))); first | done | fail)) (If.out.ext (by (repeat (first | assumption | exact Ext.refl _ | apply Ext.drew | apply Ext.drewN | apply Ext.alloc | refine Ext.trans ?_ (by assumption))); first | done | fail)) (lt_mul ld.out bD.out (Nat.le_refl _)) (FP.out.round FQ.out) (by decide) (by decide) (by have := FP.out.round2 FQ.out; omega)).mono ?_
      rintro e w21 ⟨A9, n9, e9, rfl, r9, _, x⟩
      have x21 := Ext.trans (show Ext w20 _ from (by (repeat (first | assumption | exact Ext.refl _ | apply Ext.drew | apply Ext.drewN | apply Ext.alloc | refine Ext.trans ?_ (by assumption))); first | done | fail)) x
      clear x
      rw [HV.out.2, ← one_dgs (d := 1) (by decide) (by decide)] at r9
      obtain rfl : n9 = 1 := r9.len.symm
      obtain ⟨g12, o12, rfl⟩ := r9.some_ (by omega)
      have I9 := Kp.mk r9
      clear r9
      have kk := box3s (HR.out.ext (show Ext wz w21 from (by (repeat (first | assumption | exact Ext.refl _ | apply Ext.drew | apply Ext.drewN | apply Ext.alloc | refine Ext.trans ?_ (by assumption))); first | done | fail)))
      obtain ⟨m0, m1, m2⟩ := kk
      have k12 := fun (w' : World) (hx : Ext w21 w') => (I9.out.ext hx).dig 0 (by omega)
      simp only [vI, show dg [1] 0 = 1 from rfl, Nat.add_zero] at k12
      have QQ4 := Kp.mk (Q4.out.ext (show Ext _ w21 from (by (repeat (first | assumption | exact Ext.refl _ | apply Ext.drew | apply Ext.drewN | apply Ext.alloc | refine Ext.trans ?_ (by assumption))); first | done | fail)))
      have QQ5 := Kp.mk (Q5.out.ext (show Ext _ w21 from (by (repeat (first | assumption | exact Ext.refl _ | apply Ext.drew | apply Ext.drewN | apply Ext.alloc | refine Ext.trans ?_ (by assumption))); first | done | fail)))
      have QQ6 := Kp.mk (Q6.out.ext (show Ext _ w21 from (by (repeat (first | assumption | exact Ext.refl _ | apply Ext.drew | apply Ext.drewN | apply Ext.alloc | refine Ext.trans ?_ (by assumption))); first | done | fail)))
      have NTT := Kp.mk (NT.out.ext (show Ext _ w21 from (by (repeat (first | assumption | exact Ext.refl _ | apply Ext.drew | apply Ext.drewN | apply Ext.alloc | refine Ext.trans ?_ (by assumption))); first | done | fail)))
      have JDD := Kp.mk (JD.out.ext (show Ext _ w21 from (by (repeat (first | assumption | exact Ext.refl _ | apply Ext.drew | apply Ext.drewN | apply Ext.alloc | refine Ext.trans ?_ (by assumption))); first | done | fail)))
      have J77 := Kp.mk (J7.out.ext (show Ext _ w21 from (by (repeat (first | assumption | exact Ext.refl _ | apply Ext.drew | apply Ext.drewN | apply Ext.alloc | refine Ext.trans ?_ (by assumption))); first | done | fail)))
      have JFF := Kp.mk (Jf.out.ext (show Ext _ w21 from (by (repeat (first | assumption | exact Ext.refl _ | apply Ext.drew | apply Ext.drewN | apply Ext.alloc | refine Ext.trans ?_ (by assumption))); first | done | fail)))
      have HX := Kp.mk (show Ext w w21 from (by (repeat (first | assumption | exact Ext.refl _ | apply Ext.drew | apply Ext.drewN | apply Ext.alloc | refine Ext.trans ?_ (by assumption))); first | done | fail))
      clear x1 x2 xz x3 x4 x5 x6 x7 x8 y3 x9 x10 y1 x11 x12 x13 x14 x15 x16 x17 x18 x19 x20 x21 c0 c1 c2
      go_wp2_with fail
      refine wp_region_held_drew (S := fun w' => Ext w21 w') (by kernel_rfl) (Ext.refl w21).drew (fun hHeld => ?_)
      refine wpAnyH_take (i := 0) (oi := ⟨some 176, _, _, _, _, _⟩) (v := ?_) rfl (by kernel_rfl) (by kernel_rfl) (by kernel_rfl) (fun _ _ _ h => h) (Or.inl ⟨by rfl, ?_⟩) (by assumption) ?_
      rotate_left
      · (intro w hSw; (try dsimp only at hSw); go_simp; try with_reducible rfl)
      try simp only [Act.put, List.setIfInBounds_toArray, List.set_cons_zero, List.set_cons_succ]
      refine wpAnyH_take (i := 1) (oi := ⟨some 177, _, _, _, _, _⟩) (v := ?_) rfl (by kernel_rfl) (by kernel_rfl) (by kernel_rfl) (fun _ _ _ h => h) (Or.inl ⟨by rfl, ?_⟩) (by assumption) ?_
      rotate_left
      · (intro w hSw; (try dsimp only at hSw); go_simp; try with_reducible rfl)
      try simp only [Act.put, List.setIfInBounds_toArray, List.set_cons_zero, List.set_cons_succ]
      refine wpAnyH_take (i := 2) (oi := ⟨some 178, _, _, _, _, _⟩) (v := ?_) rfl (by kernel_rfl) (by kernel_rfl) (by kernel_rfl) (fun _ _ _ h => h) (Or.inl ⟨by rfl, ?_⟩) (by assumption) ?_
      rotate_left
      · (intro w hSw; (try dsimp only at hSw); go_simp; try with_reducible rfl)
      try simp only [Act.put, List.setIfInBounds_toArray, List.set_cons_zero, List.set_cons_succ]
      refine wpAnyH_take (i := 3) (oi := ⟨some 179, _, _, _, _, _⟩) (v := ?_) rfl (by kernel_rfl) (by kernel_rfl) (by kernel_rfl) (fun _ _ _ h => h) (Or.inl ⟨by rfl, ?_⟩) (by assumption) ?_
      rotate_left
      · (intro w hSw; (try dsimp only at hSw); go_simp; try with_reducible rfl)
      try simp only [Act.put, List.setIfInBounds_toArray, List.set_cons_zero, List.set_cons_succ]
      refine wpAnyH_take (i := 4) (oi := ⟨some 180, _, _, _, _, _⟩) (v := ?_) rfl (by kernel_rfl) (by kernel_rfl) (by kernel_rfl) (fun _ _ _ h => h) (Or.inl ⟨by rfl, ?_⟩) (by assumption) ?_
      rotate_left
      · (intro w hSw; (try dsimp only at hSw); go_simp; try with_reducible rfl)
      try simp only [Act.put, List.setIfInBounds_toArray, List.set_cons_zero, List.set_cons_succ]
      refine wpAnyH_take (i := 5) (oi := ⟨some 181, _, _, _, _, _⟩) (v := ?_) rfl (by kernel_rfl) (by kernel_rfl) (by kernel_rfl) (fun _ _ _ h => h) (Or.inl ⟨by rfl, ?_⟩) (by assumption) ?_
      rotate_left
      · (intro w hSw; (try dsimp only at hSw); go_simp; try with_reducible rfl)
      try simp only [Act.put, List.setIfInBounds_toArray, List.set_cons_zero, List.set_cons_succ]
      refine wpAnyH_take (i := 6) (oi := ⟨some 182, _, _, _, _, _⟩) (v := ?_) rfl (by kernel_rfl) (by kernel_rfl) (by kernel_rfl) (fun _ _ _ h => h) (Or.inl ⟨by rfl, ?_⟩) (by assumption) ?_
      rotate_left
      · (intro w hSw; (try dsimp only at hSw); go_simp; try with_reducible rfl)
      try simp only [Act.put, List.setIfInBounds_toArray, List.set_cons_zero, List.set_cons_succ]
      refine wpAnyH_take (i := 7) (oi := ⟨some 183, _, _, _, _, _⟩) (v := ?_) rfl (by kernel_rfl) (by kernel_rfl) (by kernel_rfl) (fun _ _ _ h => h) (Or.inl ⟨by rfl, ?_⟩) (by assumption) ?_
      rotate_left
      · (intro w hSw; (try dsimp only at hSw); go_simp; try with_reducible rfl)
      try simp only [Act.put, List.setIfInBounds_toArray, List.set_cons_zero, List.set_cons_succ]
      refine wpAnyH_take (i := 8) (oi := ⟨some 184, _, _, _, _, _⟩) (v := ?_) rfl (by kernel_rfl) (by kernel_rfl) (by kernel_rfl) (fun _ _ _ h => h) (Or.inl ⟨by rfl, ?_⟩) (by assumption) ?_
      rotate_left
      · (intro w hSw; (try dsimp only at hSw); go_simp; try with_reducible rfl)
      try simp only [Act.put, List.setIfInBounds_toArray, List.set_cons_zero, List.set_cons_succ]
      refine next_one 9 (by kernel_rfl) rfl (by rfl) fun K' HK' => ?_
      go_simp
      refine (OfV (NTT.out.ext hHeld)).mono ?_
      rintro e wa ⟨Aa, na, ea, rfl, ra, _, hxwa⟩
      have Ja := Kp.mk (Ni.of ra (FP.out.mul FQ.out) (by decide))
      clear ra
      have haw := Ext.trans hHeld hxwa
      have hS2 := Ext.trans hHeld hxwa
      refine held_go HK' hS2 (fun _ => ?_)
      clear HK'
      refine held_more (S' := fun w' => Ext wa w') (fun _ h => Ext.trans hS2 h) _ _ _ _ ?_
      clear hHeld hS2
      have hHeld : Ext wa wa := Ext.refl _
      try simp only [Act.put, List.setIfInBounds_toArray, List.set_cons_zero, List.set_cons_succ]
      replace m0 := box_on m0 haw
      replace m1 := box_on m1 haw
      replace m2 := box_on m2 haw
      replace k12 := fun (w' : World) (h : Ext wa w') => k12 w' (haw.trans h)
      refine next_one 10 (by kernel_rfl) rfl (by rfl) fun K' HK' => ?_
      go_simp
      refine (SameV (QQ4.out.ext haw) Ja.out).mono ?_
      rintro e wb ⟨rfl, hxwb⟩
      have hS2 := Ext.trans hHeld hxwb
      refine held_go HK' hS2 (fun _ => ?_)
      clear HK'
      refine held_more (S' := fun w' => Ext wb w') (fun _ h => Ext.trans hS2 h) _ _ _ _ ?_
      clear hHeld hS2
      have hHeld : Ext wb wb := Ext.refl _
      try simp only [Act.put, List.setIfInBounds_toArray, List.set_cons_zero, List.set_cons_succ]
      replace m0 := box_on m0 hxwb
      replace m1 := box_on m1 hxwb
      replace m2 := box_on m2 hxwb
      replace k12 := fun (w' : World) (h : Ext wb w') => k12 w' (hxwb.trans h)
      have hab := haw.trans hxwb
      refine wpAnyH_take (i := 11) (oi := ⟨some 187, _, _, _, _, _⟩) (v := ?_) rfl (by kernel_rfl) (by kernel_rfl) (by kernel_rfl) (fun _ _ _ h => h) (Or.inl ⟨by rfl, ?_⟩) (by assumption) ?_
      rotate_left
      · (intro w hSw; (try dsimp only at hSw); go_simp; try with_reducible rfl)
      try simp only [Act.put, List.setIfInBounds_toArray, List.set_cons_zero, List.set_cons_succ]
      refine wpAnyH_take (i := 12) (oi := ⟨some 188, _, _, _, _, _⟩) (v := ?_) rfl (by kernel_rfl) (by kernel_rfl) (by kernel_rfl) (fun _ _ _ h => h) (Or.inl ⟨by rfl, ?_⟩) (by assumption) ?_
      rotate_left
      · (intro w hSw; (try dsimp only at hSw); go_simp; try with_reducible rfl)
      try simp only [Act.put, List.setIfInBounds_toArray, List.set_cons_zero, List.set_cons_succ]
      refine wpAnyH_take (i := 13) (oi := ⟨some 189, _, _, _, _, _⟩) (v := ?_) rfl (by kernel_rfl) (by kernel_rfl) (by kernel_rfl) (fun _ _ _ h => h) (Or.inl ⟨by rfl, ?_⟩) (by assumption) ?_
      rotate_left
      · (intro w hSw; (try dsimp only at hSw); go_simp; try with_reducible rfl)
      try simp only [Act.put, List.setIfInBounds_toArray, List.set_cons_zero, List.set_cons_succ]
      refine wpAnyH_take (i := 14) (oi := ⟨some 190, _, _, _, _, _⟩) (v := ?_) rfl (by kernel_rfl) (by kernel_rfl) (by kernel_rfl) (fun _ _ _ h => h) (Or.inl ⟨by rfl, ?_⟩) (by assumption) ?_
      rotate_left
      · (intro w hSw; (try dsimp only at hSw); go_simp; try with_reducible rfl)
      try simp only [Act.put, List.setIfInBounds_toArray, List.set_cons_zero, List.set_cons_succ]
      refine wpAnyH_take (i := 15) (oi := ⟨some 191, _, _, _, _, _⟩) (v := ?_) rfl (by kernel_rfl) (by kernel_rfl) (by kernel_rfl) (fun _ _ _ h => h) (Or.inl ⟨by rfl, ?_⟩) (by assumption) ?_
      rotate_left
      · (intro w hSw; (try dsimp only at hSw); go_simp; try with_reducible rfl)
      try simp only [Act.put, List.setIfInBounds_toArray, List.set_cons_zero, List.set_cons_succ]
      refine next_one 16 (by kernel_rfl) rfl (by rfl) fun K' HK' => ?_
      go_simp
      refine (SameV (QQ5.out.ext hab) (JDD.out.ext hab)).mono ?_
      rintro e wc ⟨rfl, hxwc⟩
      have hS2 := Ext.trans hHeld hxwc
      refine held_go HK' hS2 (fun _ => ?_)
      clear HK'
      refine held_more (S' := fun w' => Ext wc w') (fun _ h => Ext.trans hS2 h) _ _ _ _ ?_
      clear hHeld hS2
      have hHeld : Ext wc wc := Ext.refl _
      try simp only [Act.put, List.setIfInBounds_toArray, List.set_cons_zero, List.set_cons_succ]
      replace m0 := box_on m0 hxwc
      replace m1 := box_on m1 hxwc
      replace m2 := box_on m2 hxwc
      replace k12 := fun (w' : World) (h : Ext wc w') => k12 w' (hxwc.trans h)
      have hac := hab.trans hxwc
      refine wpAnyH_take (i := 17) (oi := ⟨some 193, _, _, _, _, _⟩) (v := ?_) rfl (by kernel_rfl) (by kernel_rfl) (by kernel_rfl) (fun _ _ _ h => h) (Or.inl ⟨by rfl, ?_⟩) (by assumption) ?_
      rotate_left
      · (intro w hSw; (try dsimp only at hSw); go_simp; try with_reducible rfl)
      try simp only [Act.put, List.setIfInBounds_toArray, List.set_cons_zero, List.set_cons_succ]
      refine wpAnyH_take (i := 18) (oi := ⟨some 194, _, _, _, _, _⟩) (v := ?_) rfl (by kernel_rfl) (by kernel_rfl) (by kernel_rfl) (fun _ _ _ h => h) (Or.inl ⟨by rfl, ?_⟩) (by assumption) ?_
      rotate_left
      · (intro w hSw; (try dsimp only at hSw); go_simp; try with_reducible rfl)
      try simp only [Act.put, List.setIfInBounds_toArray, List.set_cons_zero, List.set_cons_succ]
      refine wpAnyH_take (i := 19) (oi := ⟨some 195, _, _, _, _, _⟩) (v := ?_) rfl (by kernel_rfl) (by kernel_rfl) (by kernel_rfl) (fun _ _ _ h => h) (Or.inl ⟨by rfl, ?_⟩) (by assumption) ?_
      rotate_left
      · (intro w hSw; (try dsimp only at hSw); go_simp; try with_reducible rfl)
      try simp only [Act.put, List.setIfInBounds_toArray, List.set_cons_zero, List.set_cons_succ]
      refine wpAnyH_take (i := 20) (oi := ⟨some 196, _, _, _, _, _⟩) (v := ?_) rfl (by kernel_rfl) (by kernel_rfl) (by kernel_rfl) (fun _ _ _ h => h) (Or.inl ⟨by rfl, ?_⟩) (by assumption) ?_
      rotate_left
      · (intro w hSw; (try dsimp only at hSw); go_simp; try with_reducible rfl)
      try simp only [Act.put, List.setIfInBounds_toArray, List.set_cons_zero, List.set_cons_succ]
      refine wpAnyH_take (i := 21) (oi := ⟨some 197, _, _, _, _, _⟩) (v := ?_) rfl (by kernel_rfl) (by kernel_rfl) (by kernel_rfl) (fun _ _ _ h => h) (Or.inl ⟨by rfl, ?_⟩) (by assumption) ?_
      rotate_left
      · (intro w hSw; (try dsimp only at hSw); go_simp; try with_reducible rfl)
      try simp only [Act.put, List.setIfInBounds_toArray, List.set_cons_zero, List.set_cons_succ]
      refine next_one 22 (by kernel_rfl) rfl (by rfl) fun K' HK' => ?_
      go_simp
      refine (SameV (QQ6.out.ext hac) (J77.out.ext hac)).mono ?_
      rintro e wd ⟨rfl, hxwd⟩
      have hS2 := Ext.trans hHeld hxwd
      refine held_go HK' hS2 (fun _ => ?_)
      clear HK'
      refine held_more (S' := fun w' => Ext wd w') (fun _ h => Ext.trans hS2 h) _ _ _ _ ?_
      clear hHeld hS2
      have hHeld : Ext wd wd := Ext.refl _
      try simp only [Act.put, List.setIfInBounds_toArray, List.set_cons_zero, List.set_cons_succ]
      replace m0 := box_on m0 hxwd
      replace m1 := box_on m1 hxwd
      replace m2 := box_on m2 hxwd
      replace k12 := fun (w' : World) (h : Ext wd w') => k12 w' (hxwd.trans h)
      have had := hac.trans hxwd
      refine wpAnyH_take (i := 23) (oi := ⟨some 199, _, _, _, _, _⟩) (v := ?_) rfl (by kernel_rfl) (by kernel_rfl) (by kernel_rfl) (fun _ _ _ h => h) (Or.inl ⟨by rfl, ?_⟩) (by assumption) ?_
      rotate_left
      · (intro w hSw; (try dsimp only at hSw); go_simp; try with_reducible rfl)
      try simp only [Act.put, List.setIfInBounds_toArray, List.set_cons_zero, List.set_cons_succ]
      refine wpAnyH_take (i := 24) (oi := ⟨some 200, _, _, _, _, _⟩) (v := ?_) rfl (by kernel_rfl) (by kernel_rfl) (by kernel_rfl) (fun _ _ _ h => h) (Or.inl ⟨by rfl, ?_⟩) (by assumption) ?_
      rotate_left
      · (intro w hSw; (try dsimp only at hSw); go_simp; try with_reducible rfl)
      try simp only [Act.put, List.setIfInBounds_toArray, List.set_cons_zero, List.set_cons_succ]
      refine wpAnyH_take (i := 25) (oi := ⟨some 201, _, _, _, _, _⟩) (v := ?_) rfl (by kernel_rfl) (by kernel_rfl) (by kernel_rfl) (fun _ _ _ h => h) (Or.inl ⟨by rfl, ?_⟩) (by assumption) ?_
      rotate_left
      · (intro w hSw; (try dsimp only at hSw); go_simp; try with_reducible rfl)
      try simp only [Act.put, List.setIfInBounds_toArray, List.set_cons_zero, List.set_cons_succ]
      refine wpAnyH_take (i := 26) (oi := ⟨some 202, _, _, _, _, _⟩) (v := ?_) rfl (by kernel_rfl) (by kernel_rfl) (by kernel_rfl) (fun _ _ _ h => h) (Or.inl ⟨by rfl, ?_⟩) (by assumption) ?_
      rotate_left
      · (intro w hSw; (try dsimp only at hSw); go_simp; try with_reducible rfl)
      try simp only [Act.put, List.setIfInBounds_toArray, List.set_cons_zero, List.set_cons_succ]
      refine next_one 27 (by kernel_rfl) rfl (by rfl) fun K' HK' => ?_
      go_simp
      refine (RCmpV (J77.out.ext had) (JFF.out.ext had) (-1) (cmpI_lt HV.out.1)).mono ?_
      rintro e we ⟨rfl, hxwe⟩
      have hS2 := Ext.trans hHeld hxwe
      refine held_go HK' hS2 (fun _ => ?_)
      clear HK'
      refine held_more (S' := fun w' => Ext we w') (fun _ h => Ext.trans hS2 h) _ _ _ _ ?_
      clear hHeld hS2
      have hHeld : Ext we we := Ext.refl _
      try simp only [Act.put, List.setIfInBounds_toArray, List.set_cons_zero, List.set_cons_succ]
      replace m0 := box_on m0 hxwe
      replace m1 := box_on m1 hxwe
      replace m2 := box_on m2 hxwe
      replace k12 := fun (w' : World) (h : Ext we w') => k12 w' (hxwe.trans h)
      refine wpAnyH_take (i := 28) (oi := ⟨some 204, _, _, _, _, _⟩) (v := ?_) rfl (by kernel_rfl) (by kernel_rfl) (by kernel_rfl) (fun _ _ _ h => h) (Or.inl ⟨by rfl, ?_⟩) (by assumption) ?_
      rotate_left
      · (intro w hSw; (try dsimp only at hSw); go_simp; try with_reducible rfl)
      try simp only [Act.put, List.setIfInBounds_toArray, List.set_cons_zero, List.set_cons_succ]
      refine wpAnyH_take (i := 29) (oi := ⟨some 205, _, _, _, _, _⟩) (v := ?_) rfl (by kernel_rfl) (by kernel_rfl) (by kernel_rfl) (fun _ _ _ h => h) (Or.inl ⟨by rfl, ?_⟩) (by assumption) ?_
      rotate_left
      · (intro w hSw; (try dsimp only at hSw); go_simp; try with_reducible rfl)
      try simp only [Act.put, List.setIfInBounds_toArray, List.set_cons_zero, List.set_cons_succ]
      refine wpAnyH_take (i := 30) (oi := ⟨some 206, _, _, _, _, _⟩) (v := ?_) rfl (by kernel_rfl) (by kernel_rfl) (by kernel_rfl) (fun _ _ _ h => h) (Or.inl ⟨by rfl, ?_⟩) (by assumption) ?_
      rotate_left
      · (intro w hSw; (try dsimp only at hSw); go_simp; try with_reducible rfl)
      try simp only [Act.put, List.setIfInBounds_toArray, List.set_cons_zero, List.set_cons_succ]
      refine wpAnyH_take (i := 31) (oi := ⟨some 207, _, _, _, _, _⟩) (v := ?_) rfl (by kernel_rfl) (by kernel_rfl) (by kernel_rfl) (fun _ _ _ h => h) (Or.inl ⟨by rfl, ?_⟩) (by assumption) ?_
      rotate_left
      · (intro w hSw; (try dsimp only at hSw); go_simp; try with_reducible rfl)
      try simp only [Act.put, List.setIfInBounds_toArray, List.set_cons_zero, List.set_cons_succ]
      refine wpAnyH_take (i := 32) (oi := ⟨some 208, _, _, _, _, _⟩) (v := ?_) rfl (by kernel_rfl) (by kernel_rfl) (by kernel_rfl) (fun _ _ _ h => h) (Or.inl ⟨by rfl, ?_⟩) (by assumption) ?_
      rotate_left
      · (intro w hSw; (try dsimp only at hSw); go_simp; try with_reducible rfl)
      try simp only [Act.put, List.setIfInBounds_toArray, List.set_cons_zero, List.set_cons_succ]
      refine wpAnyH_take (i := 33) (oi := ⟨some 209, _, _, _, _, _⟩) (v := ?_) rfl (by kernel_rfl) (by kernel_rfl) (by kernel_rfl) (fun _ _ _ h => h) (Or.inl ⟨by rfl, ?_⟩) (by assumption) ?_
      rotate_left
      · (intro w hSw; (try dsimp only at hSw); go_simp; try with_reducible rfl)
      try simp only [Act.put, List.setIfInBounds_toArray, List.set_cons_zero, List.set_cons_succ]
      refine wpAnyH_take (i := 34) (oi := ⟨some 210, _, _, _, _, _⟩) (v := ?_) rfl (by kernel_rfl) (by kernel_rfl) (by kernel_rfl) (fun _ _ _ h => h) (Or.inl ⟨by rfl, ?_⟩) (by assumption) ?_
      rotate_left
      · (intro w hSw; (try dsimp only at hSw); go_simp; try with_reducible rfl)
      try simp only [Act.put, List.setIfInBounds_toArray, List.set_cons_zero, List.set_cons_succ]
      refine wpAnyH_take (i := 35) (oi := ⟨some 211, _, _, _, _, _⟩) (v := ?_) rfl (by kernel_rfl) (by kernel_rfl) (by kernel_rfl) (fun _ _ _ h => h) (Or.inl ⟨by rfl, ?_⟩) (by assumption) ?_
      rotate_left
      · (intro w hSw; (try dsimp only at hSw); go_simp; try with_reducible rfl)
      try simp only [Act.put, List.setIfInBounds_toArray, List.set_cons_zero, List.set_cons_succ]
      refine wpAnyH_take (i := 36) (oi := ⟨some 212, _, _, _, _, _⟩) (v := ?_) rfl (by kernel_rfl) (by kernel_rfl) (by kernel_rfl) (fun _ _ _ h => h) (Or.inl ⟨by rfl, ?_⟩) (by assumption) ?_
      rotate_left
      · (intro w hSw; (try dsimp only at hSw); go_simp; try with_reducible rfl)
      try simp only [Act.put, List.setIfInBounds_toArray, List.set_cons_zero, List.set_cons_succ]
      refine wpAnyH_take (i := 37) (oi := ⟨some 213, _, _, _, _, _⟩) (v := ?_) rfl (by kernel_rfl) (by kernel_rfl) (by kernel_rfl) (fun _ _ _ h => h) (Or.inl ⟨by rfl, ?_⟩) (by assumption) ?_
      rotate_left
      · (intro w hSw; (try dsimp only at hSw); go_simp; try with_reducible rfl)
      try simp only [Act.put, List.setIfInBounds_toArray, List.set_cons_zero, List.set_cons_succ]
      refine wpAnyH_take (i := 38) (oi := ⟨some 214, _, _, _, _, _⟩) (v := ?_) rfl (by kernel_rfl) (by kernel_rfl) (by kernel_rfl) (fun _ _ _ h => h) (Or.inl ⟨by rfl, ?_⟩) (by assumption) ?_
      rotate_left
      · (intro w hSw; (try dsimp only at hSw); go_simp; try with_reducible rfl)
      try simp only [Act.put, List.setIfInBounds_toArray, List.set_cons_zero, List.set_cons_succ]
      refine wpAnyH_take (i := 39) (oi := ⟨some 215, _, _, _, _, _⟩) (v := ?_) rfl (by kernel_rfl) (by kernel_rfl) (by kernel_rfl) (fun _ _ _ h => h) (Or.inl ⟨by rfl, ?_⟩) (by assumption) ?_
      rotate_left
      · (intro w hSw; (try dsimp only at hSw); go_simp; try with_reducible rfl)
      try simp only [Act.put, List.setIfInBounds_toArray, List.set_cons_zero, List.set_cons_succ]
      refine wpAnyH_take (i := 40) (oi := ⟨some 216, _, _, _, _, _⟩) (v := ?_) rfl (by kernel_rfl) (by kernel_rfl) (by kernel_rfl) (fun _ _ _ h => h) (Or.inl ⟨by rfl, ?_⟩) (by assumption) ?_
      rotate_left
      · (intro w hSw; (try dsimp only at hSw); go_simp; try with_reducible rfl)
      try simp only [Act.put, List.setIfInBounds_toArray, List.set_cons_zero, List.set_cons_succ]
      refine wpAnyH_take (i := 41) (oi := ⟨some 6, _, _, _, _, _⟩) (v := ?_) rfl (by kernel_rfl) (by kernel_rfl) (by kernel_rfl) (fun _ _ _ h => h) (Or.inl ⟨by rfl, ?_⟩) (by assumption) ?_
      rotate_left
      · (intro w hSw; (try dsimp only at hSw); go_simp; try with_reducible rfl)
      try simp only [Act.put, List.setIfInBounds_toArray, List.set_cons_zero, List.set_cons_succ]
      refine wpAnyH_done (by kernel_rfl) ?_ _
      go_wp2_with fail
      go_ret
      exact ⟨rfl, (HX.out.trans (had.trans hxwe)).b⟩
end Go.Proofs.Yticggkllfojgkaa
