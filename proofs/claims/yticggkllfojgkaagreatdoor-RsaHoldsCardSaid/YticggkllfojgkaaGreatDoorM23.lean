/-
  The reference's Bytes.
  The walk of the law NatDivs.
  The reference's Power, Hidden, Shown.
  The reference's Hidden.
-/
import Derived.Test.YticggkllfojgkaaGreatDoorM11
import Derived.Test.YticggkllfojgkaaGreatDoorM14
import Derived.Test.YticggkllfojgkaaGreatDoorM18
import Derived.Test.YticggkllfojgkaaGreatDoorM22
namespace Go.Proofs.YticggkllfojgkaaGreatDoor
open Go Go.RowKit
set_option maxRecDepth 4000

set_option maxHeartbeats 1000000 in
theorem Bytes_any {l : List Nat} {A : Option Addr} {n c : Nat} {w : World} (h : Rd vB w A n c l) (hd : Dg 256 l) (hn : n ≤ 1000000000000) :
    Calls Tryz.prog 28 #[.slice A n c] w (FreshN w (vl 256 l.reverse)) := by
  have hlen := h.len
  obtain ⟨r, hr⟩ : ∃ r, l.reverse = r := ⟨_, rfl⟩
  have hrl : r.length = n := by rw [← hr, List.length_reverse, hlen]
  have hdr : Dg 256 r := by rw [← hr]; exact hd.rev
  have hat : ∀ i, i < n → dg l (n - 1 - i) = dg r i := fun i hi => by rw [← hr, dg_rev l i (by omega), hlen]
  rw [hr]
  have HR := Kp.mk h
  have HD := Kp.mk hdr
  have HAT := Kp.mk hat
  clear h hd hr hdr hat
  go_enter Tryz.func28, Tryz.ntmps28
  go_wp2_with fail
  go_loopw [3, 4] (fun ov iv wr => ∃ j : Nat, 2 * j ≤ n + 1 ∧ iv = .int .i64 ((n : Int) - 1 - 2 * (j : Int)) ∧ (∃ A c, ov = .slice A j c) ∧ Rn wr w.heap.size ov j (jn 256 (r.take (2 * j))) ∧ Ext w wr) (fun _ i _ => (intOf i + 3).toNat)
  case atStart => exact ⟨0, by omega, by go_num, ⟨_, _, rfl⟩, Rw.nil _ _, Ext.refl _⟩
  case round =>
    obtain ⟨j, hj, rfl, ⟨Ao, co, rfl⟩, ho, hx⟩ := hrel
    by_cases hlt : 2 * j < n
    · obtain ⟨g, o, rfl⟩ := HR.out.some_ (by omega)
      obtain ⟨i, hi⟩ : ∃ i : Nat, n - 1 - 2 * j = i := ⟨_, rfl⟩
      have e0 : (n : Int) - 1 - 2 * (j : Int) = (i : Int) := by omega
      rw [e0]
      have k1 : wr.cell? ⟨g, o + i, none⟩ = some (.int .u8 (dg l i : Int)) := (HR.out.ext hx).dig i (by omega)
      have ha := HAT.out (2 * j) hlt
      rw [hi] at ha
      rw [ha] at k1
      have h1 := HD.out.at (by decide) (2 * j)
      have b0 : (i : Int) < (n : Int) := by omega
      have HRO := Kp.mk ho
      have HX := Kp.mk hx
      have HE := Kp.mk (And.intro hi e0)
      by_cases h2 : 2 * j + 1 < n
      · obtain ⟨k, hk⟩ : ∃ k, i = k + 1 := ⟨i - 1, by omega⟩
        have k2 : wr.cell? ⟨g, o + k, none⟩ = some (.int .u8 (dg l k : Int)) := (HR.out.ext hx).dig k (by omega)
        have ha2 := HAT.out (2 * j + 1) h2
        rw [show n - 1 - (2 * j + 1) = k by omega] at ha2
        rw [ha2] at k2
        have h3 := HD.out.at (by decide) (2 * j + 1)
        have HT := Kp.mk (jn_take2 256 r j (by omega))
        have HK := Kp.mk hk
        have b2 : (k : Int) < (n : Int) := by omega
        have e1 : (i : Int) - 1 = (k : Int) := by omega
        have g1 : (0 : Int) < (i : Int) := by omega
        have g2 : 0 < i := by omega
        clear hk
        clear ho hx hi e0 ha ha2
        generalize dg r (2 * j) = x at *
        generalize dg r (2 * j + 1) = y at *
        obtain ⟨z, hz⟩ : ∃ z : Nat, x + y * 256 = z := ⟨_, rfl⟩
        obtain ⟨v, hv⟩ : ∃ v : Nat, y * 256 = v := ⟨_, rfl⟩
        have e6 : (y : Int) * 256 = (v : Int) := by omega
        have e5 : (x : Int) + (v : Int) = (z : Int) := by omega
        have b6 : (v : Int) < 65536 := by omega
        have b5 : (z : Int) < 65536 := by omega
        have b7 : (x : Int) < 256 := by omega
        have b8 : (y : Int) < 256 := by omega
        rw [hz] at HT
        clear hz hv
        go_wp2_with (first | (at_builtin; refine wpList_append_I rfl (.tmp 29) (.tmp 31) rfl w.heap.size (.slice Ao j co) j _ rfl (HRO.out.ext (by (repeat (first | assumption | exact Ext.refl _ | apply Ext.drew | apply Ext.drewN | apply Ext.alloc | refine Ext.trans ?_ (by assumption))); first | done | fail)) _ 1 1 [z] rfl (lit1 _ _ _ rfl) (by omega) (j + 1) rfl _ HT.out.symm w (HX.out.trans (by (repeat (first | assumption | exact Ext.refl _ | apply Ext.drew | apply Ext.drewN | apply Ext.alloc | refine Ext.trans ?_ (by assumption))); first | done | fail)) (Nat.le_refl _) (HX.out.trans (by (repeat (first | assumption | exact Ext.refl _ | apply Ext.drew | apply Ext.drewN | apply Ext.alloc | refine Ext.trans ?_ (by assumption))); first | done | fail)).size ?_; intro A5 c5 w5 ho5 hx5 _) | fail)
        go_roundw
        case rel => have hi := HE.out; have hk := HK.out; exact ⟨j + 1, by omega, by go_num, ⟨_, _, rfl⟩, ho5, hx5⟩
        case measure => have hi := HE.out; have hk := HK.out; simp [intOf]; omega
      · have HT := Kp.mk (jn_take1 256 r j (by omega))
        obtain rfl : i = 0 := by omega
        rw [Nat.add_zero] at k1
        rw [show ((0 : Nat) : Int) = 0 from rfl] at b0 ⊢
        clear ho hx hi e0 ha
        generalize dg r (2 * j) = x at *
        have b7 : (x : Int) < 256 := by omega
        go_wp2_with (first | (at_builtin; refine wpList_append_I rfl (.tmp 29) (.tmp 31) rfl w.heap.size (.slice Ao j co) j _ rfl (HRO.out.ext (by (repeat (first | assumption | exact Ext.refl _ | apply Ext.drew | apply Ext.drewN | apply Ext.alloc | refine Ext.trans ?_ (by assumption))); first | done | fail)) _ 1 1 [x] rfl (lit1 _ _ _ (by first | rfl | omega)) (by omega) (j + 1) rfl _ HT.out.symm w (HX.out.trans (by (repeat (first | assumption | exact Ext.refl _ | apply Ext.drew | apply Ext.drewN | apply Ext.alloc | refine Ext.trans ?_ (by assumption))); first | done | fail)) (Nat.le_refl _) (HX.out.trans (by (repeat (first | assumption | exact Ext.refl _ | apply Ext.drew | apply Ext.drewN | apply Ext.alloc | refine Ext.trans ?_ (by assumption))); first | done | fail)).size ?_; intro A5 c5 w5 ho5 hx5 _) | fail)
        go_roundw
        case rel => have hi := HE.out; exact ⟨j + 1, by omega, by go_num, ⟨_, _, rfl⟩, ho5, hx5⟩
        case measure => simp [intOf]
    · rw [List.take_of_length_le (by omega)] at ho
      have b0 : decide ((0 : Int) ≤ (n : Int) - 1 - 2 * (j : Int)) = false := decide_eq_false (by omega)
      have C := Kp.mk (FreshN.of_trim (v := vl 256 r) ho (jn_dg (by decide) HD.out) (by omega) (jn_vl 256 r) hx)
      clear ho hx
      generalize (n : Int) - 1 - 2 * (j : Int) = y at *
      go_wp2_with fail
      refine C.out.mono ?_
      rintro e w2 ⟨A2, n2, c2, rfl, hr2, ho2, hx2⟩
      go_wp2_with fail
      go_ret
      exact ⟨A2, n2, c2, rfl, hr2, ho2, hx2⟩
end Go.Proofs.YticggkllfojgkaaGreatDoor
namespace Go.Proofs.YticggkllfojgkaaGreatDoor
open Go Go.RowKit
set_option maxRecDepth 4000

section
variable {w : World} {A B E : Option Addr} {n c m d k f va vb ve : Nat}
theorem rd_n {v k : Nat} (h : Rd vI w A n c (dgs 65536 v)) (hv : v < BB ^ k) : n ≤ 2 * k := by have h1 := len16 hv; have h2 := h.len; omega
theorem RDivV {j k : Nat} (ha : Rd vI w A n c (dgs 65536 va)) (hb : Rd vI w B m d (dgs 65536 vb)) (la : va < BB ^ j) (lb : vb < BB ^ k) (hj : j ≤ 400) (hk : k ≤ 400) (h0 : vb ≠ 0) : Calls Tryz.prog 77 #[.slice A n c, .slice B m d] w (DivR w va vb) :=
  div_any ⟨ha, by have := rd_n ha la; omega⟩ ⟨hb, by have := rd_n hb lb; omega⟩ (by have := rd_n ha la; omega) (by have := rd_n hb lb; omega) h0
theorem RRestV {j k : Nat} (ha : Rd vI w A n c (dgs 65536 va)) (hb : Rd vI w B m d (dgs 65536 vb)) (la : va < BB ^ j) (lb : vb < BB ^ k) (hj : j ≤ 400) (hk : k ≤ 400) (h0 : vb ≠ 0) : Calls Tryz.prog 52 #[.slice A n c, .slice B m d] w (FreshN w (va % vb)) :=
  rest_any ⟨ha, by have := rd_n ha la; omega⟩ ⟨hb, by have := rd_n hb lb; omega⟩ (by have := rd_n ha la; omega) (by have := rd_n hb lb; omega) h0
theorem RExpV {i j k l : Nat} (ha : Rd vI w A n c (dgs 65536 va)) (he : Rd vI w E l f (dgs 65536 ve)) (hb : Rd vI w B m d (dgs 65536 vb)) (la : va < BB ^ i) (le : ve < BB ^ j) (lb : vb < BB ^ k) (hi : i ≤ 400) (hj : j ≤ 400) (hk : k ≤ 400) (h0 : vb ≠ 0) : Calls Tryz.prog 31 #[.slice A n c, .slice E l f, .slice B m d] w (FreshN w (va ^ ve % vb)) :=
  exp_any ⟨ha, by have := rd_n ha la; omega⟩ ⟨he, by have := rd_n he le; omega⟩ ⟨hb, by have := rd_n hb lb; omega⟩ (by have := rd_n ha la; omega) (by have := rd_n he le; omega) (by have := rd_n hb lb; omega) h0
end
end Go.Proofs.YticggkllfojgkaaGreatDoor
namespace Go.Proofs.YticggkllfojgkaaGreatDoor
open Go Go.RowKit
set_option maxRecDepth 4000

/-- bytes, and that they are it -/
def YesB (w : World) (n : Nat) (l : List (BitVec 8)) (e : Ending) (w' : World) : Prop := ∃ A c, e = .returned (.tuple #[.slice A n c, .bool true]) ∧ Bs w' A n c l ∧ Ext w w'
def NoB (w : World) (e : Ending) (w' : World) : Prop := e = .returned (.tuple #[.slice none 0 0, .bool false]) ∧ Ext w w'
theorem b256 (j : Nat) : (256 : Nat) ^ (4 * j) = BB ^ j := by rw [Nat.pow_mul]
section
variable {A B D : Option Addr} {n c m d k f vt vn j : Nat} {w : World} {l : List (BitVec 8)}
theorem bytes_num (hl : Bs w A n c l) (hn : n ≤ 1000000) : Calls Tryz.prog 28 #[.slice A n c] w (FreshN w (bnum l)) := Bytes_any (Rd.of_sl hl.s) (Dg.of_bytes l) (by omega)
set_option maxHeartbeats 2000000 in
theorem Power_some (hl : Bs w A n c l) (ht : Nv w B m d vt) (hv : Nv w D k f vn) (lt : vt < BB ^ j) (hj : j ≤ 400) (h128 : nb vn ≤ 128) (h0 : vn ≠ 0) {r : List (BitVec 8)} (h : rs l vt vn = some r) :
    Calls Tryz.prog 11 #[.slice A n c, .slice B m d, .slice D k f] w (YesB w (nb vn) r) := by
  obtain ⟨h1, h2, h3⟩ := rs_some h
  have hlen := hl.len
  obtain ⟨N, hN⟩ : ∃ N, nb vn = N := ⟨_, rfl⟩
  have bn := nb_bb h128
  have bb : bnum l < BB ^ 32 := Nat.lt_trans h2 bn
  have hmod : bnum l ^ vt % vn < vn := Nat.mod_lt _ (Nat.pos_of_ne_zero h0)
  have hnp := nb_mod hmod
  obtain ⟨z, hz⟩ : ∃ z, cmpI (bnum l) vn = z := ⟨_, rfl⟩
  have Z := Kp.mk (cmpI_lt h2)
  obtain rfl : n = N := by omega
  rw [hN] at hnp h3 h128 ⊢
  have HS := Kp.mk hN
  have HL := Kp.mk hl
  have HT := Kp.mk ht
  have HV := Kp.mk hv
  have HLT := Kp.mk lt
  have HBN := Kp.mk bn
  have HBB := Kp.mk bb
  have HNP := Kp.mk hnp
  have H0 := Kp.mk h0
  have H3 := Kp.mk h3
  clear h h1 h2 h3 hl ht hv lt bn bb hmod hnp h0 hN hz hlen
  go_enter Tryz.func11, Tryz.ntmps11
  go_wp2_with fail
  refine (OfV HV.out).mono ?_
  rintro e w1 ⟨A1, n1, c1, rfl, r1, _, x1⟩
  have I1 := Kp.mk r1
  have J1 := Kp.mk (Ni.of r1 HBN.out (by decide))
  have q1 : n1 ≤ 800 := by have h1 := len16 HBN.out; have h2 := r1.len; omega
  clear r1
  go_wp2_with fail
  refine (bytes_num (HL.out.ext (by (repeat (first | assumption | exact Ext.refl _ | apply Ext.drew | apply Ext.drewN | apply Ext.alloc | refine Ext.trans ?_ (by assumption))); first | done | fail)) (by omega)).mono ?_
  rintro e w2 ⟨A2, n2, c2, rfl, r2, _, x2⟩
  have I2 := Kp.mk r2
  have J2 := Kp.mk (Ni.of r2 HBB.out (by decide))
  clear r2
  have C := Kp.mk (Size_any (I1.out.ext (show Ext w1 w2 from (by (repeat (first | assumption | exact Ext.refl _ | apply Ext.drew | apply Ext.drewN | apply Ext.alloc | refine Ext.trans ?_ (by assumption))); first | done | fail))) (by omega))
  rw [sz_nb, HS.out] at C
  go_wp2_with fail
  refine C.out.mono ?_
  rintro e w3 ⟨rfl, hw⟩
  subst hw
  clear C
  go_wp2_with fail
  refine (RCmpV (J2.out.ext (by (repeat (first | assumption | exact Ext.refl _ | apply Ext.drew | apply Ext.drewN | apply Ext.alloc | refine Ext.trans ?_ (by assumption))); first | done | fail)) (J1.out.ext (by (repeat (first | assumption | exact Ext.refl _ | apply Ext.drew | apply Ext.drewN | apply Ext.alloc | refine Ext.trans ?_ (by assumption))); first | done | fail)) _ Z.out).mono ?_
  rintro e w4 ⟨rfl, x4⟩
  go_wp2_with fail
  refine (OfV (HT.out.ext (by (repeat (first | assumption | exact Ext.refl _ | apply Ext.drew | apply Ext.drewN | apply Ext.alloc | refine Ext.trans ?_ (by assumption))); first | done | fail))).mono ?_
  rintro e w5 ⟨A5, n5, c5, rfl, r5, _, x5⟩
  have I5 := Kp.mk r5
  clear r5
  go_wp2_with fail
  refine (RExpV (I2.out.ext (by (repeat (first | assumption | exact Ext.refl _ | apply Ext.drew | apply Ext.drewN | apply Ext.alloc | refine Ext.trans ?_ (by assumption))); first | done | fail)) (I5.out.ext (by (repeat (first | assumption | exact Ext.refl _ | apply Ext.drew | apply Ext.drewN | apply Ext.alloc | refine Ext.trans ?_ (by assumption))); first | done | fail)) (I1.out.ext (by (repeat (first | assumption | exact Ext.refl _ | apply Ext.drew | apply Ext.drewN | apply Ext.alloc | refine Ext.trans ?_ (by assumption))); first | done | fail)) HBB.out HLT.out HBN.out (by decide) hj (by decide) H0.out).mono ?_
  rintro e w6 ⟨A6, n6, c6, rfl, r6, _, x6⟩
  have I6 := Kp.mk r6
  clear r6
  go_wp2_with fail
  refine (refWrite_any (k := n) I6.out HNP.out (by omega)).mono ?_
  rintro e w7 ⟨A7, c7, rfl, o7, x7⟩
  rw [← H3.out] at o7
  have HO := Kp.mk o7.bs
  have HX := Kp.mk (show Ext w w7 from (by (repeat (first | assumption | exact Ext.refl _ | apply Ext.drew | apply Ext.drewN | apply Ext.alloc | refine Ext.trans ?_ (by assumption))); first | done | fail))
  clear o7 x1 x2 x4 x5 x6 x7
  go_wp2_with fail
  go_ret2
  exact ⟨A7, c7, rfl, HO.out, HX.out⟩
set_option maxHeartbeats 2000000 in
theorem Power_none (hl : Bs w A n c l) (hv : Nv w D k f vn) (h300 : n ≤ 400) (h128 : nb vn ≤ 128) (h : rs l vt vn = none) :
    Calls Tryz.prog 11 #[.slice A n c, .slice B m d, .slice D k f] w (NoB w) := by
  have hlen := hl.len
  obtain ⟨N, hN⟩ : ∃ N, nb vn = N := ⟨_, rfl⟩
  have bn := nb_bb h128
  have HV := Kp.mk hv
  have HL := Kp.mk hl
  have HS := Kp.mk hN
  have HBN := Kp.mk bn
  obtain ⟨J, hJ, bb⟩ : ∃ J, J ≤ 400 ∧ bnum l < BB ^ J := ⟨n, h300, by
    rw [← b256]
    exact Nat.lt_of_lt_of_le (bnum_lt l) (Nat.pow_le_pow_right (by decide) (by omega))⟩
  have HBB := Kp.mk bb
  by_cases he : n = N
  · subst he
    have hge : vn ≤ bnum l := by
      unfold rs at h
      split at h
      · cases h
      · next h1 =>
        rcases Nat.lt_or_ge (bnum l) vn with h2 | h2
        · exact absurd ⟨by omega, h2⟩ h1
        · exact h2
    obtain ⟨z, hz, z1⟩ := cmpI_up hge
    have Z := Kp.mk hz
    clear h hl hv bn hN hge hz bb
    go_enter Tryz.func11, Tryz.ntmps11
    go_wp2_with fail
    refine (OfV HV.out).mono ?_
    rintro e w1 ⟨A1, n1, c1, rfl, r1, _, x1⟩
    have I1 := Kp.mk r1
    have J1 := Kp.mk (Ni.of r1 HBN.out (by decide))
    have q1 : n1 ≤ 800 := by have h1 := len16 HBN.out; have h2 := r1.len; omega
    clear r1
    go_wp2_with fail
    refine (bytes_num (HL.out.ext (by (repeat (first | assumption | exact Ext.refl _ | apply Ext.drew | apply Ext.drewN | apply Ext.alloc | refine Ext.trans ?_ (by assumption))); first | done | fail)) (by omega)).mono ?_
    rintro e w2 ⟨A2, n2, c2, rfl, r2, _, x2⟩
    have J2 := Kp.mk (Ni.of r2 HBB.out hJ)
    clear r2
    have C := Kp.mk (Size_any (I1.out.ext (show Ext w1 w2 from (by (repeat (first | assumption | exact Ext.refl _ | apply Ext.drew | apply Ext.drewN | apply Ext.alloc | refine Ext.trans ?_ (by assumption))); first | done | fail))) (by omega))
    rw [sz_nb, HS.out] at C
    go_wp2_with fail
    refine C.out.mono ?_
    rintro e w3 ⟨rfl, hw⟩
    subst hw
    clear C
    go_wp2_with fail
    refine (RCmpV (J2.out.ext (by (repeat (first | assumption | exact Ext.refl _ | apply Ext.drew | apply Ext.drewN | apply Ext.alloc | refine Ext.trans ?_ (by assumption))); first | done | fail)) (J1.out.ext (by (repeat (first | assumption | exact Ext.refl _ | apply Ext.drew | apply Ext.drewN | apply Ext.alloc | refine Ext.trans ?_ (by assumption))); first | done | fail)) _ Z.out).mono ?_
    rintro e w4 ⟨rfl, x4⟩
    have HX := Kp.mk (show Ext w w4 from (by (repeat (first | assumption | exact Ext.refl _ | apply Ext.drew | apply Ext.drewN | apply Ext.alloc | refine Ext.trans ?_ (by assumption))); first | done | fail))
    clear x1 x2 x4
    go_wp2_with fail
    go_ret2
    exact ⟨rfl, HX.out⟩
  · have hne : ¬ (n : Int) = (N : Int) := by omega
    clear h hl hv bn hN bb he
    go_enter Tryz.func11, Tryz.ntmps11
    go_wp2_with fail
    refine (OfV HV.out).mono ?_
    rintro e w1 ⟨A1, n1, c1, rfl, r1, _, x1⟩
    have I1 := Kp.mk r1
    have q1 : n1 ≤ 800 := by have h1 := len16 HBN.out; have h2 := r1.len; omega
    clear r1
    go_wp2_with fail
    refine (bytes_num (HL.out.ext (by (repeat (first | assumption | exact Ext.refl _ | apply Ext.drew | apply Ext.drewN | apply Ext.alloc | refine Ext.trans ?_ (by assumption))); first | done | fail)) (by omega)).mono ?_
    rintro e w2 ⟨A2, n2, c2, rfl, r2, _, x2⟩
    clear r2
    have C := Kp.mk (Size_any (I1.out.ext (show Ext w1 w2 from (by (repeat (first | assumption | exact Ext.refl _ | apply Ext.drew | apply Ext.drewN | apply Ext.alloc | refine Ext.trans ?_ (by assumption))); first | done | fail))) (by omega))
    rw [sz_nb, HS.out] at C
    go_wp2_with fail
    refine C.out.mono ?_
    rintro e w3 ⟨rfl, hw⟩
    subst hw
    clear C
    have HX := Kp.mk (show Ext w w3 from (by (repeat (first | assumption | exact Ext.refl _ | apply Ext.drew | apply Ext.drewN | apply Ext.alloc | refine Ext.trans ?_ (by assumption))); first | done | fail))
    clear x1 x2
    go_wp2_with fail
    go_ret2
    exact ⟨rfl, HX.out⟩
end
/-- the first byte 00 -/
theorem fz_eq {l : List (BitVec 8)} {k : Nat} (h : ∀ j, j < k → gb l j ≠ 0) (hk : k < l.length) (h0 : gb l k = 0) : fz l = k := by
  have h1 := fz_le l
  rcases Nat.lt_trichotomy (fz l) k with h2 | h2 | h2
  · exact absurd (fz_at l (by omega)) (h _ h2)
  · exact h2
  · exact absurd h0 (fz_ahead l k h2)
theorem fz_end {l : List (BitVec 8)} (h : ∀ j, j < l.length → gb l j ≠ 0) : fz l = l.length := by
  have h1 := fz_le l
  rcases Nat.lt_or_ge (fz l) l.length with h2 | h2
  · exact absurd (fz_at l h2) (h _ h2)
  · omega
theorem take_two {l : List (BitVec 8)} (h : 2 ≤ l.length) : l.take 2 = [gb l 0, gb l 1] := by
  match l, h with
  | x :: y :: r, _ => simp [gb]
section
variable {A B D : Option Addr} {n c m d k f N : Nat} {w : World} {l l1 l2 : List (BitVec 8)}
/-- what Shown tells -/
def ShownR (w : World) (o : Option (List (BitVec 8))) (e : Ending) (w' : World) : Prop :=
  ∃ A n c t b, e = .returned (.tuple #[.slice A n c, .bool b]) ∧ n ≤ 400 ∧ Bs w' A n c t ∧ Ext w w' ∧ ((b = false ∧ o = none) ∨ (b = true ∧ o = some t))
theorem nul_bs (w : World) : Bs w none 0 0 [] := Bs.nil w
end
end Go.Proofs.YticggkllfojgkaaGreatDoor
namespace Go.Proofs.YticggkllfojgkaaGreatDoor
open Go Go.RowKit
set_option maxRecDepth 4000

section
variable {E F : Option Addr} {p q y z N : Nat} {w : World} {l1 l2 : List (BitVec 8)}
/-- what Hidden tells, where something is amiss -/
def NoHid (w : World) (k : Int) (e : Ending) (w' : World) : Prop := e = .returned (.tuple #[.slice none 0 0, .int .i64 k]) ∧ Ext w w'
def HidR (w : World) (n : Nat) (l : List (BitVec 8)) (e : Ending) (w' : World) : Prop := ∃ A c, e = .returned (.tuple #[.slice A n c, .int .i64 0]) ∧ Bs w' A n c l ∧ Ext w w'
theorem Hid_long (ht : Bs w E p q l1) (hN : N ≤ 1000) (h : N < p + 11) (h62 : 11 ≤ N) (hp : p ≤ 1000000) : Calls Tryz.prog 18 #[.int .i64 (N : Int), .slice E p q, .slice F y z] w (NoHid w 4) := by
  have d1 : (N : Int) - 11 < (p : Int) := by omega
  have w1' : IntKind.i64.wrap ((N : Int) - 11) = (N : Int) - 11 := by rw [IntKind.wrap_i64]; omega
  clear ht
  go_enter Tryz.func18, Tryz.ntmps18
  go_wp2_with fail
  go_ret2
  exact ⟨rfl, (by (repeat (first | assumption | exact Ext.refl _ | apply Ext.drew | apply Ext.drewN | apply Ext.alloc | refine Ext.trans ?_ (by assumption))); first | done | fail)⟩
theorem gb_lit (l : List (BitVec 8)) (i : Nat) (h : i < l.length) : l.take (i + 1) = l.take i ++ [gb l i] := by
  rw [List.take_add_one, List.getElem?_eq_getElem h]
  simp [gb, h]
theorem Own.lit2 (w : World) (a b : BitVec 8) (B : Nat) (hB : B ≤ w.heap.size) : Own (w.alloc (.cells #[.int .u8 (ub a), .int .u8 (ub b)] 5)) B (.slice (some ⟨w.heap.size, 0, none⟩) 2 2) 2 [a, b] := Own.new w B 2 [a, b] rfl hB (by decide)
set_option maxHeartbeats 4000000 in
theorem Hid_bad (ht : Bs w E p q l1) (hf : Bs w F y z l2) (hN : N ≤ 1000) (h : p + 11 ≤ N) (hy : y ≤ 1000000) (hbad : y ≠ N - 3 - p ∨ fz l2 < l2.length) : Calls Tryz.prog 18 #[.int .i64 (N : Int), .slice E p q, .slice F y z] w (NoHid w 1) := by
  have d1 : decide ((N : Int) - 11 < (p : Int)) = false := decide_eq_false (by omega)
  have w1' : IntKind.i64.wrap ((N : Int) - 11) = (N : Int) - 11 := by rw [IntKind.wrap_i64]; omega
  have w2' : IntKind.i64.wrap ((N : Int) - 3) = (N : Int) - 3 := by rw [IntKind.wrap_i64]; omega
  obtain ⟨G, hG⟩ : ∃ G, N - 3 - p = G := ⟨_, rfl⟩
  rw [hG] at hbad
  have d2 : (N : Int) - 3 - (p : Int) = (G : Int) := by omega
  have w3' : IntKind.i64.wrap ((N : Int) - 3 - (p : Int)) = (G : Int) := by rw [IntKind.wrap_i64]; omega
  have w4' : IntKind.i64.wrap (G : Int) = (G : Int) := by rw [IntKind.wrap_i64]; omega
  have hlen := hf.len
  by_cases hq : y = G
  · subst hq
    have hlt : fz l2 < y := by rcases hbad with h | h; exact absurd rfl h; omega
    have HA := Kp.mk (fz_ahead l2)
    have HZ := Kp.mk (fz_at l2 (by omega))
    have HF := Kp.mk hf
    obtain ⟨J, hJ⟩ : ∃ J, fz l2 = J := ⟨_, rfl⟩
    rw [hJ] at hlt HA HZ
    obtain ⟨g, o, rfl, hc⟩ := hf.s.2.2.2 (by omega)
    have HC := Kp.mk hc
    have HO := Kp.mk (Own.lit2 w 0 2 w.heap.size (Nat.le_refl _))
    clear ht hf hbad hJ hc hG h hN
    go_enter Tryz.func18, Tryz.ntmps18
    go_wp2_with fail
    go_loopw [8, 9] (fun ov iv wr => ∃ i : Nat, i ≤ J ∧ iv = .int .i64 (i : Int) ∧ (∃ A c, ov = .slice A (2 + i) c) ∧ Own wr w.heap.size ov (2 + i) ([0, 2] ++ l2.take i) ∧ Ext w wr) (fun _ iv _ => y - (intOf iv).toNat)
    case atStart => exact ⟨0, by omega, rfl, ⟨_, _, rfl⟩, HO.out, (by (repeat (first | assumption | exact Ext.refl _ | apply Ext.drew | apply Ext.drewN | apply Ext.alloc | refine Ext.trans ?_ (by assumption))); first | done | fail)⟩
    case round =>
      obtain ⟨i, hi, rfl, ⟨Ao, co, rfl⟩, ho, hx⟩ := hrel
      have b0 : (i : Int) < (y : Int) := by omega
      have b2 : (i : Int) < 2000000 := by omega
      have ci := (hx.b.cell (p := ⟨g, o + i, none⟩) (block_lt_of_cell (HC.out i (by omega)))).trans (HC.out i (by omega))
      by_cases hq : i = J
      · subst hq
        rw [HZ.out, show ub (0 : BitVec 8) = 0 from rfl] at ci
        have HX := Kp.mk hx
        clear ho hx
        go_wp2_with fail
        go_ret2
        exact ⟨rfl, HX.out⟩
      · have hne := HA.out i (by omega)
        have hn2 : ¬ ub (gb l2 i) = 0 := fun e => hne (by apply BitVec.eq_of_toNat_eq; unfold ub at e; simpa using e)
        have hbe : (ub (gb l2 i) == 0) = false := beq_eq_false_iff_ne.2 hn2
        have HT := Kp.mk (show ([0, 2] ++ l2.take i) ++ [gb l2 i] = [0, 2] ++ l2.take (i + 1) by rw [gb_lit l2 i (by omega), List.append_assoc])
        have HL := Kp.mk (fun (W : World) => lit_bytes W [gb l2 i] #[.int .u8 (ub (gb l2 i))] 1 rfl rfl W.heap.size rfl)
        have HRO := Kp.mk ho
        have HX := Kp.mk hx
        clear ho hx hne
        generalize gb l2 i = x at *
        generalize ub x = v at *
        go_wp2_with (first | (at_builtin; refine wpList_append_bs rfl (.tmp 35) (.tmp 40) rfl w.heap.size (.slice Ao (2 + i) co) (2 + i) _ rfl (HRO.out.ext (by (repeat (first | assumption | exact Ext.refl _ | apply Ext.drew | apply Ext.drewN | apply Ext.alloc | refine Ext.trans ?_ (by assumption))); first | done | fail)) _ 1 1 [x] rfl (HL.out _) (by omega) (2 + (i + 1)) (by omega) _ HT.out w (HX.out.trans (by (repeat (first | assumption | exact Ext.refl _ | apply Ext.drew | apply Ext.drewN | apply Ext.alloc | refine Ext.trans ?_ (by assumption))); first | done | fail)) (Nat.le_refl _) (HX.out.trans (by (repeat (first | assumption | exact Ext.refl _ | apply Ext.drew | apply Ext.drewN | apply Ext.alloc | refine Ext.trans ?_ (by assumption))); first | done | fail)).size ?_; intro A5 c5 w5 ho5 hx5 _) | fail)
        go_roundw
        case rel => exact ⟨i + 1, by omega, by go_num, ⟨_, _, rfl⟩, ho5, hx5⟩
        case measure => simp [intOf]; omega
  · have d4 : ¬ (y : Int) = (G : Int) := by omega
    clear ht hf hbad hG h hN hq
    go_enter Tryz.func18, Tryz.ntmps18
    go_wp2_with fail
    go_ret2
    exact ⟨rfl, (by (repeat (first | assumption | exact Ext.refl _ | apply Ext.drew | apply Ext.drewN | apply Ext.alloc | refine Ext.trans ?_ (by assumption))); first | done | fail)⟩
set_option maxHeartbeats 4000000 in
theorem Hid_ok (ht : Bs w E p q l1) (hf : Bs w F y z l2) (hN : N ≤ 1000) (h : p + 11 ≤ N) (hy : y = N - 3 - p) (hz : fz l2 = l2.length) : Calls Tryz.prog 18 #[.int .i64 (N : Int), .slice E p q, .slice F y z] w (HidR w N (hdL l2 l1)) := by
  have d1 : decide ((N : Int) - 11 < (p : Int)) = false := decide_eq_false (by omega)
  have w1' : IntKind.i64.wrap ((N : Int) - 11) = (N : Int) - 11 := by rw [IntKind.wrap_i64]; omega
  have w2' : IntKind.i64.wrap ((N : Int) - 3) = (N : Int) - 3 := by rw [IntKind.wrap_i64]; omega
  have d2 : (N : Int) - 3 - (p : Int) = (y : Int) := by omega
  have w3' : IntKind.i64.wrap ((N : Int) - 3 - (p : Int)) = (y : Int) := by rw [IntKind.wrap_i64]; omega
  have w4' : IntKind.i64.wrap (y : Int) = (y : Int) := by rw [IntKind.wrap_i64]; omega
  have hlen := hf.len
  have HA := Kp.mk ((fz_all l2).1 hz)
  have HF := Kp.mk hf
  have HTX := Kp.mk ht
  have HO := Kp.mk (Own.lit2 w 0 2 w.heap.size (Nat.le_refl _))
  have hy3 : y ≤ 1000 := by omega
  have HQ := Kp.mk (show 2 + y + 1 + p = N by omega)
  have hp3 : p ≤ 1000 := by omega
  clear ht hf hz h hN hy
  go_enter Tryz.func18, Tryz.ntmps18
  go_wp2_with fail
  go_loopw [8, 9] (fun ov iv wr => ∃ i : Nat, i ≤ y ∧ iv = .int .i64 (i : Int) ∧ (∃ A c, ov = .slice A (2 + i) c) ∧ Own wr w.heap.size ov (2 + i) ([0, 2] ++ l2.take i) ∧ Ext w wr) (fun _ iv _ => y - (intOf iv).toNat)
  case atStart => exact ⟨0, by omega, rfl, ⟨_, _, rfl⟩, HO.out, (by (repeat (first | assumption | exact Ext.refl _ | apply Ext.drew | apply Ext.drewN | apply Ext.alloc | refine Ext.trans ?_ (by assumption))); first | done | fail)⟩
  case round =>
    obtain ⟨i, hi, rfl, ⟨Ao, co, rfl⟩, ho, hx⟩ := hrel
    have b2 : (i : Int) < 2000000 := by omega
    by_cases hlt : i < y
    · have b0 : (i : Int) < (y : Int) := by omega
      obtain ⟨g, o, rfl, hc⟩ := HF.out.s.2.2.2 (by omega)
      have ci := (hx.b.cell (p := ⟨g, o + i, none⟩) (block_lt_of_cell (hc i (by omega)))).trans (hc i (by omega))
      have hne := HA.out i (by omega)
      have hn2 : ¬ ub (gb l2 i) = 0 := fun e => hne (by apply BitVec.eq_of_toNat_eq; unfold ub at e; simpa using e)
      have hbe : (ub (gb l2 i) == 0) = false := beq_eq_false_iff_ne.2 hn2
      have HT := Kp.mk (show ([0, 2] ++ l2.take i) ++ [gb l2 i] = [0, 2] ++ l2.take (i + 1) by rw [gb_lit l2 i (by omega), List.append_assoc])
      have HL := Kp.mk (fun (W : World) => lit_bytes W [gb l2 i] #[.int .u8 (ub (gb l2 i))] 1 rfl rfl W.heap.size rfl)
      have HRO := Kp.mk ho
      have HX := Kp.mk hx
      clear ho hx hne hc
      generalize gb l2 i = x at *
      generalize ub x = v at *
      go_wp2_with (first | (at_builtin; refine wpList_append_bs rfl (.tmp 35) (.tmp 40) rfl w.heap.size (.slice Ao (2 + i) co) (2 + i) _ rfl (HRO.out.ext (by (repeat (first | assumption | exact Ext.refl _ | apply Ext.drew | apply Ext.drewN | apply Ext.alloc | refine Ext.trans ?_ (by assumption))); first | done | fail)) _ 1 1 [x] rfl (HL.out _) (by omega) (2 + (i + 1)) (by omega) _ HT.out w (HX.out.trans (by (repeat (first | assumption | exact Ext.refl _ | apply Ext.drew | apply Ext.drewN | apply Ext.alloc | refine Ext.trans ?_ (by assumption))); first | done | fail)) (Nat.le_refl _) (HX.out.trans (by (repeat (first | assumption | exact Ext.refl _ | apply Ext.drew | apply Ext.drewN | apply Ext.alloc | refine Ext.trans ?_ (by assumption))); first | done | fail)).size ?_; intro A5 c5 w5 ho5 hx5 _) | fail)
      go_roundw
      case rel => exact ⟨i + 1, by omega, by go_num, ⟨_, _, rfl⟩, ho5, hx5⟩
      case measure => simp [intOf]; omega
    · obtain rfl : i = y := by omega
      rw [List.take_of_length_le (by omega)] at ho
      have b0 : decide ((i : Int) < (i : Int)) = false := decide_eq_false (by omega)
      have HRO := Kp.mk ho
      have HX := Kp.mk hx
      have HL := Kp.mk (fun (W : World) => lit_bytes W [0] #[.int .u8 0] 1 rfl rfl W.heap.size rfl)
      clear ho hx hlt
      go_wp2_with (first | (at_builtin; refine wpList_append_bs rfl (.tmp 42) (.tmp 43) rfl w.heap.size (.slice Ao (2 + i) co) (2 + i) _ rfl (HRO.out.ext (by (repeat (first | assumption | exact Ext.refl _ | apply Ext.drew | apply Ext.drewN | apply Ext.alloc | refine Ext.trans ?_ (by assumption))); first | done | fail)) _ 1 1 [0] rfl (HL.out _) (by omega) (2 + i + 1) rfl _ rfl w (HX.out.trans (by (repeat (first | assumption | exact Ext.refl _ | apply Ext.drew | apply Ext.drewN | apply Ext.alloc | refine Ext.trans ?_ (by assumption))); first | done | fail)) (Nat.le_refl _) (HX.out.trans (by (repeat (first | assumption | exact Ext.refl _ | apply Ext.drew | apply Ext.drewN | apply Ext.alloc | refine Ext.trans ?_ (by assumption))); first | done | fail)).size ?_; intro A5 c5 w5 ho5 hx5 _) | (at_builtin; refine wpList_append_bs rfl (.tmp 45) (.tmp 46) rfl w.heap.size (.slice A5 (2 + i + 1) c5) (2 + i + 1) _ rfl ho5 _ p q l1 rfl (HTX.out.ext hx5) (by omega) N HQ.out _ rfl w hx5 (Nat.le_refl _) hx5.size ?_; intro A6 c6 w6 ho6 hx6 _) | fail)
      go_ret2
      exact ⟨A6, c6, rfl, ho6.bs, hx6⟩
end
end Go.Proofs.YticggkllfojgkaaGreatDoor
