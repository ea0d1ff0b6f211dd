/-
  The reference's Div, Rest.
-/
import Derived.Test.YtpmoaccaknfodaaQd
import Derived.Test.YtpmoaccaknfodaaQe
namespace Go.Proofs.Ytpmoaccaknfodaa
open Go Go.RowKit

theorem cons_dgs {x R : Nat} (hx : x < 65536) : vl 65536 ([x] ++ dgs 65536 R) = x + 65536 * R ∧ Dg 65536 ([x] ++ dgs 65536 R) :=
  ⟨by rw [List.singleton_append]; show x + 65536 * vl 65536 (dgs 65536 R) = _; rw [vl_dgs (by decide)], (Dg.one hx).append (cn_dgs (by decide) R).d⟩
theorem one_dgs {d : Nat} (h0 : d ≠ 0) (hd : d < 65536) : [d] = dgs 65536 d := dgs_of (by decide) ⟨Dg.one hd, by simpa using h0⟩ (by simp [vl])
theorem len_mul {r vb m : Nat} (h : r < 65536 * vb) (hb : (dgs 65536 vb).length = m) : (dgs 65536 r).length ≤ m + 1 := by
  refine (len_iff (by decide) r (m + 1)).2 ?_
  have h1 := (len_iff (B := 65536) (by decide) vb m).1 (by omega)
  rw [Nat.pow_succ]
  omega
theorem cmpI_ge {a b : Nat} (h : b ≤ a) : ¬ cmpI a b < 0 := by
  rcases Nat.lt_or_ge b a with h1 | h1
  · rw [cmpI_gt h1]; decide
  · rw [show a = b by omega, cmpI_eq]; decide
theorem litI_own (w : World) (x : Nat) (a : Int) (B : Nat) (ha : a = (x : Int)) (hB : B ≤ w.heap.size) : Rn (w.alloc (.cells #[.int .i64 a] it)) B (.slice (some ⟨w.heap.size, 0, none⟩) 1 1) 1 [x] := by
  subst ha
  exact Rw.has (Has.new w it _ _ rfl) (by rfl) hB (by decide)
/-- between the rounds -/
structure DvW (w : World) (a : List Nat) (vb n i R : Nat) (qs : List Nat) (A2 : Option Addr) (n2 c2 : Nat) (wr : World) : Prop where
  s : DivS 65536 a vb i qs R
  q : Rn wr w.heap.size (.slice (some ⟨w.heap.size, 0, none⟩) n n) n qs
  r : Rn wr (w.heap.size + 1) (.slice A2 n2 c2) n2 (dgs 65536 R)
  x : Ext w wr
  sz : w.heap.size + 1 ≤ wr.heap.size
structure DtW (w : World) (a : List Nat) (vb n k r d : Nat) (qs : List Nat) (A2 : Option Addr) (n2 c2 : Nat) (wr : World) : Prop where
  s : DivT 65536 a vb k qs r d
  q : Rn wr w.heap.size (.slice (some ⟨w.heap.size, 0, none⟩) n n) n qs
  r : Rn wr (w.heap.size + 1) (.slice A2 n2 c2) n2 (dgs 65536 r)
  x : Ext w wr
  sz : w.heap.size + 1 ≤ wr.heap.size
def DivR (w : World) (va vb : Nat) (e : Ending) (w' : World) : Prop :=
  ∃ A1 n1 c1 A2 n2 c2, e = .returned (.tuple #[.slice A1 n1 c1, .slice A2 n2 c2]) ∧ Rn w' w.heap.size (.slice A1 n1 c1) n1 (dgs 65536 (va / vb)) ∧ Rn w' w.heap.size (.slice A2 n2 c2) n2 (dgs 65536 (va % vb)) ∧ Ext w w'
set_option maxHeartbeats 4000000 in
theorem div_any {A B : Option Addr} {n c m d va vb : Nat} {w : World} (ha : Ni w A n c va) (hb : Ni w B m d vb) (hn : n ≤ 100000) (hm : m ≤ 100000) (h0 : vb ≠ 0) :
    Calls Try.prog 26 #[.slice A n c, .slice B m d] w (DivR w va vb) := by
  have hla := ha.r.len
  have hlb := hb.r.len
  have HA := Kp.mk ha
  have HB := Kp.mk hb
  have hmk := run_makeI n (n : Int) rfl (by omega)
  have hst := DivS.start (B := 65536) (by decide) (dgs 65536 va) (Nat.pos_of_ne_zero h0)
  rw [hla] at hst
  have HST := Kp.mk (show DvW w (dgs 65536 va) vb n n 0 (List.replicate n 0) none 0 0 (w.alloc (.cells (zI n) it)) from
    ⟨hst, makeI_own w n (by omega), Rw.nil _ _, (by (repeat (first | assumption | exact Ext.refl _ | apply Ext.drew | apply Ext.drewN | apply Ext.alloc | refine Ext.trans ?_ (by assumption))); first | done | fail), by simp⟩)
  clear ha hb hst
  generalize zI n = ZZ at *
  go_enter Try.func26, Try.ntmps26
  go_wp2_with fail
  go_loopw [7, 8] (fun rv iv wr => ∃ i R : Nat, ∃ qs A2 n2 c2, i ≤ n ∧ iv = .int .i64 ((i : Int) - 1) ∧ rv = .slice A2 n2 c2 ∧ DvW w (dgs 65536 va) vb n i R qs A2 n2 c2 wr) (fun _ i _ => (intOf i + 1).toNat)
  case atStart => exact ⟨n, 0, _, _, _, _, Nat.le_refl _, rfl, rfl, HST.out⟩
  case round =>
    obtain ⟨i, R, qs, A2, n2, c2, hi, rfl, rfl, hs⟩ := hrel
    have HS := Kp.mk hs
    clear hs
    by_cases hi0 : i = 0
    · subst hi0
      obtain ⟨v1, v2⟩ := HS.out.s.done
      rw [vl_dgs (B := 65536) (by decide)] at v1 v2
      have CT := Kp.mk (trim_own HS.out.q HS.out.s.d (by omega))
      have HF := Kp.mk (And.intro v1 v2)
      clear v1 v2
      go_wp2_with fail
      refine CT.out.mono ?_
      rintro e w2 ⟨m2, rfl, hr2, rfl⟩
      rw [HF.out.1] at hr2
      have hr3 := HS.out.r
      rw [HF.out.2] at hr3
      have HE := Kp.mk (show DivR w va vb (.returned (.tuple #[.slice (some ⟨w.heap.size, 0, none⟩) m2 n, .slice A2 n2 c2])) w2 from ⟨_, _, _, _, _, _, rfl, hr2, hr3.lower (by omega), HS.out.x⟩)
      clear hr2 hr3
      go_wp2_with fail
      go_ret2
      exact HE.out
    · obtain ⟨k, rfl⟩ : ∃ k, i = k + 1 := ⟨i - 1, by omega⟩
      have e0 : ((k + 1 : Nat) : Int) - 1 = (k : Int) := by omega
      rw [e0]
      obtain ⟨g, o, rfl⟩ := HA.out.r.some_ (by omega)
      have k1 : ∀ u, Ext wr u → u.cell? ⟨g, o + k, none⟩ = some (.int .i64 (dg (dgs 65536 va) k : Int)) := fun u h => (HA.out.r.ext (HS.out.x.trans h)).dig k (by omega)
      have b0 : (k : Int) < (n : Int) := by omega
      have hx0 := (cn_dgs (B := 65536) (by decide) va).d.at (by decide) k
      have hte := HS.out.s.enter (cn_dgs (B := 65536) (by decide) va).d (by decide)
      obtain ⟨x, hx⟩ : ∃ x, dg (dgs 65536 va) k = x := ⟨_, rfl⟩
      rw [hx] at k1 hx0 hte
      have HTE := Kp.mk hte
      have hR := (len_iff (B := 65536) (by decide) R m).2 (Nat.lt_trans HS.out.s.lt ((len_iff (B := 65536) (by decide) vb m).1 (by omega)))
      have hn2 : n2 ≤ 100000 := by have := HS.out.r.len; omega
      obtain ⟨hv, hd⟩ := cons_dgs (R := R) hx0
      have HV := Kp.mk (And.intro hv hd)
      have hcl := fun (u : World) (A5 : Option Addr) (c5 : Nat) (h : Rn u wr.heap.size (.slice A5 (1 + n2) c5) (1 + n2) ([x] ++ dgs 65536 R)) => trim_own h HV.out.2 (by omega)
      rw [hv] at hcl
      have CT := Kp.mk hcl
      clear hx hte hv hd hR hcl
      have hsz := HS.out.sz
      go_wp2_with (first | (go_at_call 38; refine (CT.out _ _ _ ho5).mono ?_; rintro e w6 ⟨m6, rfl, hr6, rfl⟩) | (at_builtin; refine wpList_append_I rfl (.tmp 24) (.tmp 25) rfl wr.heap.size _ 1 [x] rfl (litI_own _ x _ _ rfl (show Ext wr _ from (by (repeat (first | assumption | exact Ext.refl _ | apply Ext.drew | apply Ext.drewN | apply Ext.alloc | refine Ext.trans ?_ (by assumption))); first | done | fail)).size) _ _ _ _ rfl (HS.out.r.rd.ext (by (repeat (first | assumption | exact Ext.refl _ | apply Ext.drew | apply Ext.drewN | apply Ext.alloc | refine Ext.trans ?_ (by assumption))); first | done | fail)) (by omega) (1 + n2) rfl _ rfl wr (by (repeat (first | assumption | exact Ext.refl _ | apply Ext.drew | apply Ext.drewN | apply Ext.alloc | refine Ext.trans ?_ (by assumption))); first | done | fail) (Nat.le_refl _) (show Ext wr _ from (by (repeat (first | assumption | exact Ext.refl _ | apply Ext.drew | apply Ext.drewN | apply Ext.alloc | refine Ext.trans ?_ (by assumption))); first | done | fail)).size ?_; intro A5 c5 w5 ho5 hx5 _) | fail)
      have HD := Kp.mk (show DtW w (dgs 65536 va) vb n k (x + 65536 * R) 0 qs A5 m6 c5 w6 from ⟨HTE.out, HS.out.q.ext hx5, hr6.lower hsz, HS.out.x.trans hx5, Nat.le_trans hsz hx5.size⟩)
      clear ho5 hx5 hr6 hsz CT HV HTE hn2 hx0 k1 hi0 HS
      obtain ⟨wo, rfl⟩ : ∃ wo : World, wo = wr := ⟨_, rfl⟩
      go_loopw [7] (fun rv wq => ∃ r d : Nat, ∃ qs A2 n2 c2, rv = .slice A2 n2 c2 ∧ DtW w (dgs 65536 va) vb n k r d qs A2 n2 c2 wq) (fun rv wq => rdI wq rv)
      case atStart => exact ⟨_, _, _, _, _, _, rfl, HD.out⟩
      case round =>
        clear HD
        obtain ⟨r, d2, qs, A2, n2, c2, rfl, hs⟩ := hrel
        have hlt : r < 65536 * vb := by have := hs.s.lt; omega
        have hn2 : n2 ≤ 1000000 := by
          have h1 := len_mul hlt hlb
          have h2 := hs.r.len
          omega
        have NR := Kp.mk (show Ni wr A2 n2 c2 r from ⟨hs.r.rd, hn2⟩)
        have HS := Kp.mk hs
        by_cases hr : r < vb
        · have C1 := Kp.mk (RCmpV NR.out (HB.out.ext HS.out.x) (-1) (cmpI_lt hr))
          have HR := Kp.mk hr
          clear hs hr hlt hn2
          go_wp2_with fail
          refine C1.out.mono ?_
          rintro e w3 ⟨rfl, hx3⟩
          have HF := Kp.mk (show DvW w (dgs 65536 va) vb n k r qs A2 n2 c2 w3 from ⟨HS.out.s.leave HR.out, HS.out.q.ext hx3, HS.out.r.ext hx3, HS.out.x.trans hx3, Nat.le_trans HS.out.sz hx3.size⟩)
          clear hx3
          go_wp2_with fail
          go_roundw
          case rel => exact ⟨k, r, qs, A2, n2, c2, by omega, by go_num, rfl, HF.out⟩
          case measure => simp [intOf]
        · obtain ⟨z, hz, hz0⟩ : ∃ z, cmpI r vb = z ∧ ¬ z < 0 := ⟨_, rfl, cmpI_ge (Nat.le_of_not_lt hr)⟩
          have C1 := Kp.mk (RCmpV NR.out (HB.out.ext HS.out.x) z hz)
          have C2 := Kp.mk (fun u (h : Ext wr u) => fit_any (NR.out.ext h) ((HB.out.ext HS.out.x).ext h) h0 (Nat.le_of_not_lt hr) hlt)
          have hz1 : (0 : Int) ≤ z := by omega
          clear hs hz hz0
          go_wp2_with fail
          refine C1.out.mono ?_
          rintro e w3 ⟨rfl, hx3⟩
          go_wp2_with fail
          refine (C2.out _ hx3).mono ?_
          rintro e w4 ⟨d3, rfl, p1, p2, p3, hx4⟩
          have hle : vb * d3 ≤ r := by rw [Nat.mul_comm]; exact p2
          have HP := Kp.mk (And.intro p1 (And.intro p3 hle))
          obtain ⟨hnx, hdd⟩ := HS.out.s.next (Nat.pos_of_ne_zero h0) (by omega) p2
          have hq4 := HS.out.q.ext (hx3.trans hx4)
          have k3 := hq4.cell k _ (dg_in qs k (by rw [hq4.len]; omega))
          rw [HS.out.s.dk] at k3
          unfold vI at k3
          have k4 := hq4.free k
          have HNX := Kp.mk hnx
          have HQ4 := Kp.mk (hq4.set k (d2 + d3))
          have hr4 := HS.out.r.ext (hx3.trans hx4)
          have HR4 := Kp.mk (hr4.far (p := ⟨w.heap.size, k, none⟩) (fun e => Nat.not_succ_le_self _ (hr4.base _ e)) (vI (d2 + d3)))
          have HX4 := Kp.mk ((HS.out.x.trans (hx3.trans hx4)).setCell (p := ⟨w.heap.size, k, none⟩) (Nat.le_refl _) (vI (d2 + d3)))
          have hdi : (d2 : Int) + (d3 : Int) < 65536 := by omega
          have HZ4 := Kp.mk (Nat.le_trans HS.out.sz (hx3.trans hx4).size)
          obtain ⟨E, hE⟩ : ∃ E, d2 + d3 = E := ⟨_, rfl⟩
          have e5 : (d2 : Int) + (d3 : Int) = (E : Int) := by omega
          rw [hE] at HQ4 HR4 HX4 HNX
          unfold vI at HQ4 HR4 HX4
          clear hq4 hr4 hx3 hx4 hnx hdd hle p1 p2 p3 hE C1 C2
          go_wp2_with fail
          have hsz : (w4.setCell ⟨w.heap.size, k, none⟩ (.int .i64 (E : Int))).heap.size = w4.heap.size := by simp
          rw [← hsz]
          generalize w4.setCell ⟨w.heap.size, k, none⟩ (.int .i64 (E : Int)) = w5 at *
          have hN3 : Ni (w5.alloc (.cells #[.int .i64 (d3 : Int)] it)) (some ⟨w5.heap.size, 0, none⟩) 1 1 d3 := ⟨by rw [← one_dgs (by have := HP.out.1; omega) HP.out.2.1]; exact lit1 w5 d3 _ rfl, by omega⟩
          refine (RMulV (HB.out.ext (HX4.out.trans (by (repeat (first | assumption | exact Ext.refl _ | apply Ext.drew | apply Ext.drewN | apply Ext.alloc | refine Ext.trans ?_ (by assumption))); first | done | fail))) hN3).mono ?_
          clear hN3
          rintro e w6 ⟨A6, n6, c6, rfl, r6, _, hx6⟩
          have hx56 : Ext w5 w6 := (show Ext w5 (w5.alloc (.cells #[.int .i64 (d3 : Int)] it)) from (by (repeat (first | assumption | exact Ext.refl _ | apply Ext.drew | apply Ext.drewN | apply Ext.alloc | refine Ext.trans ?_ (by assumption))); first | done | fail)).trans hx6
          have hn6 : n6 ≤ 1000000 := by
            have h1 := len_mul (Nat.lt_of_le_of_lt HP.out.2.2 hlt) hlb
            have h2 := r6.len
            omega
          have C4 := Kp.mk (RSubV (show Ni w6 A2 n2 c2 r from ⟨(HR4.out.ext hx56).rd, hn2⟩) (show Ni w6 A6 n6 c6 (vb * d3) from ⟨r6, hn6⟩) HP.out.2.2)
          have HX6 := Kp.mk hx56
          clear r6 hx6 hx56 hn6
          go_wp2_with fail
          refine C4.out.mono ?_
          rintro e w7 ⟨A7, n7, c7, rfl, r7, o7, hx7⟩
          have hx57 := HX6.out.trans hx7
          have HD7 := Kp.mk (show DtW w (dgs 65536 va) vb n k (r - vb * d3) E (qs.set k E) A7 n7 c7 w7 from
            ⟨HNX.out, HQ4.out.ext hx57, o7.lower (Nat.le_trans (Nat.le_of_eq rfl) (Nat.le_trans (by rw [← hsz] at HZ4; exact HZ4.out) HX6.out.size)), HX4.out.trans hx57, Nat.le_trans (by rw [← hsz] at HZ4; exact HZ4.out) hx57.size⟩)
          have HM := Kp.mk (show rdI w7 (.slice A7 n7 c7) < rdI wr (.slice A2 n2 c2) by
            rw [rdI_eq r7, rdI_eq HS.out.r.rd]
            have h1 := HP.out.1
            have h2 : 1 * 1 ≤ vb * d3 := Nat.mul_le_mul (Nat.pos_of_ne_zero h0) h1
            have h3 := HP.out.2.2
            omega)
          clear r7 o7 hx7 hx57 C4
          go_wp2_with fail
          go_roundw
          case rel => exact ⟨_, _, _, _, _, _, rfl, HD7.out⟩
          case measure => exact HM.out
/-- what is left -/
theorem rest_any {A B : Option Addr} {n c m d va vb : Nat} {w : World} (ha : Ni w A n c va) (hb : Ni w B m d vb) (hn : n ≤ 100000) (hm : m ≤ 100000) (h0 : vb ≠ 0) :
    Calls Try.prog 31 #[.slice A n c, .slice B m d] w (FreshN w (va % vb)) := by
  have C := Kp.mk (div_any ha hb hn hm h0)
  clear ha hb
  go_enter Try.func31, Try.ntmps31
  go_wp2_with fail
  refine C.out.mono ?_
  rintro e w1 ⟨A1, n1, c1, A2, n2, c2, rfl, o1, o2, x1⟩
  have HF := Kp.mk (show FreshN w (va % vb) (.returned (.slice A2 n2 c2)) w1 from ⟨_, _, _, rfl, o2.rd, o2, x1⟩)
  clear o1 o2 x1
  go_wp2_with fail
  go_ret
  exact HF.out
end Go.Proofs.Ytpmoaccaknfodaa
