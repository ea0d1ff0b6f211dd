/-
  nat: reduce.
-/
import Derived.Test.YtpmoaccaknfodaaDoorNx
namespace Go.Proofs.YtpmoaccaknfodaaDoor
open Go Go.RowKit

theorem guess_at {a b : List Nat} {A B : Option Addr} {n c m d : Nat} {w : World} (ha : Rd vL w A n c a) (hb : Rd vL w B m d b) (hn : n = m + 1) (hm : 2 ≤ m) (da : Dg BB a) (db : Dg BB b) (hq : m ≤ 1000000000) (ht : dg b (m - 1) ≠ 0) (hlt : vl BB a < vl BB b * BB) :
    Calls Tryd.prog 51 #[.slice A n c, .slice B m d] w fun e w' => ∃ t : Nat, e = .returned (.int .u32 (t : Int)) ∧ t < 4294967296 ∧ vl BB a / vl BB b ≤ t ∧ t ≤ vl BB a / vl BB b + 1 ∧ Ext w w' := by
  obtain ⟨q, rfl⟩ : ∃ q, m = q + 2 := ⟨m - 2, by omega⟩
  subst hn
  exact guess_any ha hb da db (by omega) ht hlt
theorem run_midL (g n c i k : Nat) (x y : Int) (hx : x = (i : Int)) (hy : y = ((i + k : Nat) : Int)) (hk : i + k ≤ n) (hn : n ≤ c) (h0 : 0 < k) (w : World) :
    (Instr.sliceAt nt (.slice (some ⟨g, 0, none⟩) n c) (some (.int .i64 x)) (some (.int .i64 y)) none).run Tryd.prog w = .ok (.slice (some ⟨g, i, none⟩) k (c - i)) w := by
  subst hx hy
  have hadd : (⟨g, 0, none⟩ : Addr).add i = ⟨g, i, none⟩ := by unfold Addr.add; split <;> simp_all
  have hs := szL
  cases hq : Tryd.prog.info? ut with
  | none => simp [hq] at hs
  | some j =>
    have hs1 : j.size = 1 := by simpa [hq] using hs
    have e1 : 0 ≤ (i : Int) + (k : Int) := by omega
    have e2 : (i : Int) + (k : Int) ≤ c := by omega
    have e3 : ((i : Int) + (k : Int)).toNat = i + k := by omega
    have e4 : ¬ c = i := by omega
    simp [Instr.sliceAt, Instr.slice, run_underlying Tryd.underlying25, Instr.sliceBounds, Instr.sliceBound, asIntOf, sizeOf, typeInfo, hq, hs1, e1, e2, e3, e4, hadd]
/-- what is left, and how often -/
def Reduced (w : World) (g gt N K V vb : Nat) (e : Ending) (w' : World) : Prop :=
  ∃ L T, e = .returned (.tuple #[]) ∧ L.length = N ∧ T.length = K ∧ Dg BB L ∧ Dg BB T ∧ vl BB T = V / vb ∧ vl BB L = V % vb ∧ Lb w' g L ∧ Lb w' gt T ∧ Mds [g, gt] w w'
structure RedW (w : World) (g gt N K V vb i : Nat) (L T : List Nat) (wr : World) : Prop where
  ll : L.length = N
  tl : T.length = K
  dl : Dg BB L
  dt : Dg BB T
  r : RedS BB V vb (K - i) L T
  bl : Lb wr g L
  bt : Lb wr gt T
  x : Mds [g, gt] w wr
theorem RedW.next {w wr w3 : World} {g gt N K V vb i p m t : Nat} {L T out : List Nat} (hr : RedW w g gt N K V vb i L T wr) (hi : i < K) (hp : p = K - i - 1) (hK : K = N - m) (hgt : g ≠ gt) (hvb : vb < BB ^ m) (h0 : 0 < vb)
    (hl : Lb w3 g (L.take p ++ (out ++ L.drop (p + (m + 1))))) (hm : Mds [g] wr w3) (hol : out.length = m + 1) (hod : Dg BB out) (he : vl BB out = vl BB ((L.drop p).take (m + 1)) % vb) (ht : t = vl BB ((L.drop p).take (m + 1)) / vb) (htb : t < 4294967296) :
    RedW w g gt N K V vb (i + 1) (L.take p ++ (out ++ L.drop (p + (m + 1)))) (T.set p t) (w3.setCell ⟨gt, p, none⟩ (.int .u32 (t : Int))) := by
  have hll := hr.ll
  have hK1 : K - i = p + 1 := by omega
  have hK2 : K - (i + 1) = p := by omega
  refine ⟨?_, by rw [List.length_set]; exact hr.tl, (hr.dl.take p).append (hod.append (hr.dl.drop _)), hr.dt.set _ _ htb, ?_, hl.far (fun e => hgt e) _, Lb.set (hr.bt.mds hm (by simpa using fun e => hgt e.symm)) p t, ?_⟩
  · rw [List.length_append, List.length_append, List.length_take, List.length_drop, hol, hll]; omega
  · rw [hK2, ht]
    exact RedS.next (by decide) (hK1 ▸ hr.r) hr.dl hvb h0 (by omega) (by rw [hr.tl]; omega) hol he
  · exact (hr.x.trans (hm.mono (by simp))).setCell (p := ⟨gt, p, none⟩) (by simp) _
set_option maxHeartbeats 2000000 in
theorem reduce_any {b L T : List Nat} {g gt N cN m d K cK : Nat} {B : Option Addr} {w : World} (hL : Lb w g L) (hN : L.length = N) (hcN : N ≤ cN) (hT : Lb w gt T) (hTK : T.length = K) (hK : K = N - m) (hgt : g ≠ gt) (hb : Rd vL w B m d b) (hob : 0 < m → Out B [g, gt])
    (dL : Dg BB L) (dT : Dg BB T) (db : Dg BB b) (hm : 2 ≤ m) (ht : dg b (m - 1) ≠ 0) (hlim : N ≤ 1000000000) (hlt : vl BB L < vl BB b * BB ^ K) (hmb : m ≤ 1000000000) :
    Calls Tryd.prog 34 #[.slice (some ⟨g, 0, none⟩) N cN, .slice B m d, .slice (some ⟨gt, 0, none⟩) K cK] w (Reduced w g gt N K (vl BB L) (vl BB b)) := by
  have hlb := hb.len
  have hst : RedW w g gt N K (vl BB L) (vl BB b) 0 L T w := ⟨hN, hTK, dL, dT, RedS.start rfl (by omega) hlt, hL, hT, Mds.refl _ _⟩
  have hvb : vl BB b < BB ^ m := by have := vl_lt (by decide) db; rwa [hlb] at this
  have HST := Kp.mk hst
  have HB := Kp.mk hb
  have DB := Kp.mk db
  have HVB := Kp.mk hvb
  have HT := Kp.mk ht
  have HK := Kp.mk hK
  generalize vl BB L = V at *
  clear hst hb db hvb ht hL hT dL dT hlt hN hTK hK
  go_enter Tryd.func34, Tryd.ntmps34
  go_wp2_with fail
  go_loopw [17] (fun iv wr => ∃ i : Nat, ∃ L T : List Nat, i ≤ K ∧ iv = .int .i64 (i : Int) ∧ RedW w g gt N K V (vl BB b) i L T wr) (fun iv _ => K - (intOf iv).toNat)
  case atStart => exact ⟨0, _, _, by omega, rfl, HST.out⟩
  case round =>
    clear HST
    obtain ⟨i, L, T, hi, rfl, hr⟩ := hrel
    have hKN := HK.out
    by_cases hlt : i < K
    · obtain ⟨p, hp⟩ : ∃ p, p = K - i - 1 := ⟨_, rfl⟩
      have b0 : (i : Int) < (N : Int) - (m : Int) := by omega
      have e1 : (N : Int) - (m : Int) - 1 - (i : Int) = (p : Int) := by omega
      have hs := run_midL g N cN p (m + 1) (p : Int) ((p : Int) + (m : Int) + 1) rfl (by omega) (by have := hr.ll; omega) hcN (by omega)
      have hK1 : K - i = p + 1 := by omega
      obtain ⟨r1, r2, r3⟩ := RedS.part (n := m) (by decide) (hK1 ▸ hr.r) HVB.out (by rw [hr.ll]; omega)
      have hcut := cut3 L p (m + 1)
      have hpl : (L.take p).length = p := by rw [List.length_take, hr.ll]; omega
      have hal : ((L.drop p).take (m + 1)).length = m + 1 := by rw [List.length_take, List.length_drop, hr.ll]; omega
      have hPart := Lb.win hr.bl p (m + 1) (cN - p) (by rw [hr.ll]; omega) (by have := hr.ll; omega)
      have hG := Kp.mk (guess_at hPart (HB.out.mds hr.x hob) rfl hm ((hr.dl.drop p).take (m + 1)) DB.out hmb HT.out r1)
      have h0 : 0 < vl BB b := by
        rcases Nat.eq_zero_or_pos (vl BB b) with h | h
        · rw [h] at r1; omega
        · exact h
      have hbN : vl BB b ≤ BB ^ (m + 1) := Nat.le_trans (Nat.le_of_lt HVB.out) (Nat.pow_le_pow_right (by decide) (by omega))
      have HR := Kp.mk hr
      have HP := Kp.mk hp
      have k4 := fun W (h : Mds [g] wr W) => Lb.free (hr.bt.mds h (by simpa using fun e => hgt e.symm)) p
      have k3 := fun W (h : Mds [g] wr W) => Lb.cell (hr.bt.mds h (by simpa using fun e => hgt e.symm)) p (by rw [hr.tl]; omega)
      have k5 : (p : Int) < (K : Int) := by omega
      have HNEX : Kp (∀ (w3 : World) (out : List Nat) (t : Nat), Lb w3 g (L.take p ++ (out ++ L.drop (p + (m + 1)))) → Mds [g] wr w3 → out.length = m + 1 → Dg BB out → vl BB out = vl BB ((L.drop p).take (m + 1)) % vl BB b → t = vl BB ((L.drop p).take (m + 1)) / vl BB b → t < 4294967296 →
          RedW w g gt N K V (vl BB b) (i + 1) (L.take p ++ (out ++ L.drop (p + (m + 1)))) (T.set p t) (w3.setCell ⟨gt, p, none⟩ (.int .u32 (t : Int)))) :=
        ⟨fun w3 out t a1 a2 a3 a4 a5 a6 a7 => RedW.next hr hlt hp hKN hgt HVB.out h0 a1 a2 a3 a4 a5 a6 a7⟩
      have HA := Kp.mk (And.intro hcut (And.intro hpl hal))
      have HT2 := Kp.mk (fun (w2 : World) (hx2 : Ext wr w2) (t : Nat) (ht : t < 4294967296) => takeFrom_any (pre := L.take p) (a := (L.drop p).take (m + 1)) (post := L.drop (p + (m + 1))) (o := p) (n := m + 1) (c := cN - p) (k := t)
        (by rw [← hcut]; exact hr.bl.ext hx2) hpl hal ((HB.out.mds hr.x hob).ext hx2) (fun h => (hob h).mono (by simp)) ((hr.dl.drop p).take (m + 1)) DB.out (by omega) (by omega) (by have := hr.ll; omega) ht)
      have HRED := Kp.mk (fun (t p1 c : Nat) (h1 : vl BB ((L.drop p).take (m + 1)) / vl BB b ≤ t) (h2 : t ≤ vl BB ((L.drop p).take (m + 1)) / vl BB b + 1) (hp : p1 < BB ^ (m + 1)) (he : vl BB ((L.drop p).take (m + 1)) + BB ^ (m + 1) * c = p1 + t * vl BB b) => red_one h0 hbN h1 h2 hp he)
      clear hr hp hcut hpl hal hPart r1 r2 r3 hbN h0 hK1 hKN
      generalize (L.drop p).take (m + 1) = U at *
      generalize L.drop (p + (m + 1)) = PO at *
      generalize L.take p = PR at *
      go_wp2_with (first | (go_at_call 51; refine hG.out.mono ?_; rintro e w2 ⟨t, rfl, t1, t2, t3, hx2⟩) | fail)
      refine (HT2.out w2 hx2 t t1).mono ?_
      rintro e w3 ⟨out, cr, rfl, hol, hod, hv, hL3, hm3⟩
      have hUl := HA.out.2.2
      have hx3 : Mds [g] wr w3 := (hx2.mds [g]).trans hm3
      have hlt3 := vl_lt (by decide) hod
      rw [hol, hUl] at hlt3
      rw [hUl] at hv
      rcases HRED.out t (vl BB out) cr t2 t3 hlt3 hv with ⟨hc0, htq, hpq⟩ | ⟨hc0, htq, hpq⟩
      · have HF := Kp.mk (HNEX.out w3 out t hL3 hx3 (hol.trans hUl) hod hpq htq t1)
        have k4' := k4 w3 hx3
        have k3' := k3 w3 hx3
        subst hc0
        clear hv hL3 hm3 hx3 hlt3 hpq htq hod hol k3 k4 HT2 HRED HNEX hG
        go_wp2_with fail
        go_roundw
        case rel => exact ⟨i + 1, _, _, by omega, by go_num, HF.out⟩
        case measure => simp [intOf]; omega
      · have hd : decide (0 < cr) = true := decide_eq_true hc0
        have t4' : 1 ≤ t := by rw [htq]; exact Nat.le_add_left 1 _
        have t4 : (1 : Int) ≤ (t : Int) := by omega
        have HAD := Kp.mk (addTo_any (pre := PR) (a := out) (post := PO) (o := p) (n := m + 1) (c := cN - p) hL3 HA.out.2.1 (hol.trans hUl) ((HB.out.mds HR.out.x hob).mds hx3 (fun h => (hob h).mono (by simp))) (fun h => (hob h).mono (by simp)) hod DB.out (by omega) (by omega))
        have HV := Kp.mk (And.intro (hol.trans hUl) hpq)
        have HTQ := Kp.mk (And.intro htq t1)
        have HX3 := Kp.mk hx3
        clear hv hL3 hm3 hx3 hlt3 hpq htq hod hol hc0
        rw [hd]
        go_wp2_with (first | (go_at_call 52; refine HAD.out.mono ?_; rintro e w4 ⟨out2, c2, rfl, hol2, hod2, hc2, hv2, hL4, hm4⟩; have hx4 : Mds [g] wr w4 := HX3.out.trans hm4; have k4' := k4 w4 hx4; have k3' := k3 w4 hx4; have HH4 := Kp.mk (And.intro hol2 (And.intro hod2 (And.intro hc2 (And.intro hv2 (And.intro hL4 hx4))))); clear hol2 hod2 hc2 hv2 hL4 hm4 hx4) | fail)
        obtain ⟨hol2, hod2, hc2, hv2, hL4, hx4⟩ := HH4.out
        obtain ⟨hol, hpq⟩ := HV.out
        obtain ⟨htq, t1⟩ := HTQ.out
        rw [hol] at hol2 hv2
        have hlt4 := vl_lt (by decide) hod2
        rw [hol2] at hlt4
        have hp2 := hpq (vl BB out2) c2 hlt4 hc2 hv2
        have ht5 : ((t : Int) - 1) = ((t - 1 : Nat) : Int) := by omega
        have HF := Kp.mk (HNEX.out w4 out2 (t - 1) hL4 hx4 hol2 hod2 hp2 (by omega) (by omega))
        clear hv2 hL4 hx4 hlt4 hpq htq hod2 hol hol2 hp2 hc2 k3 k4 HT2 HRED HNEX hG HAD HV HTQ HX3
        go_roundw
        case rel =>
          first | rw [ht5] | skip
          exact ⟨i + 1, _, _, by omega, by go_num, HF.out⟩
        case measure => simp [intOf]; omega
    · obtain rfl : i = K := by omega
      have hr0 := hr.r
      rw [Nat.sub_self] at hr0
      obtain ⟨h1, h2⟩ := hr0.done
      have HF := Kp.mk (show Reduced w g gt N i V (vl BB b) (.returned (.tuple #[])) wr from ⟨L, T, rfl, hr.ll, hr.tl, hr.dl, hr.dt, h1, h2, hr.bl, hr.bt, hr.x⟩)
      have b0 : (N : Int) - (m : Int) ≤ (i : Int) := by omega
      clear hr hr0 h1 h2 hKN
      go_wp2_with fail
      go_end0
      exact HF.out
end Go.Proofs.YtpmoaccaknfodaaDoor
