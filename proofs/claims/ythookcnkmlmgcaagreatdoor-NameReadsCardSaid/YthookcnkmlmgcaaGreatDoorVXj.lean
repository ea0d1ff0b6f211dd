/-
  The reference's Read.
-/
import Derived.Test.YthookcnkmlmgcaaGreatDoorVXi
import Derived.Test.YthookcnkmlmgcaaGreatDoorM16
import Derived.Test.YthookcnkmlmgcaaGreatDoorM11
namespace Go.Proofs.YthookcnkmlmgcaaGreatDoor
open Go Go.RowKit
set_option maxRecDepth 4000

theorem str_neX {x y : List (BitVec 8)} (h : x ≠ y) : ((strOf x).toList != (strOf y).toList) = true := by rw [bne, beq_eq_false_iff_ne.2 fun e => h (strOf_inj e)]; rfl
theorem str_eqX (x : List (BitVec 8)) : ((strOf x).toList != (strOf x).toList) = false := by rw [bne, beq_self_eq_true]; rfl
theorem neq2X {k : Nat} (h : k ≠ 2) : ((k : Int) != 2) = true := by
  have : ((k : Int) == 2) = false := beq_eq_false_iff_ne.2 (by omega)
  rw [bne, this]; rfl
theorem Body_weak {b : List (BitVec 8)} {A : Option Addr} {n c : Nat} {w : World} (h : Bs w A n c b) (hn : n ≤ 1000000000) (m : BitVec 8) :
    Calls Tryz.prog 15 #[.slice A n c, .int .u8 (ub m)] w fun e w' => ∃ (A' : Option Addr) (n' c' : Nat) (t : Bool), e = .returned (.tuple #[.slice A' n' c', .bool t]) ∧ Ext w w' :=
  (Body_any h hn m).mono fun e w' h => by
    obtain ⟨x, (⟨_, h2⟩ | ⟨_, A', c', _, h2, _⟩)⟩ := h
    · exact ⟨_, _, _, _, h2, x⟩
    · exact ⟨_, _, _, _, h2, x⟩
theorem ReadOid_weak {b : List (BitVec 8)} {A : Option Addr} {n c : Nat} {w : World} (h : Bs w A n c b) :
    Calls Tryz.prog 17 #[.slice A n c] w fun e w' => ∃ (A' : Option Addr) (n' c' : Nat) (t : Bool), e = .returned (.tuple #[.slice A' n' c', .bool t]) ∧ Ext w w' :=
  (refReadOid_any h).mono fun e w' h => by
    rcases h with ⟨_, h2, x⟩ | ⟨_, _, A', c', h2, _, x⟩
    · exact ⟨_, _, _, _, h2, x⟩
    · exact ⟨_, _, _, _, h2, x⟩
theorem emp_row (w : World) : Rw 39 eSl (w.alloc (.cells #[] 39)) 0 (.slice (some ⟨w.heap.size, 0, none⟩) 0 0) 0 ([] : List (Option Addr × Nat × Nat)) :=
  ⟨⟨rfl, .inr ⟨w.heap.size, 0, #[], rfl, Nat.zero_le _, Has.new w 39 #[] _ rfl, Nat.le_refl _, by decide, rfl, rfl⟩⟩⟩
theorem NmX.emp (w0 w : World) : NmX w0 (w.alloc (.cells #[] 39)) (.slice (some ⟨w.heap.size, 0, none⟩) 0 0) [] [] :=
  ⟨emp_row w, (fun p h => by cases h), fun k h => by cases h⟩
theorem NmX.tl {w0 w : World} {v : Value} {F : List Nat} {qs : List ((Option Addr × Nat × Nat) × List Atr)} (h : NmX w0 w v F qs) : ∀ s ∈ qs.map Prod.snd, ∀ a ∈ s, a.tx.length ≤ 1000000 := fun s hs a ha => by
  obtain ⟨q, hq, rfl⟩ := List.mem_map.1 hs
  obtain ⟨ps, F', h1, h2, _⟩ := (h.each q hq).ex
  rw [← h1] at ha
  obtain ⟨p, hp, rfl⟩ := List.mem_map.1 ha
  exact (h2.each p hp).tl
/-- what the reference's Read tells -/
def RrN (w : World) (b : List (BitVec 8)) (e : Ending) (w' : World) : Prop :=
  Ext w w' ∧ ((∃ (x : List (List Atr)) (A : Option Addr) (c : Nat), MayN textB x ∧ namB x = b ∧ e = .returned (.tuple #[.slice A x.length c, .bool true]) ∧ Nam w' A x.length c x) ∨
    ((¬ ∃ x, MayN textB x ∧ namB x = b) ∧ e = .returned (.tuple #[.slice none 0 0, .bool false])))
/-- between two rounds of the outer loop -/
structure RoI (w wB wr : World) (L : List (List (BitVec 8))) (k : Nat) (v : Value) (qs : List ((Option Addr × Nat × Nat) × List Atr)) (F : List Nat) : Prop where
  o : NmX w wr v F qs
  rd : rdAll (rdS rd9) (L.take k) = some (qs.map Prod.snd)
  ext : Ext wB wr
  lo : Lo wB.heap.size (fpv v ++ F)
  len : qs.length = k
/-- between two rounds of the inner one -/
structure RiI (w wB wr : World) (L : List (List (BitVec 8))) (k : Nat) (v : Value) (ps : List (SV × Atr)) (F : List Nat) : Prop where
  o : AtX w wr v F ps
  rd : rdAll (rdA rd9) (L.take k) = some (ps.map Prod.snd)
  ext : Ext wB wr
  lo : Lo wB.heap.size (fpv v ++ F)
  len : ps.length = k
set_option maxHeartbeats 32000000 in
theorem refRead_any {b : List (BitVec 8)} {A : Option Addr} {n c : Nat} {w : World} (h : Bs w A n c b) (hn : n ≤ 100000) :
    Calls Tryz.prog 6 #[.slice A n c] w (RrN w b) := by
  have hl := h.len
  have HB := Kp.mk h
  have HC := Kp.mk (Body_any h (by omega) 48)
  clear h
  go_enter Tryz.func6, Tryz.ntmps6
  go_wp2_with fail
  refine HC.out.mono ?_
  rintro e w1 ⟨x1, (⟨hb0, rfl⟩ | ⟨y, A1, c1, hb0, rfl, hs1⟩)⟩
  · have X1 := Kp.mk x1
    have HN := Kp.mk (no_rd (rdN_b hb0))
    clear x1 hb0 HC
    go_wp2_with fail
    refine (Parts_nil _).mono ?_
    rintro e w2 ⟨A2, c2, rfl, x2⟩
    have X2 := Kp.mk (X1.out.trans x2)
    clear x2
    go_wp2_with fail
    go_ret2
    exact ⟨X2.out, .inr ⟨HN.out, rfl⟩⟩
  have hyl := bod_len hb0
  have HB0 := Kp.mk hb0
  have HS1 := Kp.mk hs1
  have X1 := Kp.mk x1
  have HP := Kp.mk (Parts_any ((hs1 w HB.out).ext x1) (by omega))
  clear hb0 hs1 x1 HC
  go_wp2_with fail
  refine HP.out.mono ?_
  rintro e w2 ⟨x2, (⟨hp, rfl⟩ | ⟨vs, A2, c2, hp, rfl, hr2, hv2⟩)⟩
  · have X2 := Kp.mk (X1.out.trans x2)
    have HN := Kp.mk (no_rd (rdN_p HB0.out hp))
    clear x2 hp HP
    go_wp2_with fail
    go_ret2
    exact ⟨X2.out, .inr ⟨HN.out, rfl⟩⟩
  have hvl : vs.length ≤ 100000 := by
    have := prt_len hp
    rw [List.length_map] at this
    omega
  have HP2 := Kp.mk hp
  have HR2 := Kp.mk hr2
  have HV2 := Kp.mk (fun v hv => HS1.out.trans (hv2 v hv))
  have X2 := Kp.mk (X1.out.trans x2)
  have HZL : Kp (∀ z ∈ vs.map Prod.snd, z.length ≤ 100000) := ⟨fun z hz => by have := (prt_mem hp hz).1; omega⟩
  clear hp hr2 hv2 x2 HP HS1 hyl
  obtain ⟨NV, hNV⟩ : ∃ NV, vs.length = NV := ⟨_, rfl⟩
  rw [hNV] at HR2 hvl ⊢
  have HNV := Kp.mk hNV
  clear hNV
  go_wp2_with fail
  go_loopw [8, 9] (fun v8 iv wr => ∃ (k : Nat) (A8 : Option Addr) (N8 c8 : Nat) (qs : List ((Option Addr × Nat × Nat) × List Atr)) (F : List Nat), k ≤ NV ∧ v8 = .slice A8 N8 c8 ∧ iv = .int .i64 (k : Int) ∧ N8 = k ∧ RoI w w2 wr (vs.map Prod.snd) k (.slice A8 N8 c8) qs F) (fun _ iv _ => NV - (intOf iv).toNat)
  case atStart =>
    refine ⟨0, some ⟨w2.heap.size, 0, none⟩, 0, 0, [], [], Nat.zero_le _, rfl, rfl, rfl, ⟨NmX.emp _ _, rfl, (by (repeat (first | assumption | exact Ext.refl _ | apply Ext.drew | apply Ext.drewN | apply Ext.alloc | refine Ext.trans ?_ (by assumption))); first | done | fail), fun k hk => ?_, rfl⟩⟩
    rw [List.append_nil, mem_fpv] at hk
    have : w2.heap.size = k := by simpa [Value.ownBlock] using hk
    omega
  case round =>
    obtain ⟨k, A8, N8, c8, qs, F, hk, rfl, rfl, hN8, hI⟩ := hrel
    obtain ⟨wo, rfl⟩ : ∃ wo : World, wo = wr := ⟨_, rfl⟩
    have HI := Kp.mk hI
    have HN8 := Kp.mk hN8
    clear hI hN8
    by_cases hkn : k < NV
    · have b1 : (k : Int) < (NV : Int) := by omega
      obtain ⟨⟨⟨Az, nz, cz⟩, z⟩, hq⟩ : ∃ q, vs[k]? = some q := ⟨_, List.getElem?_eq_getElem (by rw [HNV.out]; exact hkn)⟩
      obtain ⟨g2, o2, rfl, hc2⟩ := HR2.out.at_ (by omega)
      have hqz : (vs.map Prod.snd)[k]? = some z := by rw [List.getElem?_map, hq]; rfl
      have k2 : ∀ W, Ext wo W → W.cell? ⟨g2, o2 + k, none⟩ = some (.slice Az nz cz) := fun W hW => cell_lat (hc2 k (Az, nz, cz) (by rw [List.getElem?_map, hq]; rfl)) (HI.out.ext.trans hW)
      have c9 := k2 wo (Ext.refl _)
      have hSZ := HV2.out _ (List.mem_of_getElem? hq)
      have hBz : Bs w Az nz cz z := hSZ w HB.out
      have hzl : nz ≤ 100000 := by
        have h1 := HZL.out z (List.mem_of_getElem? hqz)
        have h2 := hBz.len
        omega
      have HC9 := Kp.mk (Body_any (hBz.ext (X2.out.trans HI.out.ext)) (by omega) 49)
      have HSZ : Kp (Sub A n c b Az nz cz z) := ⟨hSZ⟩
      have HQZ := Kp.mk hqz
      have HZ2 : Kp (z.length ≤ 100000) := ⟨HZL.out z (List.mem_of_getElem? hqz)⟩
      have HNS : Kp (rdS rd9 z = none → ¬ ∃ x, MayN textB x ∧ namB x = b) := ⟨fun h => no_rd (by rw [rdN_l HB0.out HP2.out]; exact rdAll_no hqz h)⟩
      clear hq hc2 hqz k2 hSZ hBz
      go_wp2_with fail
      refine HC9.out.mono ?_
      rintro e w3 ⟨x3, (⟨hb3, rfl⟩ | ⟨y3, A3, c3, hb3, rfl, hs3⟩)⟩
      · have X3 := Kp.mk ((X2.out.trans HI.out.ext).trans x3)
        have HN := Kp.mk (HNS.out (rdS_b hb3))
        clear x3 hb3 HC9
        go_wp2_with fail
        refine (Parts_nil _).mono ?_
        rintro e w4 ⟨A4, c4, rfl, x4⟩
        have X4 := Kp.mk (X3.out.trans x4)
        clear x4
        go_wp2_with fail
        go_ret2
        exact ⟨X4.out, .inr ⟨HN.out, rfl⟩⟩
      have hyl := bod_len hb3
      have HB3 := Kp.mk hb3
      have HS3 := Kp.mk (HSZ.out.trans hs3)
      have X23 := Kp.mk (HI.out.ext.trans x3)
      have XO3 := Kp.mk x3
      have HP3 := Kp.mk (Parts_any ((HSZ.out.trans hs3 w HB.out).ext ((X2.out.trans HI.out.ext).trans x3)) (by have := HZ2.out; omega))
      clear hb3 hs3 x3 HC9 c9
      go_wp2_with fail
      refine HP3.out.mono ?_
      rintro e w4 ⟨x4, (⟨hp4, rfl⟩ | ⟨us, A4, c4, hp4, rfl, hr4, hv4⟩)⟩
      · have X4 := Kp.mk ((X2.out.trans X23.out).trans x4)
        have HN := Kp.mk (HNS.out (rdS_p HB3.out hp4))
        clear x4 hp4 HP3
        go_wp2_with fail
        go_ret2
        exact ⟨X4.out, .inr ⟨HN.out, rfl⟩⟩
      have hul : us.length ≤ 100000 := by
        have h1 := prt_len hp4
        have h2 := HZ2.out
        rw [List.length_map] at h1
        omega
      have HP4 := Kp.mk hp4
      have HR4 := Kp.mk hr4
      have HV4 := Kp.mk (fun v hv => HS3.out.trans (hv4 v hv))
      have X24 := Kp.mk (X23.out.trans x4)
      have XO4 := Kp.mk (XO3.out.trans x4)
      have HUL : Kp (∀ u ∈ us.map Prod.snd, u.length ≤ 100000) := ⟨fun u hu => by have h1 := (prt_mem hp4 hu).1; have h2 := HZ2.out; omega⟩
      have HSL : Kp (rdS rd9 z = rdAll (rdA rd9) (us.map Prod.snd)) := ⟨rdS_l HB3.out hp4⟩
      clear hp4 hr4 hv4 x4 HP3 hyl
      obtain ⟨NU, hNU⟩ : ∃ NU, us.length = NU := ⟨_, rfl⟩
      rw [hNU] at HR4 hul ⊢
      have HNU := Kp.mk hNU
      clear hNU
      go_wp2_with fail
      go_loopw [14, 15] (fun v14 kv wi => ∃ (j : Nat) (A5 : Option Addr) (N5 c5 : Nat) (ps : List (SV × Atr)) (F2 : List Nat), j ≤ NU ∧ v14 = .slice A5 N5 c5 ∧ kv = .int .i64 (j : Int) ∧ N5 = j ∧ RiI w w4 wi (us.map Prod.snd) j (.slice A5 N5 c5) ps F2) (fun _ kv _ => NU - (intOf kv).toNat)
      case atStart => exact ⟨0, none, 0, 0, [], [], Nat.zero_le _, rfl, rfl, rfl, ⟨AtX.nil _ _, rfl, Ext.refl _, (fun k hk => by cases hk), rfl⟩⟩
      case round =>
        obtain ⟨j, A5, N5, c5, ps, F2, hj, rfl, rfl, hN5, hJ⟩ := hrel
        obtain ⟨wi, rfl⟩ : ∃ wi : World, wi = wr := ⟨_, rfl⟩
        have HJ := Kp.mk hJ
        have HN5 := Kp.mk hN5
        clear hJ hN5
        by_cases hjn : j < NU
        · have b2 : (j : Int) < (NU : Int) := by omega
          obtain ⟨⟨⟨Au, nu, cu⟩, u⟩, hq⟩ : ∃ q, us[j]? = some q := ⟨_, List.getElem?_eq_getElem (by rw [HNU.out]; exact hjn)⟩
          obtain ⟨g4, o4, rfl, hc4⟩ := HR4.out.at_ (by omega)
          have hqu : (us.map Prod.snd)[j]? = some u := by rw [List.getElem?_map, hq]; rfl
          have c10 : wi.cell? ⟨g4, o4 + j, none⟩ = some (.slice Au nu cu) := cell_lat (hc4 j (Au, nu, cu) (by rw [List.getElem?_map, hq]; rfl)) HJ.out.ext
          have hSU := HV4.out _ (List.mem_of_getElem? hq)
          have hBu : Bs w Au nu cu u := hSU w HB.out
          have hul2 : nu ≤ 100000 := by
            have h1 := HUL.out u (List.mem_of_getElem? hqu)
            have h2 := hBu.len
            omega
          have XI : Kp (Ext w wi) := ⟨(X2.out.trans X24.out).trans HJ.out.ext⟩
          have HC10 := Kp.mk (Body_any (hBu.ext XI.out) (by omega) 48)
          have HSU : Kp (Sub A n c b Au nu cu u) := ⟨hSU⟩
          have HQU := Kp.mk hqu
          have HU2 : Kp (u.length ≤ 100000) := ⟨HUL.out u (List.mem_of_getElem? hqu)⟩
          have HNA : Kp (rdA rd9 u = none → ¬ ∃ x, MayN textB x ∧ namB x = b) := ⟨fun h => HNS.out (by rw [HSL.out]; exact rdAll_no hqu h)⟩
          clear hq hc4 hqu hSU hBu
          go_wp2_with fail
          refine HC10.out.mono ?_
          rintro e w5 ⟨x5, (⟨hb5, rfl⟩ | ⟨y5, A5b, c5b, hb5, rfl, hs5⟩)⟩
          · have X5 := Kp.mk (XI.out.trans x5)
            have HN := Kp.mk (HNA.out (rdA_b hb5))
            clear x5 hb5 HC10
            go_wp2_with fail
            refine (Parts_nil _).mono ?_
            rintro e w6 ⟨A6, c6, rfl, x6⟩
            have X6 := Kp.mk (X5.out.trans x6)
            clear x6
            go_wp2_with fail
            go_ret2
            exact ⟨X6.out, .inr ⟨HN.out, rfl⟩⟩
          have hyl := bod_len hb5
          have HB5 := Kp.mk hb5
          have HS5 := Kp.mk (HSU.out.trans hs5)
          have XJ5 := Kp.mk x5
          have HP5 := Kp.mk (Parts_any ((HSU.out.trans hs5 w HB.out).ext (XI.out.trans x5)) (by have := HU2.out; omega))
          clear hb5 hs5 x5 HC10 c10
          go_wp2_with fail
          refine HP5.out.mono ?_
          rintro e w6 ⟨x6, (⟨hp6, rfl⟩ | ⟨ts, A6, c6, hp6, rfl, hr6, hv6⟩)⟩
          · have X6 := Kp.mk ((XI.out.trans XJ5.out).trans x6)
            have HN := Kp.mk (HNA.out (rdA_p HB5.out hp6))
            clear x6 hp6 HP5
            go_wp2_with fail
            go_ret2
            exact ⟨X6.out, .inr ⟨HN.out, rfl⟩⟩
          have XJ6 := Kp.mk (XJ5.out.trans x6)
          have hTL : ∀ t ∈ ts.map Prod.snd, t.length ≤ 100000 ∧ t ≠ [] := fun t ht => by
            have h1 := prt_mem hp6 ht
            have h2 := HU2.out
            exact ⟨by omega, h1.2⟩
          by_cases h2 : ts.length = 2
          · obtain ⟨⟨⟨Ap, np, cp⟩, p⟩, ⟨⟨Aq, nq, cq⟩, q⟩, rfl⟩ : ∃ t1 t2, ts = [t1, t2] := by
              match ts, h2 with
              | [a, b], _ => exact ⟨a, b, rfl⟩
            obtain ⟨g6, o6, rfl, hc6⟩ := hr6.at_ (by simp)
            have k0 : ∀ W, Ext w6 W → W.cell? ⟨g6, o6, none⟩ = some (.slice Ap np cp) := fun W hW => cell_lat (by have := hc6 0 (Ap, np, cp) rfl; simpa [cuE] using this) hW
            have k1 : ∀ W, Ext w6 W → W.cell? ⟨g6, o6 + 1, none⟩ = some (.slice Aq nq cq) := fun W hW => cell_lat (hc6 1 (Aq, nq, cq) rfl) hW
            have hSp : Sub A n c b Ap np cp p := HS5.out.trans (hv6 ((Ap, np, cp), p) (by simp))
            have hSq : Sub A n c b Aq nq cq q := HS5.out.trans (hv6 ((Aq, nq, cq), q) (by simp))
            have hBp : Bs w Ap np cp p := hSp w HB.out
            have hBq : Bs w Aq nq cq q := hSq w HB.out
            have hpl : np ≤ 100000 := by
              have h1 := (hTL p (by simp)).1
              have h2 := hBp.len
              omega
            obtain ⟨hql, hqn⟩ := hTL q (by simp)
            have hq0 : 0 < q.length := List.length_pos_iff.2 hqn
            have hqlen := hBq.len
            have hqb : nq ≤ 100000 := by omega
            have hqp : 0 < nq := by omega
            obtain ⟨gq, oq, rfl, hcq⟩ := hBq.s.2.2.2 hqp
            have kq : ∀ W, Ext w W → W.cell? ⟨gq, oq, none⟩ = some (.int .u8 (ub (gb q 0))) := fun W hW => cell_lat (by have := hcq 0 hqp; simpa using this) hW
            have bq : (0 : Int) < (nq : Int) := by omega
            have HTWO := Kp.mk (rdA_two (R := rd9) HB5.out hp6)
            have HSq := Kp.mk hSq
            have HSp := Kp.mk hSp
            have HBp := Kp.mk hBp
            have HBq := Kp.mk hBq
            have K0 := Kp.mk k0
            have K1 := Kp.mk k1
            have KQ := Kp.mk kq
            have XW6 : Kp (Ext w w6) := ⟨XI.out.trans XJ6.out⟩
            have HQL : Kp (q.length ≤ 100000) := ⟨hql⟩
            have c20 := k0 w6 (Ext.refl _)
            generalize hmq : gb q 0 = mq at *
            have HMQ := Kp.mk hmq
            clear hmq hp6 hr6 hv6 x6 HP5 hTL h2 hc6 k0 k1 hSp hSq hBp hBq hql hqn hq0 hqlen hcq kq hyl
            have HCP := Kp.mk (Body_any (HBp.out.ext XW6.out) (by omega) 6)
            go_wp2_with fail
            refine HCP.out.mono ?_
            rintro e w7 ⟨x7, (⟨hb7, rfl⟩ | ⟨oi, A7, c7, hb7, rfl, hs7⟩)⟩
            · have X67 := Kp.mk x7
              have HN := Kp.mk (HNA.out (by rw [HTWO.out, hb7]; rfl))
              clear x7 hb7 HCP c20
              go_wp2_with fail
              refine (ReadOid_weak (Bs.nil _)).mono ?_
              rintro e w8 ⟨A8b, n8, c8b, t8, rfl, x8⟩
              have X68 := Kp.mk (X67.out.trans x8)
              clear x8
              go_wp2_with fail
              refine wp_region_held_drew (S := fun w' => Ext w8 w') (by kernel_rfl) (Ext.refl w8).drew (fun hHeld => ?_)
              have m1 := fun (w' : World) (hx : Ext w8 w') => K1.out w' (X68.out.trans hx)
              have m2 := fun (w' : World) (hx : Ext w8 w') => KQ.out w' (XW6.out.trans (X68.out.trans hx))
              refine wpAnyH_take (i := 0) (oi := ⟨some 113, _, _, _, _, _⟩) (v := ?_) rfl (by kernel_rfl) (by kernel_rfl) (by kernel_rfl) (fun _ _ _ h => h) (Or.inl ⟨by rfl, ?_⟩) (by assumption) ?_
              rotate_left
              · (intro w hSw; (try dsimp only at hSw); go_simp; try with_reducible rfl)
              try simp only [Act.put, List.setIfInBounds_toArray, List.set_cons_zero, List.set_cons_succ]
              refine wpAnyH_take (i := 1) (oi := ⟨some 114, _, _, _, _, _⟩) (v := ?_) rfl (by kernel_rfl) (by kernel_rfl) (by kernel_rfl) (fun _ _ _ h => h) (Or.inl ⟨by rfl, ?_⟩) (by assumption) ?_
              rotate_left
              · (intro w hSw; (try dsimp only at hSw); go_simp; try with_reducible rfl)
              try simp only [Act.put, List.setIfInBounds_toArray, List.set_cons_zero, List.set_cons_succ]
              refine wpAnyH_take (i := 2) (oi := ⟨some 115, _, _, _, _, _⟩) (v := ?_) rfl (by kernel_rfl) (by kernel_rfl) (by kernel_rfl) (fun _ _ _ h => h) (Or.inl ⟨by rfl, ?_⟩) (by assumption) ?_
              rotate_left
              · (intro w hSw; (try dsimp only at hSw); go_simp; try with_reducible rfl)
              try simp only [Act.put, List.setIfInBounds_toArray, List.set_cons_zero, List.set_cons_succ]
              refine wpAnyH_take (i := 3) (oi := ⟨some 116, _, _, _, _, _⟩) (v := ?_) rfl (by kernel_rfl) (by kernel_rfl) (by kernel_rfl) (fun _ _ _ h => h) (Or.inl ⟨by rfl, ?_⟩) (by assumption) ?_
              rotate_left
              · (intro w hSw; (try dsimp only at hSw); go_simp; try with_reducible rfl)
              try simp only [Act.put, List.setIfInBounds_toArray, List.set_cons_zero, List.set_cons_succ]
              refine wpAnyH_take (i := 4) (oi := ⟨some 117, _, _, _, _, _⟩) (v := ?_) rfl (by kernel_rfl) (by kernel_rfl) (by kernel_rfl) (fun _ _ _ h => h) (Or.inl ⟨by rfl, ?_⟩) (by assumption) ?_
              rotate_left
              · (intro w hSw; (try dsimp only at hSw); go_simp; try with_reducible rfl)
              try simp only [Act.put, List.setIfInBounds_toArray, List.set_cons_zero, List.set_cons_succ]
              refine wpAnyH_take (i := 5) (oi := ⟨some 118, _, _, _, _, _⟩) (v := ?_) rfl (by kernel_rfl) (by kernel_rfl) (by kernel_rfl) (fun _ _ _ h => h) (Or.inl ⟨by rfl, ?_⟩) (by assumption) ?_
              rotate_left
              · (intro w hSw; (try dsimp only at hSw); go_simp; try with_reducible rfl)
              try simp only [Act.put, List.setIfInBounds_toArray, List.set_cons_zero, List.set_cons_succ]
              refine wpAnyH_take (i := 6) (oi := ⟨some 119, _, _, _, _, _⟩) (v := ?_) rfl (by kernel_rfl) (by kernel_rfl) (by kernel_rfl) (fun _ _ _ h => h) (Or.inl ⟨by rfl, ?_⟩) (by assumption) ?_
              rotate_left
              · (intro w hSw; (try dsimp only at hSw); go_simp; try with_reducible rfl)
              try simp only [Act.put, List.setIfInBounds_toArray, List.set_cons_zero, List.set_cons_succ]
              refine wpAnyH_take (i := 7) (oi := ⟨some 120, _, _, _, _, _⟩) (v := ?_) rfl (by kernel_rfl) (by kernel_rfl) (by kernel_rfl) (fun _ _ _ h => h) (Or.inl ⟨by rfl, ?_⟩) (by assumption) ?_
              rotate_left
              · (intro w hSw; (try dsimp only at hSw); go_simp; try with_reducible rfl)
              try simp only [Act.put, List.setIfInBounds_toArray, List.set_cons_zero, List.set_cons_succ]
              refine next_one 8 (by kernel_rfl) rfl (by rfl) fun K' HK' => ?_
              go_simp
              refine (Body_weak (HBq.out.ext (XW6.out.trans (X68.out.trans (by (repeat (first | assumption | exact Ext.refl _ | apply Ext.drew | apply Ext.drewN | apply Ext.alloc | refine Ext.trans ?_ (by assumption))); first | done | fail)))) (by omega) mq).mono ?_
              rintro e w9 ⟨A9, n9, c9, t9, rfl, x9⟩
              have hx9 : Ext w8 w9 := (by (repeat (first | assumption | exact Ext.refl _ | apply Ext.drew | apply Ext.drewN | apply Ext.alloc | refine Ext.trans ?_ (by assumption))); first | done | fail)
              have hS2 := Ext.trans hHeld x9
              refine held_go HK' hS2 (fun _ => ?_)
              clear HK'
              refine held_more (S' := fun w' => Ext w9 w') (fun _ h => Ext.trans hS2 h) _ _ _ _ ?_
              clear hHeld hS2
              have hHeld : Ext w9 w9 := Ext.refl _
              try simp only [Act.put, List.setIfInBounds_toArray, List.set_cons_zero, List.set_cons_succ]
              refine wpAnyH_take (i := 9) (oi := ⟨some 112, _, _, _, _, _⟩) (v := ?_) rfl (by kernel_rfl) (by kernel_rfl) (by kernel_rfl) (fun _ _ _ h => h) (Or.inl ⟨by rfl, ?_⟩) (by assumption) ?_
              rotate_left
              · (intro w hSw; (try dsimp only at hSw); go_simp; try with_reducible rfl)
              try simp only [Act.put, List.setIfInBounds_toArray, List.set_cons_zero, List.set_cons_succ]
              refine wpAnyH_take (i := 10) (oi := ⟨some 122, _, _, _, _, _⟩) (v := ?_) rfl (by kernel_rfl) (by kernel_rfl) (by kernel_rfl) (fun _ _ _ h => h) (Or.inl ⟨by rfl, ?_⟩) (by assumption) ?_
              rotate_left
              · (intro w hSw; (try dsimp only at hSw); go_simp; try with_reducible rfl)
              try simp only [Act.put, List.setIfInBounds_toArray, List.set_cons_zero, List.set_cons_succ]
              refine wpAnyH_take (i := 11) (oi := ⟨some 123, _, _, _, _, _⟩) (v := ?_) rfl (by kernel_rfl) (by kernel_rfl) (by kernel_rfl) (fun _ _ _ h => h) (Or.inl ⟨by rfl, ?_⟩) (by assumption) ?_
              rotate_left
              · (intro w hSw; (try dsimp only at hSw); go_simp; try with_reducible rfl)
              try simp only [Act.put, List.setIfInBounds_toArray, List.set_cons_zero, List.set_cons_succ]
              refine wpAnyH_take (i := 12) (oi := ⟨some 24, _, _, _, _, _⟩) (v := ?_) rfl (by kernel_rfl) (by kernel_rfl) (by kernel_rfl) (fun _ _ _ h => h) (Or.inl ⟨by rfl, ?_⟩) (by assumption) ?_
              rotate_left
              · (intro w hSw; (try dsimp only at hSw); go_simp; try with_reducible rfl)
              try simp only [Act.put, List.setIfInBounds_toArray, List.set_cons_zero, List.set_cons_succ]
              refine wpAnyH_take (i := 13) (oi := ⟨some 25, _, _, _, _, _⟩) (v := ?_) rfl (by kernel_rfl) (by kernel_rfl) (by kernel_rfl) (fun _ _ _ h => h) (Or.inl ⟨by rfl, ?_⟩) (by assumption) ?_
              rotate_left
              · (intro w hSw; (try dsimp only at hSw); go_simp; try with_reducible rfl)
              try simp only [Act.put, List.setIfInBounds_toArray, List.set_cons_zero, List.set_cons_succ]
              refine wpAnyH_done (by kernel_rfl) ?_ _
              have HX9 := Kp.mk hx9
              clear m1 m2
              go_wp2_with fail
              go_ret2
              exact ⟨XW6.out.trans (X68.out.trans HX9.out), .inr ⟨HN.out, rfl⟩⟩
            · have X67 := Kp.mk x7
              have HS7 := Kp.mk (HSp.out.trans hs7)
              have HB7 := Kp.mk hb7
              clear x7 hb7 hs7 HCP c20
              have HCO := Kp.mk (refReadOid_any ((HS7.out w HB.out).ext (XW6.out.trans X67.out)))
              go_wp2_with fail
              refine HCO.out.mono ?_
              rintro e w8 (⟨hno, rfl, x8⟩ | ⟨ho1, ho2, A8b, c8b, rfl, hw8, x8⟩)
              · have X68 := Kp.mk (X67.out.trans x8)
                have HN := Kp.mk (HNA.out (by rw [HTWO.out, HB7.out]; show (rd9 oi).bind _ = none; rw [rd9_no hno]; rfl))
                clear x8 hno HCO
                go_wp2_with fail
                refine wp_region_held_drew (S := fun w' => Ext w8 w') (by kernel_rfl) (Ext.refl w8).drew (fun hHeld => ?_)
                have m1 := fun (w' : World) (hx : Ext w8 w') => K1.out w' (X68.out.trans hx)
                have m2 := fun (w' : World) (hx : Ext w8 w') => KQ.out w' (XW6.out.trans (X68.out.trans hx))
                refine wpAnyH_take (i := 0) (oi := ⟨some 113, _, _, _, _, _⟩) (v := ?_) rfl (by kernel_rfl) (by kernel_rfl) (by kernel_rfl) (fun _ _ _ h => h) (Or.inl ⟨by rfl, ?_⟩) (by assumption) ?_
                rotate_left
                · (intro w hSw; (try dsimp only at hSw); go_simp; try with_reducible rfl)
                try simp only [Act.put, List.setIfInBounds_toArray, List.set_cons_zero, List.set_cons_succ]
                refine wpAnyH_take (i := 1) (oi := ⟨some 114, _, _, _, _, _⟩) (v := ?_) rfl (by kernel_rfl) (by kernel_rfl) (by kernel_rfl) (fun _ _ _ h => h) (Or.inl ⟨by rfl, ?_⟩) (by assumption) ?_
                rotate_left
                · (intro w hSw; (try dsimp only at hSw); go_simp; try with_reducible rfl)
                try simp only [Act.put, List.setIfInBounds_toArray, List.set_cons_zero, List.set_cons_succ]
                refine wpAnyH_take (i := 2) (oi := ⟨some 115, _, _, _, _, _⟩) (v := ?_) rfl (by kernel_rfl) (by kernel_rfl) (by kernel_rfl) (fun _ _ _ h => h) (Or.inl ⟨by rfl, ?_⟩) (by assumption) ?_
                rotate_left
                · (intro w hSw; (try dsimp only at hSw); go_simp; try with_reducible rfl)
                try simp only [Act.put, List.setIfInBounds_toArray, List.set_cons_zero, List.set_cons_succ]
                refine wpAnyH_take (i := 3) (oi := ⟨some 116, _, _, _, _, _⟩) (v := ?_) rfl (by kernel_rfl) (by kernel_rfl) (by kernel_rfl) (fun _ _ _ h => h) (Or.inl ⟨by rfl, ?_⟩) (by assumption) ?_
                rotate_left
                · (intro w hSw; (try dsimp only at hSw); go_simp; try with_reducible rfl)
                try simp only [Act.put, List.setIfInBounds_toArray, List.set_cons_zero, List.set_cons_succ]
                refine wpAnyH_take (i := 4) (oi := ⟨some 117, _, _, _, _, _⟩) (v := ?_) rfl (by kernel_rfl) (by kernel_rfl) (by kernel_rfl) (fun _ _ _ h => h) (Or.inl ⟨by rfl, ?_⟩) (by assumption) ?_
                rotate_left
                · (intro w hSw; (try dsimp only at hSw); go_simp; try with_reducible rfl)
                try simp only [Act.put, List.setIfInBounds_toArray, List.set_cons_zero, List.set_cons_succ]
                refine wpAnyH_take (i := 5) (oi := ⟨some 118, _, _, _, _, _⟩) (v := ?_) rfl (by kernel_rfl) (by kernel_rfl) (by kernel_rfl) (fun _ _ _ h => h) (Or.inl ⟨by rfl, ?_⟩) (by assumption) ?_
                rotate_left
                · (intro w hSw; (try dsimp only at hSw); go_simp; try with_reducible rfl)
                try simp only [Act.put, List.setIfInBounds_toArray, List.set_cons_zero, List.set_cons_succ]
                refine wpAnyH_take (i := 6) (oi := ⟨some 119, _, _, _, _, _⟩) (v := ?_) rfl (by kernel_rfl) (by kernel_rfl) (by kernel_rfl) (fun _ _ _ h => h) (Or.inl ⟨by rfl, ?_⟩) (by assumption) ?_
                rotate_left
                · (intro w hSw; (try dsimp only at hSw); go_simp; try with_reducible rfl)
                try simp only [Act.put, List.setIfInBounds_toArray, List.set_cons_zero, List.set_cons_succ]
                refine wpAnyH_take (i := 7) (oi := ⟨some 120, _, _, _, _, _⟩) (v := ?_) rfl (by kernel_rfl) (by kernel_rfl) (by kernel_rfl) (fun _ _ _ h => h) (Or.inl ⟨by rfl, ?_⟩) (by assumption) ?_
                rotate_left
                · (intro w hSw; (try dsimp only at hSw); go_simp; try with_reducible rfl)
                try simp only [Act.put, List.setIfInBounds_toArray, List.set_cons_zero, List.set_cons_succ]
                refine next_one 8 (by kernel_rfl) rfl (by rfl) fun K' HK' => ?_
                go_simp
                refine (Body_weak (HBq.out.ext (XW6.out.trans (X68.out.trans (by (repeat (first | assumption | exact Ext.refl _ | apply Ext.drew | apply Ext.drewN | apply Ext.alloc | refine Ext.trans ?_ (by assumption))); first | done | fail)))) (by omega) mq).mono ?_
                rintro e w9 ⟨A9, n9, c9, t9, rfl, x9⟩
                have hx9 : Ext w8 w9 := (by (repeat (first | assumption | exact Ext.refl _ | apply Ext.drew | apply Ext.drewN | apply Ext.alloc | refine Ext.trans ?_ (by assumption))); first | done | fail)
                have hS2 := Ext.trans hHeld x9
                refine held_go HK' hS2 (fun _ => ?_)
                clear HK'
                refine held_more (S' := fun w' => Ext w9 w') (fun _ h => Ext.trans hS2 h) _ _ _ _ ?_
                clear hHeld hS2
                have hHeld : Ext w9 w9 := Ext.refl _
                try simp only [Act.put, List.setIfInBounds_toArray, List.set_cons_zero, List.set_cons_succ]
                refine wpAnyH_take (i := 9) (oi := ⟨some 112, _, _, _, _, _⟩) (v := ?_) rfl (by kernel_rfl) (by kernel_rfl) (by kernel_rfl) (fun _ _ _ h => h) (Or.inl ⟨by rfl, ?_⟩) (by assumption) ?_
                rotate_left
                · (intro w hSw; (try dsimp only at hSw); go_simp; try with_reducible rfl)
                try simp only [Act.put, List.setIfInBounds_toArray, List.set_cons_zero, List.set_cons_succ]
                refine wpAnyH_take (i := 10) (oi := ⟨some 122, _, _, _, _, _⟩) (v := ?_) rfl (by kernel_rfl) (by kernel_rfl) (by kernel_rfl) (fun _ _ _ h => h) (Or.inl ⟨by rfl, ?_⟩) (by assumption) ?_
                rotate_left
                · (intro w hSw; (try dsimp only at hSw); go_simp; try with_reducible rfl)
                try simp only [Act.put, List.setIfInBounds_toArray, List.set_cons_zero, List.set_cons_succ]
                refine wpAnyH_take (i := 11) (oi := ⟨some 123, _, _, _, _, _⟩) (v := ?_) rfl (by kernel_rfl) (by kernel_rfl) (by kernel_rfl) (fun _ _ _ h => h) (Or.inl ⟨by rfl, ?_⟩) (by assumption) ?_
                rotate_left
                · (intro w hSw; (try dsimp only at hSw); go_simp; try with_reducible rfl)
                try simp only [Act.put, List.setIfInBounds_toArray, List.set_cons_zero, List.set_cons_succ]
                refine wpAnyH_take (i := 12) (oi := ⟨some 24, _, _, _, _, _⟩) (v := ?_) rfl (by kernel_rfl) (by kernel_rfl) (by kernel_rfl) (fun _ _ _ h => h) (Or.inl ⟨by rfl, ?_⟩) (by assumption) ?_
                rotate_left
                · (intro w hSw; (try dsimp only at hSw); go_simp; try with_reducible rfl)
                try simp only [Act.put, List.setIfInBounds_toArray, List.set_cons_zero, List.set_cons_succ]
                refine wpAnyH_take (i := 13) (oi := ⟨some 25, _, _, _, _, _⟩) (v := ?_) rfl (by kernel_rfl) (by kernel_rfl) (by kernel_rfl) (fun _ _ _ h => h) (Or.inl ⟨by rfl, ?_⟩) (by assumption) ?_
                rotate_left
                · (intro w hSw; (try dsimp only at hSw); go_simp; try with_reducible rfl)
                try simp only [Act.put, List.setIfInBounds_toArray, List.set_cons_zero, List.set_cons_succ]
                refine wpAnyH_done (by kernel_rfl) ?_ _
                have HX9 := Kp.mk hx9
                clear m1 m2
                go_wp2_with fail
                go_ret2
                exact ⟨XW6.out.trans (X68.out.trans HX9.out), .inr ⟨HN.out, rfl⟩⟩
              · have X68 := Kp.mk (X67.out.trans x8)
                have hW8b := hw8.base
                have hW8 : Lo w4.heap.size (fpv (.slice A8b (oidU (pmO oi)).length c8b)) := fun k hk => by
                  have h1 := hW8b k (mem_fpv.1 hk)
                  have h2 := ((HJ.out.ext.trans XJ6.out).trans X67.out).size
                  omega
                have HL8 := Kp.mk hW8
                have HW8 := Kp.mk hw8
                have HDG : Kp (Dg 4294967296 (oidU (pmO oi))) := ⟨oidU_dg (stT_len oi oi.length (Nat.le_refl _)).2.2⟩
                have HR9 : Kp (rd9 oi = some (oidU (pmO oi))) := ⟨rd9_yes ho1 ho2⟩
                generalize oidU (pmO oi) = ty at *
                clear hW8b hW8 hw8 ho1 ho2 x8 HCO
                obtain ⟨NT, hNT⟩ : ∃ NT, ty.length = NT := ⟨_, rfl⟩
                rw [hNT] at HL8 HW8 ⊢
                have HNT := Kp.mk hNT
                clear hNT
                go_wp2_with fail
                refine wp_region_held_drew (S := fun w' => Ext w8 w') (by kernel_rfl) (Ext.refl w8).drew (fun hHeld => ?_)
                have m1 := fun (w' : World) (hx : Ext w8 w') => K1.out w' (X68.out.trans hx)
                have m2 := fun (w' : World) (hx : Ext w8 w') => KQ.out w' (XW6.out.trans (X68.out.trans hx))
                refine wpAnyH_take (i := 0) (oi := ⟨some 113, _, _, _, _, _⟩) (v := ?_) rfl (by kernel_rfl) (by kernel_rfl) (by kernel_rfl) (fun _ _ _ h => h) (Or.inl ⟨by rfl, ?_⟩) (by assumption) ?_
                rotate_left
                · (intro w hSw; (try dsimp only at hSw); go_simp; try with_reducible rfl)
                try simp only [Act.put, List.setIfInBounds_toArray, List.set_cons_zero, List.set_cons_succ]
                refine wpAnyH_take (i := 1) (oi := ⟨some 114, _, _, _, _, _⟩) (v := ?_) rfl (by kernel_rfl) (by kernel_rfl) (by kernel_rfl) (fun _ _ _ h => h) (Or.inl ⟨by rfl, ?_⟩) (by assumption) ?_
                rotate_left
                · (intro w hSw; (try dsimp only at hSw); go_simp; try with_reducible rfl)
                try simp only [Act.put, List.setIfInBounds_toArray, List.set_cons_zero, List.set_cons_succ]
                refine wpAnyH_take (i := 2) (oi := ⟨some 115, _, _, _, _, _⟩) (v := ?_) rfl (by kernel_rfl) (by kernel_rfl) (by kernel_rfl) (fun _ _ _ h => h) (Or.inl ⟨by rfl, ?_⟩) (by assumption) ?_
                rotate_left
                · (intro w hSw; (try dsimp only at hSw); go_simp; try with_reducible rfl)
                try simp only [Act.put, List.setIfInBounds_toArray, List.set_cons_zero, List.set_cons_succ]
                refine wpAnyH_take (i := 3) (oi := ⟨some 116, _, _, _, _, _⟩) (v := ?_) rfl (by kernel_rfl) (by kernel_rfl) (by kernel_rfl) (fun _ _ _ h => h) (Or.inl ⟨by rfl, ?_⟩) (by assumption) ?_
                rotate_left
                · (intro w hSw; (try dsimp only at hSw); go_simp; try with_reducible rfl)
                try simp only [Act.put, List.setIfInBounds_toArray, List.set_cons_zero, List.set_cons_succ]
                refine wpAnyH_take (i := 4) (oi := ⟨some 117, _, _, _, _, _⟩) (v := ?_) rfl (by kernel_rfl) (by kernel_rfl) (by kernel_rfl) (fun _ _ _ h => h) (Or.inl ⟨by rfl, ?_⟩) (by assumption) ?_
                rotate_left
                · (intro w hSw; (try dsimp only at hSw); go_simp; try with_reducible rfl)
                try simp only [Act.put, List.setIfInBounds_toArray, List.set_cons_zero, List.set_cons_succ]
                refine wpAnyH_take (i := 5) (oi := ⟨some 118, _, _, _, _, _⟩) (v := ?_) rfl (by kernel_rfl) (by kernel_rfl) (by kernel_rfl) (fun _ _ _ h => h) (Or.inl ⟨by rfl, ?_⟩) (by assumption) ?_
                rotate_left
                · (intro w hSw; (try dsimp only at hSw); go_simp; try with_reducible rfl)
                try simp only [Act.put, List.setIfInBounds_toArray, List.set_cons_zero, List.set_cons_succ]
                refine wpAnyH_take (i := 6) (oi := ⟨some 119, _, _, _, _, _⟩) (v := ?_) rfl (by kernel_rfl) (by kernel_rfl) (by kernel_rfl) (fun _ _ _ h => h) (Or.inl ⟨by rfl, ?_⟩) (by assumption) ?_
                rotate_left
                · (intro w hSw; (try dsimp only at hSw); go_simp; try with_reducible rfl)
                try simp only [Act.put, List.setIfInBounds_toArray, List.set_cons_zero, List.set_cons_succ]
                refine wpAnyH_take (i := 7) (oi := ⟨some 120, _, _, _, _, _⟩) (v := ?_) rfl (by kernel_rfl) (by kernel_rfl) (by kernel_rfl) (fun _ _ _ h => h) (Or.inl ⟨by rfl, ?_⟩) (by assumption) ?_
                rotate_left
                · (intro w hSw; (try dsimp only at hSw); go_simp; try with_reducible rfl)
                try simp only [Act.put, List.setIfInBounds_toArray, List.set_cons_zero, List.set_cons_succ]
                refine next_one 8 (by kernel_rfl) rfl (by rfl) fun K' HK' => ?_
                go_simp
                refine (Body_any (HBq.out.ext (XW6.out.trans (X68.out.trans (by (repeat (first | assumption | exact Ext.refl _ | apply Ext.drew | apply Ext.drewN | apply Ext.alloc | refine Ext.trans ?_ (by assumption))); first | done | fail)))) (by omega) mq).mono ?_
                rintro e w9 ⟨x9, (⟨hb9, rfl⟩ | ⟨tx, A9, c9, hb9, rfl, hs9⟩)⟩
                · have HN := Kp.mk (HNA.out (by rw [HTWO.out, HB7.out]; show (rd9 oi).bind _ = none; rw [HR9.out]; show (bodL q mq).map _ = none; rw [hb9]; rfl))
                  have hx9 : Ext w8 w9 := (by (repeat (first | assumption | exact Ext.refl _ | apply Ext.drew | apply Ext.drewN | apply Ext.alloc | refine Ext.trans ?_ (by assumption))); first | done | fail)
                  have hS2 := Ext.trans hHeld x9
                  refine held_go HK' hS2 (fun _ => ?_)
                  clear HK'
                  refine held_more (S' := fun w' => Ext w9 w') (fun _ h => Ext.trans hS2 h) _ _ _ _ ?_
                  clear hHeld hS2
                  have hHeld : Ext w9 w9 := Ext.refl _
                  try simp only [Act.put, List.setIfInBounds_toArray, List.set_cons_zero, List.set_cons_succ]
                  refine wpAnyH_take (i := 9) (oi := ⟨some 112, _, _, _, _, _⟩) (v := ?_) rfl (by kernel_rfl) (by kernel_rfl) (by kernel_rfl) (fun _ _ _ h => h) (Or.inl ⟨by rfl, ?_⟩) (by assumption) ?_
                  rotate_left
                  · (intro w hSw; (try dsimp only at hSw); go_simp; try with_reducible rfl)
                  try simp only [Act.put, List.setIfInBounds_toArray, List.set_cons_zero, List.set_cons_succ]
                  refine wpAnyH_take (i := 10) (oi := ⟨some 122, _, _, _, _, _⟩) (v := ?_) rfl (by kernel_rfl) (by kernel_rfl) (by kernel_rfl) (fun _ _ _ h => h) (Or.inl ⟨by rfl, ?_⟩) (by assumption) ?_
                  rotate_left
                  · (intro w hSw; (try dsimp only at hSw); go_simp; try with_reducible rfl)
                  try simp only [Act.put, List.setIfInBounds_toArray, List.set_cons_zero, List.set_cons_succ]
                  refine wpAnyH_take (i := 11) (oi := ⟨some 123, _, _, _, _, _⟩) (v := ?_) rfl (by kernel_rfl) (by kernel_rfl) (by kernel_rfl) (fun _ _ _ h => h) (Or.inl ⟨by rfl, ?_⟩) (by assumption) ?_
                  rotate_left
                  · (intro w hSw; (try dsimp only at hSw); go_simp; try with_reducible rfl)
                  try simp only [Act.put, List.setIfInBounds_toArray, List.set_cons_zero, List.set_cons_succ]
                  refine wpAnyH_take (i := 12) (oi := ⟨some 24, _, _, _, _, _⟩) (v := ?_) rfl (by kernel_rfl) (by kernel_rfl) (by kernel_rfl) (fun _ _ _ h => h) (Or.inl ⟨by rfl, ?_⟩) (by assumption) ?_
                  rotate_left
                  · (intro w hSw; (try dsimp only at hSw); go_simp; try with_reducible rfl)
                  try simp only [Act.put, List.setIfInBounds_toArray, List.set_cons_zero, List.set_cons_succ]
                  refine wpAnyH_take (i := 13) (oi := ⟨some 25, _, _, _, _, _⟩) (v := ?_) rfl (by kernel_rfl) (by kernel_rfl) (by kernel_rfl) (fun _ _ _ h => h) (Or.inl ⟨by rfl, ?_⟩) (by assumption) ?_
                  rotate_left
                  · (intro w hSw; (try dsimp only at hSw); go_simp; try with_reducible rfl)
                  try simp only [Act.put, List.setIfInBounds_toArray, List.set_cons_zero, List.set_cons_succ]
                  refine wpAnyH_done (by kernel_rfl) ?_ _
                  have HX9 := Kp.mk hx9
                  clear m1 m2 hb9
                  go_wp2_with fail
                  go_ret2
                  exact ⟨XW6.out.trans (X68.out.trans HX9.out), .inr ⟨HN.out, rfl⟩⟩
                · have HRA : Kp (rdA rd9 u = some ⟨ty, mq, tx⟩) := ⟨by rw [HTWO.out, HB7.out]; show (rd9 oi).bind _ = _; rw [HR9.out]; show (bodL q mq).map _ = _; rw [hb9]; rfl⟩
                  have htl : tx.length ≤ 100000 := by have h1 := bod_len hb9; have h2 := HQL.out; omega
                  have HS9 := Kp.mk (HSq.out.trans hs9)
                  have hx9 : Ext w8 w9 := (by (repeat (first | assumption | exact Ext.refl _ | apply Ext.drew | apply Ext.drewN | apply Ext.alloc | refine Ext.trans ?_ (by assumption))); first | done | fail)
                  have hS2 := Ext.trans hHeld x9
                  refine held_go HK' hS2 (fun _ => ?_)
                  clear HK'
                  refine held_more (S' := fun w' => Ext w9 w') (fun _ h => Ext.trans hS2 h) _ _ _ _ ?_
                  clear hHeld hS2
                  have hHeld : Ext w9 w9 := Ext.refl _
                  try simp only [Act.put, List.setIfInBounds_toArray, List.set_cons_zero, List.set_cons_succ]
                  refine wpAnyH_take (i := 9) (oi := ⟨some 112, _, _, _, _, _⟩) (v := ?_) rfl (by kernel_rfl) (by kernel_rfl) (by kernel_rfl) (fun _ _ _ h => h) (Or.inl ⟨by rfl, ?_⟩) (by assumption) ?_
                  rotate_left
                  · (intro w hSw; (try dsimp only at hSw); go_simp; try with_reducible rfl)
                  try simp only [Act.put, List.setIfInBounds_toArray, List.set_cons_zero, List.set_cons_succ]
                  refine wpAnyH_take (i := 10) (oi := ⟨some 122, _, _, _, _, _⟩) (v := ?_) rfl (by kernel_rfl) (by kernel_rfl) (by kernel_rfl) (fun _ _ _ h => h) (Or.inl ⟨by rfl, ?_⟩) (by assumption) ?_
                  rotate_left
                  · (intro w hSw; (try dsimp only at hSw); go_simp; try with_reducible rfl)
                  try simp only [Act.put, List.setIfInBounds_toArray, List.set_cons_zero, List.set_cons_succ]
                  refine wpAnyH_take (i := 11) (oi := ⟨some 123, _, _, _, _, _⟩) (v := ?_) rfl (by kernel_rfl) (by kernel_rfl) (by kernel_rfl) (fun _ _ _ h => h) (Or.inl ⟨by rfl, ?_⟩) (by assumption) ?_
                  rotate_left
                  · (intro w hSw; (try dsimp only at hSw); go_simp; try with_reducible rfl)
                  try simp only [Act.put, List.setIfInBounds_toArray, List.set_cons_zero, List.set_cons_succ]
                  refine wpAnyH_take (i := 12) (oi := ⟨some 24, _, _, _, _, _⟩) (v := ?_) rfl (by kernel_rfl) (by kernel_rfl) (by kernel_rfl) (fun _ _ _ h => h) (Or.inl ⟨by rfl, ?_⟩) (by assumption) ?_
                  rotate_left
                  · (intro w hSw; (try dsimp only at hSw); go_simp; try with_reducible rfl)
                  try simp only [Act.put, List.setIfInBounds_toArray, List.set_cons_zero, List.set_cons_succ]
                  refine wpAnyH_take (i := 13) (oi := ⟨some 25, _, _, _, _, _⟩) (v := ?_) rfl (by kernel_rfl) (by kernel_rfl) (by kernel_rfl) (fun _ _ _ h => h) (Or.inl ⟨by rfl, ?_⟩) (by assumption) ?_
                  rotate_left
                  · (intro w hSw; (try dsimp only at hSw); go_simp; try with_reducible rfl)
                  try simp only [Act.put, List.setIfInBounds_toArray, List.set_cons_zero, List.set_cons_succ]
                  refine wpAnyH_done (by kernel_rfl) ?_ _
                  have HX9 := Kp.mk hx9
                  clear m1 m2 hb9 hs9
                  have XJ9 : Kp (Ext wi w9) := ⟨XJ6.out.trans (X68.out.trans HX9.out)⟩
                  have XW9 : Kp (Ext w w9) := ⟨XI.out.trans XJ9.out⟩
                  have m3 := K1.out w9 (X68.out.trans HX9.out)
                  have m4 := KQ.out w9 XW9.out
                  have hKD := (HW8.out.ext HX9.out).lower (Nat.zero_le _)
                  have hF' : Hi w9 (fpv (.slice A8b NT c8b)) := fun k hk => hKD.lt k (mem_fpv.1 hk)
                  obtain ⟨F', hFe⟩ : ∃ F', F' = fpv (.slice A8b NT c8b) := ⟨_, rfl⟩
                  have hHA : AnX w w9 F' (((A8b, NT, c8b), (A9, tx.length, c9)), ⟨ty, mq, tx⟩) := ⟨hKD, HDG.out, HS9.out w HB.out, fun k hk => by rw [hFe]; exact hk, by show tx.length ≤ 1000000; omega⟩
                  have hHJ := HJ.out.o.ext XJ9.out
                  rw [← hFe] at hF'
                  have HLF : Kp (Lo w4.heap.size F') := ⟨by rw [hFe]; exact HL8.out⟩
                  clear hFe hKD
                  have HX10 : Kp (Ext w9 (w9.alloc (.cells #[.slice A8b NT c8b, .int .u8 (ub mq), .slice A9 tx.length c9] 38))) := ⟨(by (repeat (first | assumption | exact Ext.refl _ | apply Ext.drew | apply Ext.drewN | apply Ext.alloc | refine Ext.trans ?_ (by assumption))); first | done | fail)⟩
                  have HO10 := Kp.mk (hHJ.ext HX10.out)
                  have HA10 := Kp.mk (hHA.mds (HX10.out.mds []) (fun _ _ h => by cases h))
                  have HH10 : Kp (Hi (w9.alloc (.cells #[.slice A8b NT c8b, .int .u8 (ub mq), .slice A9 tx.length c9] 38)) F') := ⟨hF'.mono HX10.out.size⟩
                  have hpl5 : ps.length ≤ 1000000 := by have h1 := HJ.out.len; omega
                  have hpN : ps.length = N5 := by rw [HJ.out.len, HN5.out]
                  have HB10 := Kp.mk (Blk.new w9 38 #[.slice A8b NT c8b, .int .u8 (ub mq), .slice A9 tx.length c9])
                  have HPL := Kp.mk hpl5
                  have HPN := Kp.mk (show ps.length + 1 = N5 + 1 by rw [hpN])
                  clear hHJ hHA hF' hpl5 hpN
                  go_wp2_with (first | (at_builtin; refine wpList_append_ax rfl (.tmp 134) (.tmp 143) rfl _ F2 ps rfl HO10.out w9.heap.size 1 (((A8b, NT, c8b), (A9, tx.length, c9)), ⟨ty, mq, tx⟩) F' rfl HB10.out HA10.out HH10.out HPL.out (N5 + 1) HPN.out ?_; intro A11 c11 w11 ho11 hap11) | fail)
                  have HO11 := Kp.mk ho11
                  have HP11 := Kp.mk hap11
                  clear ho11 hap11
                  go_roundw
                  case rel =>
                    have hx : Ext w4 w11 := HP11.out.mds.ext (HJ.out.ext.trans (XJ9.out.trans HX10.out)) fun k hk => HJ.out.lo k (List.mem_append.2 (.inl hk))
                    refine ⟨j + 1, A11, N5 + 1, c11, ps ++ [(((A8b, NT, c8b), (A9, tx.length, c9)), ⟨ty, mq, tx⟩)], F2 ++ F', by omega, rfl, by go_num, by rw [HN5.out], ⟨HO11.out, ?_, hx, fun k hk => ?_, by rw [List.length_append, HJ.out.len]; rfl⟩⟩
                    · rw [List.map_append]
                      exact rdAll_more HQU.out HJ.out.rd HRA.out
                    · rcases List.mem_append.1 hk with e | e
                      · rcases HP11.out.fp k e with e2 | e2
                        · exact HJ.out.lo k (List.mem_append.2 (.inl e2))
                        · have h1 := (HJ.out.ext.trans (XJ9.out.trans HX10.out)).size
                          omega
                      · rcases List.mem_append.1 e with e2 | e2
                        · exact HJ.out.lo k (List.mem_append.2 (.inr e2))
                        · exact HLF.out k e2
                  case measure => simp [intOf]; omega
          · have X6 := Kp.mk (XI.out.trans XJ6.out)
            have HN := Kp.mk (HNA.out (rdA_2 HB5.out hp6 (by rw [List.length_map]; exact h2)))
            have bn2 := neq2X h2
            clear x6 hp6 HP5 hr6 hv6 hTL hyl
            generalize ts.length = T2 at *
            go_wp2_with fail
            go_ret2
            exact ⟨X6.out, .inr ⟨HN.out, rfl⟩⟩
        · obtain rfl : j = NU := by omega
          have b2 : ¬ (j : Int) < (j : Int) := by omega
          have HRS : Kp (rdS rd9 z = some (ps.map Prod.snd)) := ⟨by
            have h1 := HJ.out.rd
            rw [List.take_of_length_le (by rw [List.length_map, HNU.out]; exact Nat.le_refl _)] at h1
            rw [HSL.out, h1]⟩
          have hps : ps.length = N5 := by rw [HJ.out.len, HN5.out]
          have hqs : qs.length = N8 := by rw [HI.out.len, HN8.out]
          obtain ⟨F3, hF3⟩ : ∃ F3, F3 = fpv (.slice A5 N5 c5) ++ F2 := ⟨_, rfl⟩
          have XOi : Kp (Ext wo wi) := ⟨XO4.out.trans HJ.out.ext⟩
          have hHX : Ext wi (wi.alloc (.cells #[.slice A5 N5 c5] 39)) := (by (repeat (first | assumption | exact Ext.refl _ | apply Ext.drew | apply Ext.drewN | apply Ext.alloc | refine Ext.trans ?_ (by assumption))); first | done | fail)
          have hSt : StX w wi F3 ((A5, N5, c5), ps.map Prod.snd) := ⟨ps, F2, rfl, HJ.out.o, fun k hk => by rw [hF3]; exact hk⟩
          have hHi : Hi wi F3 := by rw [hF3]; exact HJ.out.o.hi_all
          have hLo : Lo w2.heap.size F3 := fun k hk => by
            have h1 := HJ.out.lo k (by rw [hF3] at hk; exact hk)
            have h2 := X24.out.size
            omega
          have HXi := Kp.mk hHX
          have HST := Kp.mk (hSt.mds (hHX.mds []) (fun _ _ h => by cases h))
          have HHi : Kp (Hi (wi.alloc (.cells #[.slice A5 N5 c5] 39)) F3) := ⟨hHi.mono hHX.size⟩
          have HLO3 := Kp.mk hLo
          have HOo := Kp.mk ((HI.out.o.ext XOi.out).ext hHX)
          have HLIT := Kp.mk (lit_st wi (A5, N5, c5))
          have HROW := Kp.mk (hqs ▸ HOo.out.row)
          have HB47 : Kp ((N8 + 1) * 24 ≤ 140737488355328) := ⟨by have := HN8.out; omega⟩
          have HQS := Kp.mk hqs
          clear hSt hHi hLo hF3 hHX hps hqs
          go_wp2_with (first | (at_builtin; refine wpList_append_r 25 (.slice none 0 0) 24 Tryz.underlying25 inStp rfl (by decide) (fun _ => rfl) rfl (.tmp 145) (.tmp 147) rfl (.slice A8 N8 c8) N8 (qs.map Prod.fst) rfl HROW.out (some ⟨wi.heap.size, 0, none⟩) 1 1 [(A5, N5, c5)] rfl HLIT.out HB47.out (N8 + 1) rfl _ rfl ?_; intro A12 c12 w12 hr12 hap12) | fail)
          have HO12 := Kp.mk (HOo.out.app HST.out HHi.out hap12 hr12 (by rw [HQS.out]))
          have HP12 := Kp.mk hap12
          clear hr12 hap12
          go_roundw
          case rel =>
            have hx : Ext w2 w12 := HP12.out.mds.ext (HI.out.ext.trans (XOi.out.trans HXi.out)) fun k hk => HI.out.lo k (List.mem_append.2 (.inl hk))
            refine ⟨k + 1, A12, N8 + 1, c12, qs ++ [((A5, N5, c5), ps.map Prod.snd)], F ++ F3, by omega, rfl, by go_num, by rw [HN8.out], ⟨HO12.out, ?_, hx, fun k hk => ?_, by rw [List.length_append, HI.out.len]; rfl⟩⟩
            · rw [List.map_append]
              exact rdAll_more HQZ.out HI.out.rd HRS.out
            · rcases List.mem_append.1 hk with e | e
              · rcases HP12.out.fp k e with e2 | e2
                · exact HI.out.lo k (List.mem_append.2 (.inl e2))
                · have h1 := (HI.out.ext.trans (XOi.out.trans HXi.out)).size
                  omega
              · rcases List.mem_append.1 e with e2 | e2
                · exact HI.out.lo k (List.mem_append.2 (.inr e2))
                · exact HLO3.out k e2
          case measure => simp [intOf]; omega
    · obtain rfl : k = NV := by omega
      have b1 : ¬ (k : Int) < (k : Int) := by omega
      have HRN : Kp (rdN rd9 b = some (qs.map Prod.snd)) := ⟨by
        have h1 := HI.out.rd
        rw [List.take_of_length_le (by rw [List.length_map, HNV.out]; exact Nat.le_refl _)] at h1
        rw [rdN_l HB0.out HP2.out, h1]⟩
      have hqs : qs.length = N8 := by rw [HI.out.len, HN8.out]
      have XO : Kp (Ext w wo) := ⟨X2.out.trans HI.out.ext⟩
      have HNM := Kp.mk (HI.out.o.nam XO.out hqs)
      have HCW := Kp.mk (refWrite_any HNM.out HI.out.o.tl)
      have HQL : Kp ((qs.map Prod.snd).length = N8) := ⟨by rw [List.length_map]; exact hqs⟩
      clear hqs
      generalize qs.map Prod.snd = x at *
      go_wp2_with fail
      refine HCW.out.mono ?_
      rintro e w5 (⟨hm, A5, c5, rfl, hs5, ho5, x5⟩ | ⟨hm, rfl, x5⟩)
      · have X5 := Kp.mk (XO.out.trans x5)
        have HNM5 := Kp.mk (HNM.out.ext x5)
        have S5 := hs5.str (Ext.refl _)
        have SB := HB.out.str X5.out
        have HM := Kp.mk hm
        clear hs5 ho5 x5 hm
        generalize (namB x).length = P at *
        by_cases he : namB x = b
        · have hE := str_eqX b
          rw [he] at S5
          have HE := Kp.mk he
          clear he
          go_wp2_with fail
          go_ret2
          refine ⟨X5.out, .inl ⟨x, A8, c8, HM.out, HE.out, ?_, ?_⟩⟩
          · rw [HQL.out]; rfl
          · rw [HQL.out]; exact HNM5.out
        · have hE : ((strOf (namB x)).toList == (strOf b).toList) = false := beq_eq_false_iff_ne.2 fun e => he (strOf_inj e)
          have HN := Kp.mk (no_rd2 HRN.out fun h => he h.2)
          clear he
          go_wp2_with fail
          go_ret2
          exact ⟨X5.out, .inr ⟨HN.out, rfl⟩⟩
      · have X5 := Kp.mk (XO.out.trans x5)
        have HN := Kp.mk (no_rd2 HRN.out fun h => hm h.1)
        clear x5 hm
        go_wp2_with fail
        go_ret2
        exact ⟨X5.out, .inr ⟨HN.out, rfl⟩⟩
end Go.Proofs.YthookcnkmlmgcaaGreatDoor
