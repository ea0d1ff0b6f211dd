/-
  name.listIn over steps.
  name.Read.
  The reference's Plain.
  The reference's sameType, has.
  A name whose parts are not too long. Plain.
-/
import Derived.Test.YthookcnkmlmgcaaDoorW2
import Derived.Test.YthookcnkmlmgcaaDoorVYs
import Derived.Test.YthookcnkmlmgcaaDoorM10
import Derived.Test.YthookcnkmlmgcaaDoorM5
import Derived.Test.YthookcnkmlmgcaaDoorVEb
import Derived.Test.YthookcnkmlmgcaaDoorVIm
namespace Go.Proofs.YthookcnkmlmgcaaDoor
open Go Go.RowKit
set_option maxRecDepth 4000

theorem lit_st (w : World) (v : Option Addr × Nat × Nat) : Rd eSl (w.alloc (.cells #[eSl v] 43)) (some ⟨w.heap.size, 0, none⟩) 1 1 [v] := by
  refine ⟨rfl, Nat.le_refl _, (fun e => by cases e), fun _ => ⟨w.heap.size, 0, rfl, fun j y hj => ?_⟩⟩
  have hj0 : j = 0 := by have := (List.getElem?_eq_some_iff.1 hj).1; simp at this; exact this
  subst hj0
  obtain rfl : v = y := by simpa using hj
  exact (Blk.new w 43 #[eSl v]).h.cell 0
/-- what listIn over steps tells -/
def RdN (w : World) (q : Nat) (G : List Nat) (rest : List (BitVec 8)) (bs : List (List (BitVec 8))) (e : Ending) (w' : World) : Prop :=
  (∃ (ps : List ((Option Addr × Nat × Nat) × List Atr)) (r : List (BitVec 8)) (A : Option Addr) (c : Nat) (F G' : List Nat), NmW (ps.map Prod.snd) ∧ rest = namB (ps.map Prod.snd) ++ r ∧ e = .returned (.tuple #[.slice A ps.length c, .nilIface]) ∧ NmO w' (.slice A ps.length c) F ps ∧ Lo w.heap.size (fpv (.slice A ps.length c) ++ F) ∧ Rr w' q G' r bs ∧ Mvs G G' w w' ∧ Ap (fpv (.slice A ps.length c) ++ F) G') ∨
  ((¬ ∃ (s : List (List Atr)) (r : List (BitVec 8)), NmW s ∧ rest = namB s ++ r) ∧ (∃ k : Int, e = .returned (.tuple #[.slice none 0 0, err k])) ∧ Mds G w w')
/-- between two rounds -/
structure LnI (w wr : World) (q : Nat) (G : List Nat) (x r : List (BitVec 8)) (bs : List (List (BitVec 8))) (v : Value) (ps : List ((Option Addr × Nat × Nat) × List Atr)) (F G2 : List Nat) (x' : List (BitVec 8)) : Prop where
  o : NmO wr v F ps
  may : ∀ a ∈ ps.map Prod.snd, StW a
  eq : ((ps.map Prod.snd).map stpB).flatten ++ x' = x
  rr : Rr wr q G2 x' (bs ++ [r])
  mv : Mvs G G2 w wr
  ap : Ap (fpv v ++ F) G2
  lo : Lo w.heap.size (fpv v ++ F)
theorem no_name {ps : List ((Option Addr × Nat × Nat) × List Atr)} {x x' rest r : List (BitVec 8)} (hm : ∀ a ∈ ps.map Prod.snd, StW a) (he : ((ps.map Prod.snd).map stpB).flatten ++ x' = x) (hel : El rest 48 x r) (hne : x' ≠ [])
    (hno : ¬ ∃ (a : List Atr) (r : List (BitVec 8)), StW a ∧ x' = stpB a ++ r) : ¬ ∃ (s : List (List Atr)) (r : List (BitVec 8)), NmW s ∧ rest = namB s ++ r := by
  rintro ⟨s, r', hs, e⟩
  have f : El rest 48 (s.map stpB).flatten r' := ⟨by decide, hs.bd, e⟩
  obtain ⟨_, rfl, _⟩ := el_uniq hel f
  obtain ⟨t, _, e3⟩ := stp_cut.pre _ s x' hm hs.all he
  cases t with
  | nil => exact hne e3
  | cons a t => exact hno ⟨a, (t.map stpB).flatten, hs.all a (by simp_all), by rw [e3]; rfl⟩
set_option maxHeartbeats 16000000 in
theorem listS_any {w : World} {q : Nat} {G : List Nat} {rest : List (BitVec 8)} {bs : List (List (BitVec 8))} (h : Rr w q G rest bs) (hx : rest.length ≤ 1000000000) (hd : bs.length < 22) :
    Calls Tryd.prog 20 #[.pointer (some ⟨q, 0, none⟩), .int .u8 (ub 48), .func (.func 21) #[] #[]] w (RdN w q G rest bs) := by
  by_cases hE : ∃ x r, El rest 48 x r
  · obtain ⟨x, r, hel⟩ := hE
    have HEL := Kp.mk hel
    have hxl : x.length ≤ 65535 := hel.2.1
    have HC := Kp.mk (Enter_ok (m := 48) h (by omega) (by decide) hel (by omega))
    clear hel h
    go_enter Tryd.func20, Tryd.ntmps20
    go_wp2_with fail
    refine HC.out.mono ?_
    rintro e w1 ⟨rfl, G1, hr1, hm1⟩
    have HR1 := Kp.mk hr1
    have HM1 := Kp.mk hm1
    clear hr1 hm1
    go_wp2_with fail
    go_loopw [9] (fun v9 wr => ∃ (A : Option Addr) (c : Nat) (ps : List ((Option Addr × Nat × Nat) × List Atr)) (F G2 : List Nat) (x' : List (BitVec 8)), v9 = .slice A ps.length c ∧ LnI w wr q G x r bs v9 ps F G2 x') (fun v9 _ => x.length - slN v9)
    case atStart => exact ⟨none, 0, [], [], G1, x, rfl, ⟨NmO.nil _, (fun a h => by cases h), rfl, HR1.out, HM1.out, (fun k hk => by cases hk), fun k hk => by cases hk⟩⟩
    case round =>
      obtain ⟨A, c, ps, F, G2, x', rfl, hI⟩ := hrel
      have HI := Kp.mk hI
      have hln : ps.length + x'.length ≤ x.length := by
        have h1 := cut_len stp_cut _ hI.may
        have h2 := congrArg List.length hI.eq
        simp only [List.length_append, List.length_map] at h1 h2
        omega
      clear hI
      obtain ⟨wo, rfl⟩ : ∃ wo : World, wo = wr := ⟨_, rfl⟩
      have HNX := Kp.mk (Next_any HI.out.rr)
      cases hx' : x' with
      | nil =>
        subst hx'
        have hn : nxV [] = .tuple #[.int .u8 (ub (gb [] 0)), .bool false] := rfl
        rw [hn] at HNX
        clear hn
        have hap := Kp.mk HI.out
        go_wp2_with fail
        refine HNX.out.mono ?_
        rintro e w3 ⟨rfl, hw⟩
        obtain rfl : wo = w3 := hw.symm
        go_wp2_with fail
        refine (Leave_ok HI.out.rr (by omega)).mono ?_
        rintro e w4 ⟨rfl, G4, hr4, hm4⟩
        have HR4 := Kp.mk hr4
        have HM4 := Kp.mk hm4
        clear hr4 hm4
        go_wp2_with fail
        go_ret2
        have he := HI.out.eq
        rw [List.append_nil] at he
        refine .inl ⟨ps, r, A, c, F, G4, ⟨HI.out.may, by rw [he]; exact hxl⟩, ?_, rfl, HI.out.o.mds HM4.out.m HI.out.ap, HI.out.lo, HR4.out, HI.out.mv.trans HM4.out, (HM4.out.ap HI.out.o.hi_all HI.out.ap.symm).symm⟩
        rw [HEL.out.2.2]
        show elm 48 x ++ r = elm 48 _ ++ r
        rw [← he]
      | cons b0 t0 =>
        have hn : nxV (b0 :: t0) = .tuple #[.int .u8 (ub (gb (b0 :: t0) 0)), .bool true] := rfl
        rw [hx', hn] at HNX
        have HNE : Kp (x' ≠ []) := ⟨by rw [hx']; exact List.cons_ne_nil _ _⟩
        have hnl : ps.length < x.length := by
          rw [hx'] at hln
          simp at hln
          omega
        generalize gb (b0 :: t0) 0 = b1 at HNX
        clear hn hx'
        have HC3 := Kp.mk (readStep_any HI.out.rr (by omega) (by simp; omega))
        go_wp2_with fail
        refine HNX.out.mono ?_
        rintro e w3 ⟨rfl, hw⟩
        obtain rfl : wo = w3 := hw.symm
        go_wp2_with fail
        refine HC3.out.mono ?_
        rintro e w4 (⟨ps2, r2, A2, c2, F3, G3, haw, hxa, rfl, han, hlo, hr4, hm4, hap4⟩ | ⟨hno, ⟨k5, rfl⟩, hm4⟩)
        · obtain ⟨n2, hn2⟩ : ∃ n2, ps2.length = n2 := ⟨_, rfl⟩
          rw [hn2] at han hlo hap4 ⊢
          clear hn2
          obtain ⟨a, ha⟩ : ∃ a : List Atr, a = ps2.map Prod.snd := ⟨_, rfl⟩
          obtain ⟨F2, hF2⟩ : ∃ F2 : List Nat, F2 = fpv (.slice A2 n2 c2) ++ F3 := ⟨_, rfl⟩
          have hst : StF w4 F2 ((A2, n2, c2), a) := ⟨ps2, F3, ha.symm, han, fun k hk => by rw [hF2]; exact hk⟩
          have hhi : Hi w4 F2 := by rw [hF2]; exact han.hi_all
          rw [← hF2] at hlo hap4
          rw [← ha] at haw hxa
          clear han hF2 ha
          have HAW := Kp.mk haw
          have HXA := Kp.mk hxa
          have HLO := Kp.mk hlo
          have HR4 := Kp.mk hr4
          have HM4 := Kp.mk hm4
          have HA4 := Kp.mk hap4
          have HX6 : Kp (Ext w4 (w4.alloc (.cells #[.slice A2 n2 c2] 43))) := ⟨(by (repeat (first | assumption | exact Ext.refl _ | apply Ext.drew | apply Ext.drewN | apply Ext.alloc | refine Ext.trans ?_ (by assumption))); first | done | fail)⟩
          have HO6 := Kp.mk ((HI.out.o.mds hm4.m HI.out.ap).ext HX6.out)
          have HST6 := Kp.mk (hst.mds (HX6.out.mds []) (fun _ _ h => by cases h))
          have HH6 : Kp (Hi (w4.alloc (.cells #[.slice A2 n2 c2] 43)) F2) := ⟨hhi.mono HX6.out.size⟩
          clear haw hxa hst hhi hlo hr4 hm4 hap4
          go_wp2_with (first | (at_builtin; refine wpList_append_r 22 (.slice none 0 0) 24 Tryd.underlying22 inStp rfl (by decide) (fun _ => rfl) rfl (.tmp 39) (.tmp 41) rfl (.slice A ps.length c) ps.length (ps.map Prod.fst) rfl HO6.out.row (some ⟨w4.heap.size, 0, none⟩) 1 1 [(A2, n2, c2)] rfl (lit_st w4 (A2, n2, c2)) (by omega) (ps.length + 1) rfl _ rfl ?_; intro A7 c7 w7 hr7 hap7) | fail)
          have HO7 := Kp.mk (HO6.out.app HST6.out HH6.out hap7 hr7 rfl)
          have HP7 := Kp.mk hap7
          clear hr7 hap7
          go_roundw
          case rel =>
            have hlo1 : Lo w.heap.size (fpv (.slice A ps.length c)) := fun k hk => HI.out.lo k (List.mem_append.2 (.inl hk))
            have hs1 := HI.out.mv.m.size
            have hs2 := HM4.out.m.size
            have hs3 := HX6.out.size
            have hG3 : Hi w4 G3 := HR4.out.hi
            have hv3 : Ap (fpv (.slice A ps.length c) ++ F) G3 := (HM4.out.ap HI.out.o.hi_all HI.out.ap.symm).symm
            have hM : Mvs G G3 w (w4.alloc (.cells #[.slice A2 n2 c2] 43)) := (HI.out.mv.trans HM4.out).post HX6.out
            refine ⟨A7, c7, ps ++ [((A2, n2, c2), a)], F ++ F2, G3, r2, by simp, ⟨HO7.out, fun y hy => ?_, ?_, HR4.out.ext HX6.out |>.mds HP7.out.mds (fun k hk hk2 => hv3 k (List.mem_append.2 (.inl hk2)) hk), ⟨hM.m.behind HP7.out.mds hlo1, hM.f⟩, fun k hk => ?_, fun k hk => ?_⟩⟩
            · rw [List.map_append] at hy
              rcases List.mem_append.1 hy with e | e
              · exact HI.out.may y e
              · rw [List.mem_singleton.1 e]; exact HAW.out
            · rw [List.map_append, List.map_append, List.flatten_append, List.append_assoc]
              show _ ++ ((stpB a ++ []) ++ r2) = x
              rw [List.append_nil, ← HXA.out]
              exact HI.out.eq
            · rcases List.mem_append.1 hk with e | e
              · rcases HP7.out.fp k e with e2 | e2
                · exact hv3 k (List.mem_append.2 (.inl e2))
                · intro hk3
                  have := hG3 k hk3
                  omega
              · rcases List.mem_append.1 e with e2 | e2
                · exact hv3 k (List.mem_append.2 (.inr e2))
                · exact HA4.out k e2
            · rcases List.mem_append.1 hk with e | e
              · rcases HP7.out.fp k e with e2 | e2
                · exact hlo1 k e2
                · omega
              · rcases List.mem_append.1 e with e2 | e2
                · exact HI.out.lo k (List.mem_append.2 (.inr e2))
                · have := HLO.out k e2
                  omega
          case measure => simp [slN]; omega
        · have HNO := Kp.mk (no_name HI.out.may HI.out.eq HEL.out HNE.out hno)
          have M04 := Kp.mk (HI.out.mv.trans ⟨hm4, fun _ h => .inl h⟩).m
          clear hno hm4
          go_wp2_with fail
          go_ret2
          exact .inr ⟨HNO.out, ⟨_, rfl⟩, M04.out⟩
  · have HNO : Kp (¬ ∃ (s : List (List Atr)) (r : List (BitVec 8)), NmW s ∧ rest = namB s ++ r) := ⟨by
      rintro ⟨s, r', hs, e⟩
      exact hE ⟨_, _, by decide, hs.bd, e⟩⟩
    have HC := Kp.mk (Enter_err (m := 48) h (by omega) fun (h : isW 48 = true ∧ ∃ x r, El rest 48 x r) => hE h.2)
    clear hE h
    generalize erC rest 48 = k at *
    go_enter Tryd.func20, Tryd.ntmps20
    go_wp2_with fail
    refine HC.out.mono ?_
    rintro e w1 ⟨rfl, x1⟩
    have X1 := Kp.mk x1
    clear x1
    go_wp2_with fail
    go_ret2
    exact .inr ⟨HNO.out, ⟨_, rfl⟩, X1.out.mds G⟩
end Go.Proofs.YthookcnkmlmgcaaDoor
namespace Go.Proofs.YthookcnkmlmgcaaDoor
open Go Go.RowKit
set_option maxRecDepth 4000

/-- what Read tells -/
def RdB (w : World) (b : List (BitVec 8)) (e : Ending) (w' : World) : Prop :=
  (∃ (qs : List ((Option Addr × Nat × Nat) × List Atr)) (A : Option Addr) (c : Nat) (F : List Nat), MayN textB (qs.map Prod.snd) ∧ namB (qs.map Prod.snd) = b ∧ e = .returned (.tuple #[.slice A qs.length c, .nilIface]) ∧ NmO w' (.slice A qs.length c) F qs ∧ Lo w.heap.size (fpv (.slice A qs.length c) ++ F) ∧ Ext w w') ∨
  ((¬ ∃ x, MayN textB x ∧ namB x = b) ∧ e = .returned (.tuple #[.slice none 0 0, err 2]) ∧ Ext w w')
theorem end_rest {r : List (BitVec 8)} (h : r ≠ []) : errW (endC r []) = err 3 := by
  cases r with
  | nil => exact absurd rfl h
  | cons a t =>
    unfold endC errW
    rw [if_neg (show ¬ 0 < ([] : List (List (BitVec 8))).length by decide), if_pos (show 0 < (a :: t).length by simp), if_neg (by decide)]
    rfl
theorem end_none : errW (endC [] []) = .nilIface := rfl
set_option maxHeartbeats 16000000 in
theorem Read_any {w : World} {b : List (BitVec 8)} {A : Option Addr} {n c : Nat} (h : Bs w A n c b) (hn : n ≤ 1000000000) (hT : Tabs8 w) :
    Calls Tryd.prog 11 #[.slice A n c] w (RdB w b) := by
  have hl := h.len
  have HC := Kp.mk (NewReader_any h (by omega))
  have HT := Kp.mk hT
  clear h hT
  go_enter Tryd.func11, Tryd.ntmps11
  go_wp2_with fail
  refine HC.out.mono ?_
  rintro e w1 ⟨q, rfl, ⟨G, hr1, hlo1⟩, x1⟩
  have HLO := Kp.mk hlo1
  have X1 := Kp.mk x1
  have HC2 := Kp.mk (listS_any hr1 (by omega) (by simp))
  clear hr1 hlo1 x1
  go_wp2_with fail
  refine HC2.out.mono ?_
  rintro e w2 (⟨qs, r, A2, c2, F, G2, hw2, he2, rfl, ho2, hl2, hr2, hm2, ha2⟩ | ⟨hno, ⟨k, rfl⟩, hm2⟩)
  · have HW2 := Kp.mk hw2
    have HE2 := Kp.mk he2
    have HO2 := Kp.mk ho2
    have HL2 := Kp.mk (hl2.mono X1.out.size)
    have X2 : Kp (Ext w w2) := ⟨hm2.ext X1.out HLO.out⟩
    have HCE := Kp.mk (End_any hr2)
    clear hw2 he2 ho2 hl2 hr2 hm2 ha2
    by_cases hr : r = []
    · subst hr
      rw [end_none] at HCE
      have HCK := Kp.mk (Check_any (HO2.out.nam rfl) (tabs_ext HT.out X2.out))
      go_wp2_with fail
      refine HCE.out.mono ?_
      rintro e w3 ⟨rfl, hw⟩
      obtain rfl : w2 = w3 := hw.symm
      go_wp2_with fail
      refine HCK.out.mono ?_
      rintro e w3 ⟨x3, (⟨hm, rfl⟩ | ⟨hm, rfl⟩)⟩
      · have HM := Kp.mk hm
        have X3 := Kp.mk x3
        clear hm x3
        go_wp2_with fail
        go_ret2
        exact .inl ⟨qs, A2, c2, F, HM.out, by rw [HE2.out, List.append_nil], rfl, HO2.out.ext X3.out, HL2.out, X2.out.trans X3.out⟩
      · have HN : Kp (¬ ∃ x, MayN textB x ∧ namB x = b) := ⟨by
          rintro ⟨x, hx, e⟩
          rw [HE2.out, List.append_nil] at e
          rw [namW_inj hx.w HW2.out e] at hx
          exact hm hx⟩
        have X3 := Kp.mk x3
        clear hm x3
        go_wp2_with fail
        go_ret2
        exact .inr ⟨HN.out, rfl, X2.out.trans X3.out⟩
    · have HN : Kp (¬ ∃ x, MayN textB x ∧ namB x = b) := ⟨by
        rintro ⟨x, hx, e⟩
        rw [HE2.out] at e
        have f1 : El (namB x) 48 (x.map stpB).flatten [] := ⟨by decide, hx.w.bd, by rw [List.append_nil]; rfl⟩
        have f2 : El (namB x) 48 ((qs.map Prod.snd).map stpB).flatten r := ⟨by decide, HW2.out.bd, e⟩
        exact hr (el_uniq f1 f2).2.2.symm⟩
      rw [end_rest hr] at HCE
      clear hr
      go_wp2_with fail
      refine HCE.out.mono ?_
      rintro e w3 ⟨rfl, hw⟩
      obtain rfl : w2 = w3 := hw.symm
      go_wp2_with fail
      go_ret2
      exact .inr ⟨HN.out, rfl, X2.out⟩
  · have HN : Kp (¬ ∃ x, MayN textB x ∧ namB x = b) := ⟨by
      rintro ⟨x, hx, e⟩
      exact hno ⟨x, [], hx.w, by rw [List.append_nil]; exact e.symm⟩⟩
    have X2 : Kp (Ext w w2) := ⟨hm2.ext X1.out HLO.out⟩
    clear hno hm2
    go_wp2_with fail
    go_ret2
    exact .inr ⟨HN.out, rfl, X2.out⟩
end Go.Proofs.YthookcnkmlmgcaaDoor
namespace Go.Proofs.YthookcnkmlmgcaaDoor
open Go Go.RowKit
set_option maxRecDepth 4000

theorem gN_step (s : List (BitVec 8) × Bool) (x : BitVec 8) : gN s x = if x = 32 then (s.1, true) else ((if s.1 ≠ [] ∧ s.2 = true then s.1 ++ [32] else s.1) ++ [lowB x], false) := rfl
end Go.Proofs.YthookcnkmlmgcaaDoor
namespace Go.Proofs.YthookcnkmlmgcaaDoor
open Go Go.RowKit
set_option maxRecDepth 4000

set_option maxHeartbeats 4000000 in
theorem sameType_any {w : World} {A B : Option Addr} {n c m d : Nat} {l k : List Nat} (h : Rd vL w A n c l) (h' : Rd vL w B m d k) (hn : n ≤ 1000000) :
    Calls Tryd.prog 23 #[.slice A n c, .slice B m d] w fun e w' => e = .returned (.bool (decide (l = k))) ∧ Ext w w' := by
  have hl := h.len
  have hk := h'.len
  obtain ⟨D, hD⟩ : ∃ D, decide (l = k) = D := ⟨_, rfl⟩
  rw [hD]
  by_cases hnm : n = m
  · subst hnm
    have HD := Kp.mk hD
    have H1 := Kp.mk h
    have H2 := Kp.mk h'
    have HL := Kp.mk hl
    have HK := Kp.mk hk
    clear h h' hl hk hD
    go_enter Tryd.func23, Tryd.ntmps23
    go_wp2_with fail
    go_loopw [5] (fun iv wr => ∃ j : Nat, j ≤ n ∧ iv = .int .i64 (j : Int) ∧ (∀ i, i < j → l[i]? = k[i]?) ∧ Ext w wr) (fun iv _ => n - (intOf iv).toNat)
    case atStart => exact ⟨0, Nat.zero_le _, rfl, (fun i hi => absurd hi (Nat.not_lt_zero _)), Ext.refl _⟩
    case round =>
      obtain ⟨j, hj, rfl, hq, hx⟩ := hrel
      have HQ := Kp.mk hq
      have HX := Kp.mk hx
      clear hq
      by_cases hlt : j < n
      · have b1 : (j : Int) < (n : Int) := by omega
        obtain ⟨g, o, rfl, hc⟩ := H1.out.at_ (by omega)
        obtain ⟨g', o', rfl, hc'⟩ := H2.out.at_ (by omega)
        obtain ⟨a, ha⟩ : ∃ a, l[j]? = some a := ⟨_, List.getElem?_eq_getElem (by have := HL.out; omega)⟩
        obtain ⟨b, hb⟩ : ∃ b, k[j]? = some b := ⟨_, List.getElem?_eq_getElem (by have := HK.out; omega)⟩
        have c1 : ∀ W, Ext wr W → W.cell? ⟨g, o + j, none⟩ = some (.int .u32 (a : Int)) := fun W hW => cell_fwd (hc j a ha) (hx.trans hW)
        have c2 : ∀ W, Ext wr W → W.cell? ⟨g', o' + j, none⟩ = some (.int .u32 (b : Int)) := fun W hW => cell_fwd (hc' j b hb) (hx.trans hW)
        have HA := Kp.mk ha
        have HB := Kp.mk hb
        clear hc hc' ha hb hx
        by_cases hab : a = b
        · have HAB := Kp.mk hab
          have e1 : ((a : Int) == (b : Int)) = true := by rw [hab]; exact beq_self_eq_true _
          have e2 : ((a : Int) != (b : Int)) = false := by rw [bne, e1]; rfl
          clear hab
          go_wp2_with fail
          refine wp_region_held_drew (S := fun w' => Ext wr w') (by kernel_rfl) (Ext.refl wr).drew (fun hHeld => ?_)
          refine wpAnyH_take (i := 0) (oi := ⟨some 17, _, _, _, _, _⟩) (v := ?_) rfl (by kernel_rfl) (by kernel_rfl) (by kernel_rfl) (fun _ _ _ h => h) (Or.inl ⟨by rfl, ?_⟩) (by assumption) ?_
          rotate_left
          · (intro w hSw; (try dsimp only at hSw); go_simp; try with_reducible rfl)
          try simp only [Act.put, List.setIfInBounds_toArray, List.set_cons_zero, List.set_cons_succ]
          refine wpAnyH_take (i := 1) (oi := ⟨some 18, _, _, _, _, _⟩) (v := ?_) rfl (by kernel_rfl) (by kernel_rfl) (by kernel_rfl) (fun _ _ _ h => h) (Or.inl ⟨by rfl, ?_⟩) (by assumption) ?_
          rotate_left
          · (intro w hSw; (try dsimp only at hSw); go_simp; try with_reducible rfl)
          try simp only [Act.put, List.setIfInBounds_toArray, List.set_cons_zero, List.set_cons_succ]
          refine wpAnyH_take (i := 2) (oi := ⟨some 19, _, _, _, _, _⟩) (v := ?_) rfl (by kernel_rfl) (by kernel_rfl) (by kernel_rfl) (fun _ _ _ h => h) (Or.inl ⟨by rfl, ?_⟩) (by assumption) ?_
          rotate_left
          · (intro w hSw; (try dsimp only at hSw); go_simp; try with_reducible rfl)
          try simp only [Act.put, List.setIfInBounds_toArray, List.set_cons_zero, List.set_cons_succ]
          refine wpAnyH_take (i := 3) (oi := ⟨some 20, _, _, _, _, _⟩) (v := ?_) rfl (by kernel_rfl) (by kernel_rfl) (by kernel_rfl) (fun _ _ _ h => h) (Or.inl ⟨by rfl, ?_⟩) (by assumption) ?_
          rotate_left
          · (intro w hSw; (try dsimp only at hSw); go_simp; try with_reducible rfl)
          try simp only [Act.put, List.setIfInBounds_toArray, List.set_cons_zero, List.set_cons_succ]
          refine wpAnyH_take (i := 4) (oi := ⟨some 21, _, _, _, _, _⟩) (v := ?_) rfl (by kernel_rfl) (by kernel_rfl) (by kernel_rfl) (fun _ _ _ h => h) (Or.inl ⟨by rfl, ?_⟩) (by assumption) ?_
          rotate_left
          · (intro w hSw; (try dsimp only at hSw); go_simp; try with_reducible rfl)
          try simp only [Act.put, List.setIfInBounds_toArray, List.set_cons_zero, List.set_cons_succ]
          refine wpAnyH_take (i := 5) (oi := ⟨some 22, _, _, _, _, _⟩) (v := ?_) rfl (by kernel_rfl) (by kernel_rfl) (by kernel_rfl) (fun _ _ _ h => h) (Or.inl ⟨by rfl, ?_⟩) (by assumption) ?_
          rotate_left
          · (intro w hSw; (try dsimp only at hSw); go_simp; try with_reducible rfl)
          try simp only [Act.put, List.setIfInBounds_toArray, List.set_cons_zero, List.set_cons_succ]
          refine wpAnyH_take (i := 6) (oi := ⟨some 23, _, _, _, _, _⟩) (v := ?_) rfl (by kernel_rfl) (by kernel_rfl) (by kernel_rfl) (fun _ _ _ h => h) (Or.inl ⟨by rfl, ?_⟩) (by assumption) ?_
          rotate_left
          · (intro w hSw; (try dsimp only at hSw); go_simp; try with_reducible rfl)
          try simp only [Act.put, List.setIfInBounds_toArray, List.set_cons_zero, List.set_cons_succ]
          refine wpAnyH_take (i := 7) (oi := ⟨some 24, _, _, _, _, _⟩) (v := ?_) rfl (by kernel_rfl) (by kernel_rfl) (by kernel_rfl) (fun _ _ _ h => h) (Or.inl ⟨by rfl, ?_⟩) (by assumption) ?_
          rotate_left
          · (intro w hSw; (try dsimp only at hSw); go_simp; try with_reducible rfl)
          try simp only [Act.put, List.setIfInBounds_toArray, List.set_cons_zero, List.set_cons_succ]
          refine wpAnyH_take (i := 8) (oi := ⟨some 25, _, _, _, _, _⟩) (v := ?_) rfl (by kernel_rfl) (by kernel_rfl) (by kernel_rfl) (fun _ _ _ h => h) (Or.inl ⟨by rfl, ?_⟩) (by assumption) ?_
          rotate_left
          · (intro w hSw; (try dsimp only at hSw); go_simp; try with_reducible rfl)
          try simp only [Act.put, List.setIfInBounds_toArray, List.set_cons_zero, List.set_cons_succ]
          refine wpAnyH_done (by kernel_rfl) ?_ _
          have HX2 : Kp (Ext wr wr.drew) := ⟨(by (repeat (first | assumption | exact Ext.refl _ | apply Ext.drew | apply Ext.drewN | apply Ext.alloc | refine Ext.trans ?_ (by assumption))); first | done | fail)⟩
          clear c1 c2
          go_wp2_with fail
          go_roundw
          case rel =>
            refine ⟨j + 1, by omega, by go_num, fun i hi => ?_, HX.out.trans HX2.out⟩
            by_cases e : i = j
            · subst e
              rw [HA.out, HB.out, HAB.out]
            · exact HQ.out i (by omega)
          case measure => simp [intOf]; omega
        · have HE : Kp (D = false) := ⟨by
            rw [← HD.out]
            refine decide_eq_false fun e => hab ?_
            have := HA.out
            rw [e, HB.out] at this
            exact (Option.some.inj this).symm⟩
          have e1 : ((a : Int) == (b : Int)) = false := beq_eq_false_iff_ne.2 (by omega)
          have e2 : ((a : Int) != (b : Int)) = true := by rw [bne, e1]; rfl
          clear hab
          go_wp2_with fail
          refine wp_region_held_drew (S := fun w' => Ext wr w') (by kernel_rfl) (Ext.refl wr).drew (fun hHeld => ?_)
          refine wpAnyH_take (i := 0) (oi := ⟨some 17, _, _, _, _, _⟩) (v := ?_) rfl (by kernel_rfl) (by kernel_rfl) (by kernel_rfl) (fun _ _ _ h => h) (Or.inl ⟨by rfl, ?_⟩) (by assumption) ?_
          rotate_left
          · (intro w hSw; (try dsimp only at hSw); go_simp; try with_reducible rfl)
          try simp only [Act.put, List.setIfInBounds_toArray, List.set_cons_zero, List.set_cons_succ]
          refine wpAnyH_take (i := 1) (oi := ⟨some 18, _, _, _, _, _⟩) (v := ?_) rfl (by kernel_rfl) (by kernel_rfl) (by kernel_rfl) (fun _ _ _ h => h) (Or.inl ⟨by rfl, ?_⟩) (by assumption) ?_
          rotate_left
          · (intro w hSw; (try dsimp only at hSw); go_simp; try with_reducible rfl)
          try simp only [Act.put, List.setIfInBounds_toArray, List.set_cons_zero, List.set_cons_succ]
          refine wpAnyH_take (i := 2) (oi := ⟨some 19, _, _, _, _, _⟩) (v := ?_) rfl (by kernel_rfl) (by kernel_rfl) (by kernel_rfl) (fun _ _ _ h => h) (Or.inl ⟨by rfl, ?_⟩) (by assumption) ?_
          rotate_left
          · (intro w hSw; (try dsimp only at hSw); go_simp; try with_reducible rfl)
          try simp only [Act.put, List.setIfInBounds_toArray, List.set_cons_zero, List.set_cons_succ]
          refine wpAnyH_take (i := 3) (oi := ⟨some 20, _, _, _, _, _⟩) (v := ?_) rfl (by kernel_rfl) (by kernel_rfl) (by kernel_rfl) (fun _ _ _ h => h) (Or.inl ⟨by rfl, ?_⟩) (by assumption) ?_
          rotate_left
          · (intro w hSw; (try dsimp only at hSw); go_simp; try with_reducible rfl)
          try simp only [Act.put, List.setIfInBounds_toArray, List.set_cons_zero, List.set_cons_succ]
          refine wpAnyH_take (i := 4) (oi := ⟨some 21, _, _, _, _, _⟩) (v := ?_) rfl (by kernel_rfl) (by kernel_rfl) (by kernel_rfl) (fun _ _ _ h => h) (Or.inl ⟨by rfl, ?_⟩) (by assumption) ?_
          rotate_left
          · (intro w hSw; (try dsimp only at hSw); go_simp; try with_reducible rfl)
          try simp only [Act.put, List.setIfInBounds_toArray, List.set_cons_zero, List.set_cons_succ]
          refine wpAnyH_take (i := 5) (oi := ⟨some 22, _, _, _, _, _⟩) (v := ?_) rfl (by kernel_rfl) (by kernel_rfl) (by kernel_rfl) (fun _ _ _ h => h) (Or.inl ⟨by rfl, ?_⟩) (by assumption) ?_
          rotate_left
          · (intro w hSw; (try dsimp only at hSw); go_simp; try with_reducible rfl)
          try simp only [Act.put, List.setIfInBounds_toArray, List.set_cons_zero, List.set_cons_succ]
          refine wpAnyH_take (i := 6) (oi := ⟨some 23, _, _, _, _, _⟩) (v := ?_) rfl (by kernel_rfl) (by kernel_rfl) (by kernel_rfl) (fun _ _ _ h => h) (Or.inl ⟨by rfl, ?_⟩) (by assumption) ?_
          rotate_left
          · (intro w hSw; (try dsimp only at hSw); go_simp; try with_reducible rfl)
          try simp only [Act.put, List.setIfInBounds_toArray, List.set_cons_zero, List.set_cons_succ]
          refine wpAnyH_take (i := 7) (oi := ⟨some 24, _, _, _, _, _⟩) (v := ?_) rfl (by kernel_rfl) (by kernel_rfl) (by kernel_rfl) (fun _ _ _ h => h) (Or.inl ⟨by rfl, ?_⟩) (by assumption) ?_
          rotate_left
          · (intro w hSw; (try dsimp only at hSw); go_simp; try with_reducible rfl)
          try simp only [Act.put, List.setIfInBounds_toArray, List.set_cons_zero, List.set_cons_succ]
          refine wpAnyH_take (i := 8) (oi := ⟨some 25, _, _, _, _, _⟩) (v := ?_) rfl (by kernel_rfl) (by kernel_rfl) (by kernel_rfl) (fun _ _ _ h => h) (Or.inl ⟨by rfl, ?_⟩) (by assumption) ?_
          rotate_left
          · (intro w hSw; (try dsimp only at hSw); go_simp; try with_reducible rfl)
          try simp only [Act.put, List.setIfInBounds_toArray, List.set_cons_zero, List.set_cons_succ]
          refine wpAnyH_done (by kernel_rfl) ?_ _
          have HX2 : Kp (Ext wr wr.drew) := ⟨(by (repeat (first | assumption | exact Ext.refl _ | apply Ext.drew | apply Ext.drewN | apply Ext.alloc | refine Ext.trans ?_ (by assumption))); first | done | fail)⟩
          clear c1 c2
          go_wp2_with fail
          go_ret
          exact ⟨by rw [HE.out]; rfl, HX.out.trans HX2.out⟩
      · obtain rfl : j = n := by omega
        have b1 : ¬ (j : Int) < (j : Int) := by omega
        have HE : Kp (D = true) := ⟨by
          rw [← HD.out]
          refine decide_eq_true (List.ext_getElem? fun i => ?_)
          by_cases hi : i < j
          · exact HQ.out i hi
          · rw [List.getElem?_eq_none (by have := HL.out; omega), List.getElem?_eq_none (by have := HK.out; omega)]⟩
        clear hx
        go_wp2_with fail
        go_ret
        exact ⟨by rw [HE.out]; rfl, HX.out⟩
  · have hd : D = false := by
      rw [← hD]
      refine decide_eq_false fun e => ?_
      rw [e] at hl
      omega
    subst hd
    have b1 : ((n : Int) == (m : Int)) = false := beq_eq_false_iff_ne.2 (by omega)
    have b2 : ((n : Int) != (m : Int)) = true := by rw [bne, b1]; rfl
    clear h h' hl hk hD
    go_enter Tryd.func23, Tryd.ntmps23
    go_wp2_with fail
    go_ret
    exact ⟨rfl, Ext.refl _⟩
theorem str_ne9 {x y : List (BitVec 8)} (h : x ≠ y) : ((strOf x).toList == (strOf y).toList) = false := beq_eq_false_iff_ne.2 fun e => h (strOf_inj e)
theorem has_more {s : List Atr} {a : Atr} {j : Nat} {b : Atr} (hb : s[j]? = some b) (hab : alA b a = true) : hasA s a = true := hasA_iff.2 ⟨b, List.mem_of_getElem? hb, hab⟩
theorem has_no {s : List Atr} {a : Atr} (h : ∀ (j : Nat) (b : Atr), s[j]? = some b → alA b a = false) : hasA s a = false := by
  cases hq : hasA s a with
  | false => rfl
  | true =>
    obtain ⟨b, hb, h2⟩ := hasA_iff.1 hq
    obtain ⟨j, hj⟩ := List.getElem?_of_mem hb
    rw [h j b hj] at h2
    cases h2
end Go.Proofs.YthookcnkmlmgcaaDoor
namespace Go.Proofs.YthookcnkmlmgcaaDoor
open Go Go.RowKit
set_option maxRecDepth 4000

/-- a name whose parts are not too long -/
structure FitN (x : List (List Atr)) : Prop where
  hi : x.length ≤ 1000000
  all : ∀ s ∈ x, s.length ≤ 1000000 ∧ ∀ a ∈ s, a.tx.length ≤ 1000000 ∧ a.ty.length ≤ 1000000
theorem LightP.fit {x : List (List Atr)} (h : LightP x) : FitN x := by
  refine ⟨by have := h.hi; omega, fun s hs => ?_⟩
  obtain ⟨i, hi⟩ := List.getElem?_of_mem hs
  obtain ⟨h1, h2⟩ := h.all i s hi
  refine ⟨by omega, fun a ha => ?_⟩
  obtain ⟨j, hj⟩ := List.getElem?_of_mem ha
  have := h2 j a hj
  omega
theorem FitN.take {x : List (List Atr)} (h : FitN x) (k : Nat) : FitN (x.take k) := by
  refine ⟨?_, fun s hs => h.all s (List.mem_of_mem_take hs)⟩
  rw [List.length_take]
  have := h.hi
  omega
end Go.Proofs.YthookcnkmlmgcaaDoor
