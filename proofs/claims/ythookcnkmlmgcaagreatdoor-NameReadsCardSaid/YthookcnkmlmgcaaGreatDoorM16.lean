/-
  name.listIn over steps.
  Plain texts as the code goes: what is told so far, a last blank too, which is left out at the end; as the reference goes, byte by byte. Plain.
  name: small, Plain.
  slices.Replace of one byte by some new ones, in a row of the call's own: at its end, with room, without.
-/
import Derived.Test.YthookcnkmlmgcaaGreatDoorM15
import Derived.Test.YthookcnkmlmgcaaGreatDoorM0
import Derived.Test.YthookcnkmlmgcaaGreatDoorM4
import Derived.Test.YthookcnkmlmgcaaGreatDoorM13
import Derived.Lib.AppendZerosOnto
import Derived.Lib.SliceRun
import Derived.Lib.Overlaps
import Derived.Test.YthookcnkmlmgcaaGreatDoorM10
namespace Go.Proofs.YthookcnkmlmgcaaGreatDoor
open Go Go.RowKit
set_option maxRecDepth 4000

theorem lit_st (w : World) (v : Option Addr × Nat × Nat) : Rd eSl (w.alloc (.cells #[eSl v] 39)) (some ⟨w.heap.size, 0, none⟩) 1 1 [v] := by
  refine ⟨rfl, Nat.le_refl _, (fun e => by cases e), fun _ => ⟨w.heap.size, 0, rfl, fun j y hj => ?_⟩⟩
  have hj0 : j = 0 := by have := (List.getElem?_eq_some_iff.1 hj).1; simp at this; exact this
  subst hj0
  obtain rfl : v = y := by simpa using hj
  exact (Blk.new w 39 #[eSl v]).h.cell 0
/-- what listIn over steps tells -/
def RdN (w : World) (q : Nat) (G : List Nat) (rest : List (BitVec 8)) (bs : List (List (BitVec 8))) (e : Ending) (w' : World) : Prop :=
  (∃ (ps : List ((Option Addr × Nat × Nat) × List Atr)) (r : List (BitVec 8)) (A : Option Addr) (c : Nat) (F G' : List Nat), NmW (ps.map Prod.snd) ∧ rest = namB (ps.map Prod.snd) ++ r ∧ e = .returned (.tuple #[.slice A ps.length c, .nilIface]) ∧ NmO w' (.slice A ps.length c) F ps ∧ Lo w.heap.size (fpv (.slice A ps.length c) ++ F) ∧ Rr w' q G' r bs ∧ Mvs G G' w w' ∧ Ap (fpv (.slice A ps.length c) ++ F) G') ∨
  ((¬ ∃ (s : List (List Atr)) (r : List (BitVec 8)), NmW s ∧ rest = namB s ++ r) ∧ (∃ k : Int, e = .returned (.tuple #[.slice none 0 0, err k])) ∧ Mds G w w')
/-- between two rounds -/
structure LnI (w wr : World) (q : Nat) (G : List Nat) (x r : List (BitVec 8)) (bs : List (List (BitVec 8))) (v : Value) (ps : List ((Option Addr × Nat × Nat) × List Atr)) (F G2 : List Nat) (x' : List (BitVec 8)) : Prop where
  o : NmO wr v F ps
  may : ∀ a ∈ ps.map Prod.snd, StW a
  eq : ((ps.map Prod.snd).map stpB).flatten ++ x' = x
  rr : Rr wr q G2 x' (bs ++ [r])
  mv : Mvs G G2 w wr
  ap : Ap (fpv v ++ F) G2
  lo : Lo w.heap.size (fpv v ++ F)
theorem no_name {ps : List ((Option Addr × Nat × Nat) × List Atr)} {x x' rest r : List (BitVec 8)} (hm : ∀ a ∈ ps.map Prod.snd, StW a) (he : ((ps.map Prod.snd).map stpB).flatten ++ x' = x) (hel : El rest 48 x r) (hne : x' ≠ [])
    (hno : ¬ ∃ (a : List Atr) (r : List (BitVec 8)), StW a ∧ x' = stpB a ++ r) : ¬ ∃ (s : List (List Atr)) (r : List (BitVec 8)), NmW s ∧ rest = namB s ++ r := by
  rintro ⟨s, r', hs, e⟩
  have f : El rest 48 (s.map stpB).flatten r' := ⟨by decide, hs.bd, e⟩
  obtain ⟨_, rfl, _⟩ := el_uniq hel f
  obtain ⟨t, _, e3⟩ := stp_cut.pre _ s x' hm hs.all he
  cases t with
  | nil => exact hne e3
  | cons a t => exact hno ⟨a, (t.map stpB).flatten, hs.all a (by simp_all), by rw [e3]; rfl⟩
set_option maxHeartbeats 16000000 in
theorem listS_any {w : World} {q : Nat} {G : List Nat} {rest : List (BitVec 8)} {bs : List (List (BitVec 8))} (h : Rr w q G rest bs) (hx : rest.length ≤ 1000000000) (hd : bs.length < 22) :
    Calls Tryz.prog 11 #[.pointer (some ⟨q, 0, none⟩), .int .u8 (ub 48), .func (.func 12) #[] #[]] w (RdN w q G rest bs) := by
  by_cases hE : ∃ x r, El rest 48 x r
  · obtain ⟨x, r, hel⟩ := hE
    have HEL := Kp.mk hel
    have hxl : x.length ≤ 65535 := hel.2.1
    have HC := Kp.mk (Enter_ok (m := 48) h (by omega) (by decide) hel (by omega))
    clear hel h
    go_enter Tryz.func11, Tryz.ntmps11
    go_wp2_with fail
    refine HC.out.mono ?_
    rintro e w1 ⟨rfl, G1, hr1, hm1⟩
    have HR1 := Kp.mk hr1
    have HM1 := Kp.mk hm1
    clear hr1 hm1
    go_wp2_with fail
    go_loopw [9] (fun v9 wr => ∃ (A : Option Addr) (c : Nat) (ps : List ((Option Addr × Nat × Nat) × List Atr)) (F G2 : List Nat) (x' : List (BitVec 8)), v9 = .slice A ps.length c ∧ LnI w wr q G x r bs v9 ps F G2 x') (fun v9 _ => x.length - slN v9)
    case atStart => exact ⟨none, 0, [], [], G1, x, rfl, ⟨NmO.nil _, (fun a h => by cases h), rfl, HR1.out, HM1.out, (fun k hk => by cases hk), fun k hk => by cases hk⟩⟩
    case round =>
      obtain ⟨A, c, ps, F, G2, x', rfl, hI⟩ := hrel
      have HI := Kp.mk hI
      have hln : ps.length + x'.length ≤ x.length := by
        have h1 := cut_len stp_cut _ hI.may
        have h2 := congrArg List.length hI.eq
        simp only [List.length_append, List.length_map] at h1 h2
        omega
      clear hI
      obtain ⟨wo, rfl⟩ : ∃ wo : World, wo = wr := ⟨_, rfl⟩
      have HNX := Kp.mk (Next_any HI.out.rr)
      cases hx' : x' with
      | nil =>
        subst hx'
        have hn : nxV [] = .tuple #[.int .u8 (ub (gb [] 0)), .bool false] := rfl
        rw [hn] at HNX
        clear hn
        have hap := Kp.mk HI.out
        go_wp2_with fail
        refine HNX.out.mono ?_
        rintro e w3 ⟨rfl, hw⟩
        obtain rfl : wo = w3 := hw.symm
        go_wp2_with fail
        refine (Leave_ok HI.out.rr (by omega)).mono ?_
        rintro e w4 ⟨rfl, G4, hr4, hm4⟩
        have HR4 := Kp.mk hr4
        have HM4 := Kp.mk hm4
        clear hr4 hm4
        go_wp2_with fail
        go_ret2
        have he := HI.out.eq
        rw [List.append_nil] at he
        refine .inl ⟨ps, r, A, c, F, G4, ⟨HI.out.may, by rw [he]; exact hxl⟩, ?_, rfl, HI.out.o.mds HM4.out.m HI.out.ap, HI.out.lo, HR4.out, HI.out.mv.trans HM4.out, (HM4.out.ap HI.out.o.hi_all HI.out.ap.symm).symm⟩
        rw [HEL.out.2.2]
        show elm 48 x ++ r = elm 48 _ ++ r
        rw [← he]
      | cons b0 t0 =>
        have hn : nxV (b0 :: t0) = .tuple #[.int .u8 (ub (gb (b0 :: t0) 0)), .bool true] := rfl
        rw [hx', hn] at HNX
        have HNE : Kp (x' ≠ []) := ⟨by rw [hx']; exact List.cons_ne_nil _ _⟩
        have hnl : ps.length < x.length := by
          rw [hx'] at hln
          simp at hln
          omega
        generalize gb (b0 :: t0) 0 = b1 at HNX
        clear hn hx'
        have HC3 := Kp.mk (readStep_any HI.out.rr (by omega) (by simp; omega))
        go_wp2_with fail
        refine HNX.out.mono ?_
        rintro e w3 ⟨rfl, hw⟩
        obtain rfl : wo = w3 := hw.symm
        go_wp2_with fail
        refine HC3.out.mono ?_
        rintro e w4 (⟨ps2, r2, A2, c2, F3, G3, haw, hxa, rfl, han, hlo, hr4, hm4, hap4⟩ | ⟨hno, ⟨k5, rfl⟩, hm4⟩)
        · obtain ⟨n2, hn2⟩ : ∃ n2, ps2.length = n2 := ⟨_, rfl⟩
          rw [hn2] at han hlo hap4 ⊢
          clear hn2
          obtain ⟨a, ha⟩ : ∃ a : List Atr, a = ps2.map Prod.snd := ⟨_, rfl⟩
          obtain ⟨F2, hF2⟩ : ∃ F2 : List Nat, F2 = fpv (.slice A2 n2 c2) ++ F3 := ⟨_, rfl⟩
          have hst : StF w4 F2 ((A2, n2, c2), a) := ⟨ps2, F3, ha.symm, han, fun k hk => by rw [hF2]; exact hk⟩
          have hhi : Hi w4 F2 := by rw [hF2]; exact han.hi_all
          rw [← hF2] at hlo hap4
          rw [← ha] at haw hxa
          clear han hF2 ha
          have HAW := Kp.mk haw
          have HXA := Kp.mk hxa
          have HLO := Kp.mk hlo
          have HR4 := Kp.mk hr4
          have HM4 := Kp.mk hm4
          have HA4 := Kp.mk hap4
          have HX6 : Kp (Ext w4 (w4.alloc (.cells #[.slice A2 n2 c2] 39))) := ⟨(by (repeat (first | assumption | exact Ext.refl _ | apply Ext.drew | apply Ext.drewN | apply Ext.alloc | refine Ext.trans ?_ (by assumption))); first | done | fail)⟩
          have HO6 := Kp.mk ((HI.out.o.mds hm4.m HI.out.ap).ext HX6.out)
          have HST6 := Kp.mk (hst.mds (HX6.out.mds []) (fun _ _ h => by cases h))
          have HH6 : Kp (Hi (w4.alloc (.cells #[.slice A2 n2 c2] 39)) F2) := ⟨hhi.mono HX6.out.size⟩
          clear haw hxa hst hhi hlo hr4 hm4 hap4
          go_wp2_with (first | (at_builtin; refine wpList_append_r 24 (.slice none 0 0) 24 Tryz.underlying24 inStp rfl (by decide) (fun _ => rfl) rfl (.tmp 39) (.tmp 41) rfl (.slice A ps.length c) ps.length (ps.map Prod.fst) rfl HO6.out.row (some ⟨w4.heap.size, 0, none⟩) 1 1 [(A2, n2, c2)] rfl (lit_st w4 (A2, n2, c2)) (by omega) (ps.length + 1) rfl _ rfl ?_; intro A7 c7 w7 hr7 hap7) | fail)
          have HO7 := Kp.mk (HO6.out.app HST6.out HH6.out hap7 hr7 rfl)
          have HP7 := Kp.mk hap7
          clear hr7 hap7
          go_roundw
          case rel =>
            have hlo1 : Lo w.heap.size (fpv (.slice A ps.length c)) := fun k hk => HI.out.lo k (List.mem_append.2 (.inl hk))
            have hs1 := HI.out.mv.m.size
            have hs2 := HM4.out.m.size
            have hs3 := HX6.out.size
            have hG3 : Hi w4 G3 := HR4.out.hi
            have hv3 : Ap (fpv (.slice A ps.length c) ++ F) G3 := (HM4.out.ap HI.out.o.hi_all HI.out.ap.symm).symm
            have hM : Mvs G G3 w (w4.alloc (.cells #[.slice A2 n2 c2] 39)) := (HI.out.mv.trans HM4.out).post HX6.out
            refine ⟨A7, c7, ps ++ [((A2, n2, c2), a)], F ++ F2, G3, r2, by simp, ⟨HO7.out, fun y hy => ?_, ?_, HR4.out.ext HX6.out |>.mds HP7.out.mds (fun k hk hk2 => hv3 k (List.mem_append.2 (.inl hk2)) hk), ⟨hM.m.behind HP7.out.mds hlo1, hM.f⟩, fun k hk => ?_, fun k hk => ?_⟩⟩
            · rw [List.map_append] at hy
              rcases List.mem_append.1 hy with e | e
              · exact HI.out.may y e
              · rw [List.mem_singleton.1 e]; exact HAW.out
            · rw [List.map_append, List.map_append, List.flatten_append, List.append_assoc]
              show _ ++ ((stpB a ++ []) ++ r2) = x
              rw [List.append_nil, ← HXA.out]
              exact HI.out.eq
            · rcases List.mem_append.1 hk with e | e
              · rcases HP7.out.fp k e with e2 | e2
                · exact hv3 k (List.mem_append.2 (.inl e2))
                · intro hk3
                  have := hG3 k hk3
                  omega
              · rcases List.mem_append.1 e with e2 | e2
                · exact hv3 k (List.mem_append.2 (.inr e2))
                · exact HA4.out k e2
            · rcases List.mem_append.1 hk with e | e
              · rcases HP7.out.fp k e with e2 | e2
                · exact hlo1 k e2
                · omega
              · rcases List.mem_append.1 e with e2 | e2
                · exact HI.out.lo k (List.mem_append.2 (.inr e2))
                · have := HLO.out k e2
                  omega
          case measure => simp [slN]; omega
        · have HNO := Kp.mk (no_name HI.out.may HI.out.eq HEL.out HNE.out hno)
          have M04 := Kp.mk (HI.out.mv.trans ⟨hm4, fun _ h => .inl h⟩).m
          clear hno hm4
          go_wp2_with fail
          go_ret2
          exact .inr ⟨HNO.out, ⟨_, rfl⟩, M04.out⟩
  · have HNO : Kp (¬ ∃ (s : List (List Atr)) (r : List (BitVec 8)), NmW s ∧ rest = namB s ++ r) := ⟨by
      rintro ⟨s, r', hs, e⟩
      exact hE ⟨_, _, by decide, hs.bd, e⟩⟩
    have HC := Kp.mk (Enter_err (m := 48) h (by omega) fun (h : isW 48 = true ∧ ∃ x r, El rest 48 x r) => hE h.2)
    clear hE h
    generalize erC rest 48 = k at *
    go_enter Tryz.func11, Tryz.ntmps11
    go_wp2_with fail
    refine HC.out.mono ?_
    rintro e w1 ⟨rfl, x1⟩
    have X1 := Kp.mk x1
    clear x1
    go_wp2_with fail
    go_ret2
    exact .inr ⟨HNO.out, ⟨_, rfl⟩, X1.out.mds G⟩
end Go.Proofs.YthookcnkmlmgcaaGreatDoor
namespace Go.Proofs.YthookcnkmlmgcaaGreatDoor
open Go
set_option maxRecDepth 4000

theorem gb_snoc (o : List (BitVec 8)) (y : BitVec 8) : gb (o ++ [y]) o.length = y := by
  unfold gb
  rw [List.getD_eq_getElem?_getD, List.getElem?_append_right (Nat.le_refl _), Nat.sub_self]
  rfl
/-- one byte more -/
def plN (o : List (BitVec 8)) (x : BitVec 8) : List (BitVec 8) := if x ≠ 32 ∨ (0 < o.length ∧ gb o (o.length - 1) ≠ 32) then o ++ [lowB x] else o
/-- a last blank left out -/
def cutB (o : List (BitVec 8)) : List (BitVec 8) := if 0 < o.length ∧ gb o (o.length - 1) = 32 then o.take (o.length - 1) else o
/-- what the code has told where the reference has told o, and a blank stands ahead (p) -/
def plO (o : List (BitVec 8)) (p : Bool) : List (BitVec 8) := if o ≠ [] ∧ p = true then o ++ [32] else o
/-- its last byte is no blank -/
def NoB (o : List (BitVec 8)) : Prop := ¬(0 < o.length ∧ gb o (o.length - 1) = 32)
theorem noB_snoc (o : List (BitVec 8)) (x : BitVec 8) (h : x ≠ 32) : NoB (o ++ [lowB x]) := by
  rintro ⟨_, h2⟩
  rw [List.length_append, List.length_singleton, Nat.add_sub_cancel, gb_snoc] at h2
  exact low_blank x h h2
theorem plGo_cons (o : List (BitVec 8)) (p : Bool) (x : BitVec 8) (t : List (BitVec 8)) : plGo o p (x :: t) = if x = 32 then plGo o true t else plGo (plO o p ++ [lowB x]) false t := rfl
theorem plN_go : ∀ (t o : List (BitVec 8)) (p : Bool), NoB o → cutB (t.foldl plN (plO o p)) = plGo o p t
  | [], o, p, h => by
    show cutB (plO o p) = o
    unfold plO
    split
    · unfold cutB
      rw [if_pos ⟨by simp, by rw [List.length_append, List.length_singleton, Nat.add_sub_cancel, gb_snoc]⟩]
      simp
    · unfold cutB
      rw [if_neg h]
  | x :: t, o, p, h => by
    rw [List.foldl_cons, plGo_cons]
    by_cases hx : x = 32
    · subst hx
      rw [if_pos rfl, ← plN_go t o true h]
      congr 2
      by_cases ho : o = []
      · subst ho
        rfl
      · have hl : 0 < o.length := List.length_pos_iff.2 ho
        have e2 : plO o true = o ++ [32] := by unfold plO; rw [if_pos ⟨ho, rfl⟩]
        rw [e2]
        cases p
        · have e1 : plO o false = o := by unfold plO; rw [if_neg (by simp)]
          rw [e1]
          unfold plN
          rw [if_pos (.inr ⟨hl, fun e => h ⟨hl, e⟩⟩)]
          rfl
        · rw [e2]
          unfold plN
          rw [if_neg]
          rintro (h1 | ⟨_, h1⟩)
          · exact h1 rfl
          · exact h1 (by rw [List.length_append, List.length_singleton, Nat.add_sub_cancel, gb_snoc])
    · rw [if_neg hx]
      have e1 : plN (plO o p) x = plO o p ++ [lowB x] := by unfold plN; rw [if_pos (.inl hx)]
      have e0 : ∀ z : List (BitVec 8), plO z false = z := fun z => by
        unfold plO
        rw [if_neg (fun h => by cases h.2)]
      have e3 := e0 (plO o p ++ [lowB x])
      rw [e1, ← plN_go t (plO o p ++ [lowB x]) false (noB_snoc _ _ hx), e3]
/-- the code's way -/
theorem plN_all (t : List (BitVec 8)) : cutB (t.foldl plN []) = plainL t := by
  have := plN_go t [] false (fun h => absurd h.1 (Nat.lt_irrefl 0))
  rw [plGo_all] at this
  exact this
theorem plN_len (o : List (BitVec 8)) (x : BitVec 8) : (plN o x).length ≤ o.length + 1 := by
  unfold plN
  split
  · simp
  · omega
theorem plN_fold_len : ∀ (t o : List (BitVec 8)), (t.foldl plN o).length ≤ o.length + t.length
  | [], o => Nat.le_refl _
  | x :: t, o => by
    rw [List.foldl_cons]
    have h1 := plN_fold_len t (plN o x)
    have h2 := plN_len o x
    simp only [List.length_cons]
    omega
theorem fold_more {α : Type} (f : α → BitVec 8 → α) (o : α) (t : List (BitVec 8)) (j : Nat) (hj : j < t.length) : (t.take (j + 1)).foldl f o = f ((t.take j).foldl f o) (gb t j) := by
  rw [List.take_add_one, List.getElem?_eq_getElem hj, List.foldl_append]
  simp [gb, hj]
/-- the reference's way -/
def gN (s : List (BitVec 8) × Bool) (x : BitVec 8) : List (BitVec 8) × Bool := if x = 32 then (s.1, true) else ((if s.1 ≠ [] ∧ s.2 = true then s.1 ++ [32] else s.1) ++ [lowB x], false)
theorem gN_go : ∀ (t : List (BitVec 8)) (s : List (BitVec 8) × Bool), (t.foldl gN s).1 = plGo s.1 s.2 t
  | [], s => rfl
  | x :: t, s => by
    rw [List.foldl_cons, gN_go t, plGo_cons]
    unfold gN
    by_cases hx : x = 32
    · rw [if_pos hx, if_pos hx]
    · rw [if_neg hx, if_neg hx]
      rfl
theorem gN_all (t : List (BitVec 8)) : (t.foldl gN ([], false)).1 = plainL t := by rw [gN_go, plGo_all]
theorem gN_len (s : List (BitVec 8) × Bool) (x : BitVec 8) : (gN s x).1.length ≤ s.1.length + 2 := by
  unfold gN
  split
  · simp
  · split
    · simp
    · simp
theorem gN_fold_len : ∀ (t : List (BitVec 8)) (s : List (BitVec 8) × Bool), (t.foldl gN s).1.length ≤ s.1.length + 2 * t.length
  | [], s => Nat.le_refl _
  | x :: t, s => by
    rw [List.foldl_cons]
    have h1 := gN_fold_len t (gN s x)
    have h2 := gN_len s x
    simp only [List.length_cons]
    omega
/-- whether a blank stands ahead -/
theorem gN_snd (t : List (BitVec 8)) (j : Nat) (hj : j < t.length) : ((t.take (j + 1)).foldl gN ([], false)).2 = decide (gb t j = 32) := by
  rw [fold_more gN _ t j hj]
  unfold gN
  by_cases h : gb t j = 32
  · rw [if_pos h, decide_eq_true h]
  · rw [if_neg h, decide_eq_false h]
end Go.Proofs.YthookcnkmlmgcaaGreatDoor
namespace Go.Proofs.YthookcnkmlmgcaaGreatDoor
open Go Go.RowKit
set_option maxRecDepth 4000

theorem low_up (x : BitVec 8) (h1 : 65 ≤ x.toNat) (h2 : x.toNat ≤ 90) : ub (lowB x) = ub x + 32 := by
  unfold lowB ub
  rw [if_pos ⟨h1, h2⟩, BitVec.toNat_add]
  simp
  omega
theorem low_same (x : BitVec 8) (h : ¬(65 ≤ x.toNat ∧ x.toNat ≤ 90)) : lowB x = x := by unfold lowB; rw [if_neg h]
theorem small_any (x : BitVec 8) (w : World) : Calls Tryz.prog 20 #[.int .u8 (ub x)] w fun e w' => e = .returned (.int .u8 (ub (lowB x))) ∧ w' = w := by
  have lo := ub_lo x
  have hi := ub_hi x
  by_cases h1 : 65 ≤ x.toNat
  · have b1 : (65 : Int) ≤ ub x := by unfold ub; omega
    by_cases h2 : x.toNat ≤ 90
    · have b2 : ub x ≤ 90 := by unfold ub; omega
      have e1 : IntKind.u8.wrap (ub x - 65) = ub x - 65 := by rw [IntKind.wrap_u8]; omega
      have e2 : IntKind.u8.wrap (ub x - 65 + 97) = ub x + 32 := by rw [IntKind.wrap_u8]; omega
      rw [low_up x h1 h2]
      clear h1 h2
      generalize ub x = z at *
      go_enter Tryz.func20, Tryz.ntmps20
      go_wp2_with fail
      go_ret
      exact ⟨rfl, rfl⟩
    · have b2 : ¬ (ub x ≤ 90) := by unfold ub; omega
      rw [low_same x (fun h => h2 h.2)]
      clear h1 h2
      generalize ub x = z at *
      go_enter Tryz.func20, Tryz.ntmps20
      go_wp2_with fail
      go_ret
      exact ⟨rfl, rfl⟩
  · have b1 : ¬ ((65 : Int) ≤ ub x) := by unfold ub; omega
    rw [low_same x (fun h => h1 h.1)]
    clear h1
    generalize ub x = z at *
    go_enter Tryz.func20, Tryz.ntmps20
    go_wp2_with fail
    go_ret
    exact ⟨rfl, rfl⟩
/-- a cell in a later world -/
theorem cell_up {w w' : World} {p : Addr} {v : Value} (h : w.cell? p = some v) (hx : Ext w w') : w'.cell? p = some v := (hx.b.cell (World.block_lt_of_cell? _ _ h)).trans h
theorem eq32 (x : BitVec 8) : x = 32 ↔ ub x = 32 := by
  constructor
  · rintro rfl; rfl
  · intro h
    apply BitVec.eq_of_toNat_eq
    unfold ub at h
    simp
    omega
set_option maxHeartbeats 4000000 in
theorem Plain_any {t : List (BitVec 8)} {A : Option Addr} {n c : Nat} {w : World} (h : Bs w A n c t) (hn : n ≤ 1000000) :
    Calls Tryz.prog 8 #[.slice A n c] w (Fresh w (plainL t).length (plainL t)) := by
  have hl := h.len
  obtain ⟨f, hf⟩ : ∃ f : Nat → List (BitVec 8), f = fun j => (t.take j).foldl plN [] := ⟨_, rfl⟩
  have f0 : f 0 = [] := by rw [hf]; rfl
  have fs : ∀ j, j < n → f (j + 1) = plN (f j) (gb t j) := fun j hj => by rw [hf]; exact fold_more plN [] t j (by omega)
  have fn : cutB (f n) = plainL t := by rw [hf]; show cutB ((t.take n).foldl plN []) = _; rw [List.take_of_length_le (by omega), plN_all]
  have fl : ∀ j, (f j).length ≤ j := fun j => by
    rw [hf]
    have := plN_fold_len (t.take j) []
    simp at this ⊢
    omega
  clear hf
  rw [← fn]
  have F0 := Kp.mk f0
  have FS := Kp.mk fs
  have FL := Kp.mk fl
  have HB := Kp.mk h
  have HL := Kp.mk hl
  clear f0 fs fn fl h hl
  go_enter Tryz.func8, Tryz.ntmps8
  go_wp2_with fail
  go_loopw [3, 8] (fun v iv wr => ∃ (j P : Nat) (A' : Option Addr) (c' : Nat) (o : List (BitVec 8)), j ≤ n ∧ o = f j ∧ v = .slice A' P c' ∧ iv = .int .i64 (j : Int) ∧ Own wr w.heap.size (.slice A' P c') P o ∧ Ext w wr) (fun _ iv _ => n - (intOf iv).toNat)
  case atStart => exact ⟨0, 0, none, 0, [], Nat.zero_le _, F0.out.symm, rfl, rfl, Own.nil _ _, Ext.refl _⟩
  case round =>
    obtain ⟨j, P, A', c', o, hj, hof, rfl, rfl, ho, hx⟩ := hrel
    have hP := ho.len
    have hPj : P ≤ j := by have := FL.out j; rw [← hof] at this; omega
    have HO := Kp.mk ho
    have HX := Kp.mk hx
    by_cases hlt : j < n
    · obtain ⟨g, q, rfl, hc⟩ := (HB.out.ext hx).s.2.2.2 (by omega)
      have c1 := hc j hlt
      have hstep := FS.out j hlt
      rw [← hof] at hstep
      have b1 : (j : Int) < (n : Int) := by omega
      clear hc
      generalize gb t j = x at *
      have hS := Kp.mk (small_any x)
      by_cases ht : x ≠ 32 ∨ (0 < P ∧ gb o (P - 1) ≠ 32)
      · have hnew : f (j + 1) = o ++ [lowB x] := by rw [hstep]; unfold plN; rw [hP, if_pos ht]
        have HN := Kp.mk hnew
        generalize lowB x = y at *
        clear hnew hstep hof ho hx
        by_cases hx32 : x = 32
        · have ht2 := ht.resolve_left (fun h => h hx32)
          obtain ⟨hp, hq⟩ := ht2
          obtain ⟨g', rfl, hB', _⟩ := HO.out.some_ hp
          obtain ⟨k, hk⟩ : ∃ k, k = P - 1 := ⟨_, rfl⟩
          have c2 := HO.out.cell k (by omega)
          rw [← hk] at hq
          generalize gb o k = z at *
          have e1 : (ub x == 32) = true := by rw [beq_iff_eq]; exact (eq32 x).1 hx32
          have e2 : (ub x != 32) = false := by rw [bne, e1]; rfl
          have e3 : (ub z == 32) = false := beq_eq_false_iff_ne.2 fun h => hq ((eq32 z).2 h)
          have e4 : (ub z != 32) = true := by rw [bne, e3]; rfl
          have e5 : (P : Int) - 1 = (k : Int) := by omega
          have e6 : IntKind.i64.wrap (k : Int) = (k : Int) := by rw [IntKind.wrap_i64]; omega
          have e7 : k < P := by omega
          have e8 : (k : Int) < (P : Int) := by omega
          have e9 : (0 : Int) < (P : Int) := by omega
          clear ht hx32 hq hk
          generalize ub x = zx at *
          generalize ub z = zz at *
          go_wp2_with (first | (go_at_call 20; refine (hS.out _).mono ?_; rintro e w2 ⟨rfl, hw⟩; obtain rfl : wr = w2 := hw.symm) | (at_builtin; refine wpList_append_bs rfl (.tmp 28) (.tmp 31) rfl w.heap.size _ P o rfl (HO.out.ext (by (repeat (first | assumption | exact Ext.refl _ | apply Ext.drew | apply Ext.drewN | apply Ext.alloc | refine Ext.trans ?_ (by assumption))); first | done | fail)) _ 1 1 [y] rfl (const_bs wr _ [y] 1 1 (0, 0) rfl rfl (by decide)) (by omega) (P + 1) rfl (o ++ [y]) rfl w (HX.out.trans (by (repeat (first | assumption | exact Ext.refl _ | apply Ext.drew | apply Ext.drewN | apply Ext.alloc | refine Ext.trans ?_ (by assumption))); first | done | fail)) (Nat.le_refl _) (Nat.le_trans HX.out.size (by simp)) ?_; intro A4 c4 w4 ho4 hx4 hap4) | fail)
          go_roundw
          case rel => exact ⟨j + 1, P + 1, A4, c4, _, by omega, HN.out.symm, by first | rfl | trivial, by go_num, ho4, hx4⟩
          case measure => simp [intOf]; omega
        · have e1 : (ub x == 32) = false := beq_eq_false_iff_ne.2 fun h => hx32 ((eq32 x).2 h)
          have e2 : (ub x != 32) = true := by rw [bne, e1]; rfl
          clear ht hx32
          generalize ub x = zx at *
          go_wp2_with (first | (go_at_call 20; refine (hS.out _).mono ?_; rintro e w2 ⟨rfl, hw⟩; obtain rfl : wr = w2 := hw.symm) | (at_builtin; refine wpList_append_bs rfl (.tmp 28) (.tmp 31) rfl w.heap.size _ P o rfl (HO.out.ext (by (repeat (first | assumption | exact Ext.refl _ | apply Ext.drew | apply Ext.drewN | apply Ext.alloc | refine Ext.trans ?_ (by assumption))); first | done | fail)) _ 1 1 [y] rfl (const_bs wr _ [y] 1 1 (0, 0) rfl rfl (by decide)) (by omega) (P + 1) rfl (o ++ [y]) rfl w (HX.out.trans (by (repeat (first | assumption | exact Ext.refl _ | apply Ext.drew | apply Ext.drewN | apply Ext.alloc | refine Ext.trans ?_ (by assumption))); first | done | fail)) (Nat.le_refl _) (Nat.le_trans HX.out.size (by simp)) ?_; intro A4 c4 w4 ho4 hx4 hap4) | fail)
          go_roundw
          case rel => exact ⟨j + 1, P + 1, A4, c4, _, by omega, HN.out.symm, by first | rfl | trivial, by go_num, ho4, hx4⟩
          case measure => simp [intOf]; omega
      · have hnew : f (j + 1) = o := by rw [hstep]; unfold plN; rw [hP, if_neg ht]
        have HN := Kp.mk hnew
        have hx32 : x = 32 := Classical.byContradiction fun h => ht (.inl h)
        have e1 : (ub x == 32) = true := by rw [beq_iff_eq]; exact (eq32 x).1 hx32
        have e2 : (ub x != 32) = false := by rw [bne, e1]; rfl
        clear hnew hstep hof ho hx
        by_cases hp : 0 < P
        · have hq : gb o (P - 1) = 32 := Classical.byContradiction fun h => ht (.inr ⟨hp, h⟩)
          obtain ⟨g', rfl, hB', _⟩ := HO.out.some_ hp
          obtain ⟨k, hk⟩ : ∃ k, k = P - 1 := ⟨_, rfl⟩
          have c2 := HO.out.cell k (by omega)
          rw [← hk] at hq
          rw [hq] at c2
          have e5 : (P : Int) - 1 = (k : Int) := by omega
          have e6 : IntKind.i64.wrap (k : Int) = (k : Int) := by rw [IntKind.wrap_i64]; omega
          have e7 : k < P := by omega
          have e8 : (k : Int) < (P : Int) := by omega
          have e9 : (0 : Int) < (P : Int) := by omega
          have c3 : wr.cell? ⟨g', k, none⟩ = some (.int .u8 32) := c2
          clear ht hx32 hq hk c2
          generalize ub x = zx at *
          go_wp2_with fail
          go_roundw
          case rel => exact ⟨j + 1, P, _, c', o, by omega, HN.out.symm, by first | rfl | trivial, by go_num, HO.out, HX.out⟩
          case measure => simp [intOf]; omega
        · obtain rfl : P = 0 := by omega
          clear ht hx32 hp
          generalize ub x = zx at *
          go_wp2_with fail
          go_roundw
          case rel => exact ⟨j + 1, 0, _, c', o, by omega, HN.out.symm, by first | rfl | trivial, by go_num, HO.out, HX.out⟩
          case measure => simp [intOf]; omega
    · obtain rfl : j = n := by omega
      have HF := Kp.mk hof
      clear hof ho hx
      by_cases hp : 0 < P
      · obtain ⟨g', rfl, hB', _⟩ := HO.out.some_ hp
        obtain ⟨k, hk⟩ : ∃ k, k = P - 1 := ⟨_, rfl⟩
        have c2 := HO.out.cell k (by omega)
        have e5 : (P : Int) - 1 = (k : Int) := by omega
        have e6 : IntKind.i64.wrap (k : Int) = (k : Int) := by rw [IntKind.wrap_i64]; omega
        have e7 : k < P := by omega
        have e8 : (k : Int) < (P : Int) := by omega
        have e9 : (0 : Int) < (P : Int) := by omega
        by_cases hq : gb o k = 32
        · have HE : Kp (cutB (f j) = o.take k) := ⟨by rw [← HF.out]; unfold cutB; rw [hP, ← hk, if_pos ⟨hp, hq⟩]⟩
          rw [hq] at c2
          have c3 : wr.cell? ⟨g', k, none⟩ = some (.int .u8 32) := c2
          have hcap := HO.out.bs.cap
          have hup := fun W => run_upto (P := Tryz.prog) (some ⟨g', 0, none⟩) P c' 22 5 Tryz.underlying22 szB k (k : Int) rfl (by omega) W
          have HT := Kp.mk (Own.mk (Rw.take (T := 5) (e := vb) ⟨HO.out.o⟩ (k := k) (by omega)).o)
          have HL2 : Kp ((o.take k).length = k) := ⟨by rw [List.length_take]; omega⟩
          clear hq hk c2
          go_wp2_with fail
          go_ret
          rw [HE.out, HL2.out]
          exact ⟨_, _, rfl, HT.out.bs, HT.out, HX.out⟩
        · have HE : Kp (cutB (f j) = o) := ⟨by rw [← HF.out]; unfold cutB; rw [hP, ← hk, if_neg (fun h => hq h.2)]⟩
          have e3 : (ub (gb o k) == 32) = false := beq_eq_false_iff_ne.2 fun h => hq ((eq32 _).2 h)
          have e4 : (ub (gb o k) != 32) = true := by rw [bne, e3]; rfl
          have HL2 := Kp.mk hP
          clear hq hk hP
          generalize ub (gb o k) = zz at *
          go_wp2_with fail
          go_ret
          rw [HE.out, HL2.out]
          exact ⟨_, _, rfl, HO.out.bs, HO.out, HX.out⟩
      · obtain rfl : P = 0 := by omega
        have HE : Kp (cutB (f j) = o) := ⟨by rw [← HF.out]; unfold cutB; rw [if_neg (fun h => by rw [hP] at h; exact hp h.1)]⟩
        have HL2 := Kp.mk hP
        clear hp hP
        go_wp2_with fail
        go_ret
        rw [HE.out, HL2.out]
        exact ⟨_, _, rfl, HO.out.bs, HO.out, HX.out⟩
end Go.Proofs.YthookcnkmlmgcaaGreatDoor
namespace Go.Proofs.YthookcnkmlmgcaaGreatDoor
open Go Go.RowKit
set_option maxRecDepth 4000

/-- zeros appended to a row without room -/
theorem run_zeros {w : World} {B g n c : Nat} {L : List (BitVec 8)} (h : Own w B (.slice (some ⟨g, 0, none⟩) n c) n L) (k : Nat) (h0 : 0 < k) (hc : c < n + k) (hm : n + k ≤ 140737488351232) :
    ∃ Z : List Value, ∃ G : Nat, (∀ ty, (Builtin.append_ #[22, 3] ty #[.slice (some ⟨g, 0, none⟩) n c, .int .i64 (k : Int)]).run Tryz.prog w = .ok (.slice (some ⟨w.heap.size, 0, none⟩) (n + k) G) (w.drew.alloc (.cells Z.toArray 5))) ∧ Z.length = G ∧ n + k ≤ G ∧ G ≤ maxLen ∧ Z.take n = L.map vb := by
  obtain ⟨i, hi, hz, hs, hb⟩ := info_parts inB
  have hcells : ∀ j u, (L.map vb)[j]? = some u → w.cell? ((⟨g, 0, none⟩ : Addr).add j) = some u := h.o.cells (g := g) rfl
  have hlen := h.len
  have hfc := run_firstCells_some (P := Tryz.prog) (w := w.drew) i.size n ⟨g, 0, none⟩ n c (L.map vb) (by rw [hs, List.length_map]; omega) hcells
  have hr := fun ty => Lib.run_append_grow_zeros (P := Tryz.prog) w 22 3 ty 5 i (.int .u8 0) .i64 .i64 Tryz.underlying22 Tryz.underlying3 hi hz (some ⟨g, 0, none⟩) n c (L.map vb) hfc k h0 (by omega) hc (by omega) (by rw [hb]; omega) (growslice_fits (by omega) (by rw [hb]; omega))
  have hG1 := grownCap_ge w (n + k) c 5
  have hG2 := grownCap_le_maxLen w (n + k) c 5 (by unfold maxLen; omega)
  generalize grownCap w (n + k) c 5 = G at *
  refine ⟨L.map vb ++ ((Builtin.zeroCells (Value.int .u8 0).cells k).toList ++ (Builtin.zeroCells (Value.int .u8 0).cells (G - (n + k))).toList), G, fun ty => ?_, ?_, hG1, hG2, ?_⟩
  · rw [hr ty]
    congr 3
    apply Array.ext'
    simp
  · have z1 : (Builtin.zeroCells (Value.int .u8 0).cells k).toList.length = k * 1 := by rw [Array.length_toList, size_zeroCells]; rfl
    have z2 : (Builtin.zeroCells (Value.int .u8 0).cells (G - (n + k))).toList.length = (G - (n + k)) * 1 := by rw [Array.length_toList, size_zeroCells]; rfl
    rw [List.length_append, List.length_append, List.length_map, z1, z2]
    omega
  · rw [List.take_left' (by simpa using hlen)]
/-- a copy into a block that is known whole -/
theorem wp_copy_at {P : Program} {o : Oper} {a : Act} {w : World} {K : Act → World → Prop} {Q : Exit → Act → World → Prop} (d s : Operand) (dT sT : TypeId)
    (ho : o.op = .call { callee := .builtin .copy, args := #[d, s], argTypes := #[dT, sT] }) (elem : TypeId) (hu : P.underlying dT = some (.slice elem)) (hsz : (P.info? elem).map (·.size) = some 1)
    (dp sp : Option Addr) (dLen dCap sLen sCap : Nat) (hd : a.eval d = .slice dp dLen dCap) (hs : a.eval s = .slice sp sLen sCap)
    (g off : Nat) (cur : List Value) (t : TypeId) (hg : Blk w g t cur.toArray) (cs : List Value) (hn : cs.length = Nat.min sLen dLen)
    (hpos : 0 < cs.length → dp = some ⟨g, off, none⟩ ∧ ∃ ad, sp = some ad ∧ ∀ j v, cs[j]? = some v → w.cell? (ad.add j) = some v)
    (hfit : off + cs.length ≤ cur.length) (h1 : ∀ v ∈ cs, v.oneCell' = true)
    (h : ∀ w', Kp (Blk w' g t (splice cur off cs).toArray) → Mds [g] w w' → K (a.put o.dst (goInt cs.length)) w') : o.wp P a w K Q := by
  by_cases h0 : cs.length = 0
  · obtain rfl : cs = [] := List.eq_nil_of_length_eq_zero h0
    have hrun := run_copy_none (P := P) w dT sT o.type elem dp sp dLen dCap sLen sCap hu hsz (by simpa using hn.symm)
    unfold Oper.wp
    simp [execOp, ho, resolve, invoke, builtin, hd, hs, hrun, Result.andThen]
    exact h w ⟨by simpa [splice] using hg⟩ (Mds.refl _ _)
  · obtain ⟨rfl, ad, rfl, hsrc⟩ := hpos (by omega)
    have hrun := run_copy_row (P := P) w dT sT o.type elem g off dLen dCap ad sLen sCap cur.toArray t cs hu hsz hg.h hn hsrc (by simpa using hfit) h1
    unfold Oper.wp
    simp [execOp, ho, resolve, invoke, builtin, hd, hs, hrun, Result.andThen]
    refine h _ ⟨?_⟩ ((Mds.refl [g] w).setRow (by simp) _)
    have := hg.row (splice cur off cs).toArray
    simpa [splice] using this
theorem wpList_copy_at {P : Program} {ops : Array Oper} {rest : List Oper} {o : Oper} {a : Act} {w : World} {Q : Exit → Act → World → Prop} (hgd : o.guard = none) (d s : Operand) (dT sT : TypeId)
    (ho : o.op = .call { callee := .builtin .copy, args := #[d, s], argTypes := #[dT, sT] }) (elem : TypeId) (hu : P.underlying dT = some (.slice elem)) (hsz : (P.info? elem).map (·.size) = some 1)
    (dp sp : Option Addr) (dLen dCap sLen sCap : Nat) (hd : a.eval d = .slice dp dLen dCap) (hs : a.eval s = .slice sp sLen sCap)
    (g off : Nat) (cur : List Value) (t : TypeId) (hg : Blk w g t cur.toArray) (cs : List Value) (hn : cs.length = Nat.min sLen dLen)
    (hpos : 0 < cs.length → dp = some ⟨g, off, none⟩ ∧ ∃ ad, sp = some ad ∧ ∀ j v, cs[j]? = some v → w.cell? (ad.add j) = some v)
    (hfit : off + cs.length ≤ cur.length) (h1 : ∀ v ∈ cs, v.oneCell' = true)
    (h : ∀ w', Kp (Blk w' g t (splice cur off cs).toArray) → Mds [g] w w' → wpList P ops Q rest (a.put o.dst (goInt cs.length)) w') : wpList P ops Q (o :: rest) a w :=
  wpList_plain hgd fun _ hK => wp_copy_at d s dT sT ho elem hu hsz dp sp dLen dCap sLen sCap hd hs g off cur t hg cs hn hpos hfit h1 fun w' h2 h3 => hK _ _ (h w' h2 h3)
/-- s[i:j] -/
theorem run_mid {P : Program} (g n c t e : Nat) (ht : P.underlying t = some (.slice e)) (hs : (P.info? e).map (·.size) = some 1) (i j : Nat) (x y : Int) (hx : x = (i : Int)) (hy : y = (j : Int)) (hij : i ≤ j) (hj : j ≤ c) (hi : i < c) (w : World) :
    (Instr.sliceAt t (.slice (some ⟨g, 0, none⟩) n c) (some (.int .i64 x)) (some (.int .i64 y)) none).run P w = .ok (.slice (some ⟨g, i, none⟩) (j - i) (c - i)) w := by
  subst hx hy
  cases hq : P.info? e with
  | none => simp [hq] at hs
  | some i' =>
    have hs1 : i'.size = 1 := by simpa [hq] using hs
    have hne : ¬ c = i := by omega
    have hne2 : ¬ i = c := by omega
    simp [Instr.sliceAt, Instr.slice, run_underlying ht, Instr.sliceBounds, Instr.sliceBound, asIntOf, sizeOf, typeInfo, hq, hs1, hij, hj, hne, add_z]
/-- a row's cells, whatever lies in its spare part -/
theorem Own.cells_ {w : World} {B g n c : Nat} {L : List (BitVec 8)} (h : Own w B (.slice (some ⟨g, 0, none⟩) n c) n L) : ∃ cur : List Value, Blk w g 5 cur.toArray ∧ cur.length = c ∧ n ≤ c ∧ c ≤ maxLen ∧ cur.take n = L.map vb := by
  rcases h.o.2 with ⟨e, _⟩ | ⟨g', cap, cur, e, _, h4, h5, h6, h7, h8⟩
  · cases e
  · cases e
    exact ⟨cur.toList, ⟨by simpa [Has] using h4⟩, by simpa using h7, h5, h6, by simpa using h8⟩
theorem Own.of_cells {w : World} {B g n c : Nat} {L : List (BitVec 8)} {cur : List Value} (h : Blk w g 5 cur.toArray) (hc : cur.length = c) (hn : n ≤ c) (hm : c ≤ maxLen) (hB : B ≤ g) (hL : L.length = n) (ht : cur.take n = L.map vb) : Own w B (.slice (some ⟨g, 0, none⟩) n c) n L :=
  ⟨⟨by simpa using hL, .inr ⟨g, c, cur.toArray, rfl, hB, h.h, hn, hm, by simpa using hc, by simpa using ht⟩⟩⟩
/-- what two copies leave: the new bytes put in, what stood behind them moved -/
theorem splice_ahead {α : Type} (Z V X : List α) (i : Nat) (hZ : i + V.length + X.length ≤ Z.length) : (splice (splice Z i V) (i + V.length) X).take (i + V.length + X.length) = Z.take i ++ V ++ X := by
  have e1 : (splice Z i V).take (i + V.length) = Z.take i ++ V := by
    unfold splice
    rw [← List.append_assoc, List.take_left' (by rw [List.length_append, List.length_take]; omega)]
  generalize splice Z i V = S at e1 ⊢
  unfold splice
  rw [e1]
  rw [← List.append_assoc, List.take_left' (by rw [List.length_append, List.length_append, List.length_take]; omega)]
theorem splice_behind {α : Type} (Z V X : List α) (i : Nat) (hZ : i + V.length + X.length ≤ Z.length) : (splice (splice Z (i + V.length) X) i V).take (i + V.length + X.length) = Z.take i ++ V ++ X := by
  have hl : (splice Z (i + V.length) X).length = Z.length := length_splice _ _ _ (by omega)
  have e1 : (splice Z (i + V.length) X).take i = Z.take i := by
    unfold splice
    rw [List.take_append_of_le_length (by rw [List.length_take]; omega), List.take_take, Nat.min_eq_left (by omega)]
  have e2 : ((splice Z (i + V.length) X).drop (i + V.length)).take X.length = X := by
    unfold splice
    rw [List.drop_left' (by rw [List.length_take]; omega), List.take_left' rfl]
  generalize splice Z (i + V.length) X = S at e1 e2 ⊢
  unfold splice
  rw [e1, ← List.append_assoc, List.take_append, List.take_of_length_le (by rw [List.length_append, List.length_take]; omega)]
  congr 1
  rw [List.length_append, List.length_take, Nat.min_eq_left (by omega), show i + V.length + X.length - (i + V.length) = X.length by omega]
  exact e2
theorem tail_cells {cur : List Value} {L : List (BitVec 8)} {n i : Nat} (ht : cur.take n = L.map vb) (hn : L.length = n) (j : Nat) (v : Value) (hv : ((L.drop i).map vb)[j]? = some v) : cur[i + j]? = some v := by
  rw [List.getElem?_map, List.getElem?_drop] at hv
  have h2 : (L.map vb)[i + j]? = some v := by rw [List.getElem?_map]; exact hv
  rw [← ht, List.getElem?_take] at h2
  split at h2
  · exact h2
  · cases h2
/-- how Replace answers -/
def RepR (w : World) (v : Value) (T : Nat) (M : List (BitVec 8)) (e : Ending) (w' : World) : Prop :=
  ∃ A' c', e = .returned (.slice A' T c') ∧ Own w' 0 (.slice A' T c') T M ∧ Mvs (fpv v) (fpv (.slice A' T c')) w w'
end Go.Proofs.YthookcnkmlmgcaaGreatDoor
