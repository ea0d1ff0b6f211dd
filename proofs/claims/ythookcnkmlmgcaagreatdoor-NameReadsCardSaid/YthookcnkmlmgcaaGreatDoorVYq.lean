/-
  name: isWord, whole, attrBytes.
-/
import Derived.Test.YthookcnkmlmgcaaGreatDoorM1
import Derived.Test.YthookcnkmlmgcaaGreatDoorM8
import Derived.Test.YthookcnkmlmgcaaGreatDoorM16
import Derived.Test.YthookcnkmlmgcaaGreatDoorVHm
import Derived.Test.YthookcnkmlmgcaaGreatDoorVHj
import Derived.Test.YthookcnkmlmgcaaGreatDoorM14
import Derived.Test.YthookcnkmlmgcaaGreatDoorVZe
namespace Go.Proofs.YthookcnkmlmgcaaGreatDoor
open Go Go.RowKit
set_option maxRecDepth 4000

/-- a word: a text of one of two marks, of 1 to 64 bytes -/
def WordP (m : BitVec 8) (t : List (BitVec 8)) : Prop := (m = 12 ∨ m = 19) ∧ 1 ≤ t.length ∧ t.length ≤ 64 ∧ textB m t = true
theorem ub_neY {m k : BitVec 8} (h : m ≠ k) : (ub m == ub k) = false ∧ (ub m != ub k) = true := by
  have e : (ub m == ub k) = false := beq_eq_false_iff_ne.2 fun e => h (by
    apply BitVec.eq_of_toNat_eq
    unfold ub at e
    omega)
  exact ⟨e, by rw [bne, e]; rfl⟩
/-- what isWord tells -/
def WdR (w : World) (m : BitVec 8) (t : List (BitVec 8)) (e : Ending) (w' : World) : Prop := Ext w w' ∧ ((WordP m t ∧ e = .returned (.bool true)) ∨ (¬ WordP m t ∧ e = .returned (.bool false)))
set_option maxHeartbeats 4000000 in
theorem isWord_any (m : BitVec 8) {t : List (BitVec 8)} {A : Option Addr} {n c : Nat} {w : World} (h : Bs w A n c t) (hT : Tabs8 w) :
    Calls Tryz.prog 66 #[.int .u8 (ub m), .slice A n c] w (WdR w m t) := by
  have hl := h.len
  by_cases hm : m = 12 ∨ m = 19
  · by_cases h1 : n < 1
    · have HN : Kp (¬ WordP m t) := ⟨fun hw => by have := hw.2.1; omega⟩
      have hz : ((ub m == 12) = true ∧ (ub m != 12) = false) ∨ ((ub m == 12) = false ∧ (ub m != 12) = true ∧ (ub m == 19) = true ∧ (ub m != 19) = false) := by
        rcases hm with rfl | rfl
        · exact .inl ⟨rfl, rfl⟩
        · exact .inr ⟨rfl, rfl, rfl, rfl⟩
      obtain rfl : n = 0 := by omega
      clear hm h h1 hl
      generalize ub m = z at *
      rcases hz with ⟨k1, k2⟩ | ⟨k1, k2, k3, k4⟩
      · go_enter Tryz.func66, Tryz.ntmps66
        go_wp2_with fail
        go_ret
        exact ⟨Ext.refl _, .inr ⟨HN.out, rfl⟩⟩
      · go_enter Tryz.func66, Tryz.ntmps66
        go_wp2_with fail
        go_ret
        exact ⟨Ext.refl _, .inr ⟨HN.out, rfl⟩⟩
    · have b1 : (1 : Int) ≤ (n : Int) := by omega
      have b1' : 1 ≤ n := by omega
      have hz : ((ub m == 12) = true ∧ (ub m != 12) = false) ∨ ((ub m == 12) = false ∧ (ub m != 12) = true ∧ (ub m == 19) = true ∧ (ub m != 19) = false) := by
        rcases hm with rfl | rfl
        · exact .inl ⟨rfl, rfl⟩
        · exact .inr ⟨rfl, rfl, rfl, rfl⟩
      by_cases h64 : n ≤ 64
      · have b2 : (n : Int) ≤ 64 := by omega
        have HC := Text_any m h (by omega) hT
        have hm22 : m = 12 ∨ m = 19 ∨ m = 22 := by
          rcases hm with e | e
          · exact .inl e
          · exact .inr (.inl e)
        have HW : Kp (WordP m t ↔ textB m t = true) := ⟨⟨fun h => h.2.2.2, fun h => ⟨hm, by omega, by omega, h⟩⟩⟩
        have HM := Kp.mk hm22
        have HC2 := Kp.mk HC
        clear HC h h1 hm hm22 hT hl
        unfold Tx8R at HC2
        generalize ub m = z at *
        rcases hz with ⟨k1, k2⟩ | ⟨k1, k2, k3, k4⟩
        · go_enter Tryz.func66, Tryz.ntmps66
          go_wp2_with fail
          refine HC2.out.mono ?_
          rintro e w2 ⟨hx2, ⟨hno, _⟩ | ⟨_, ⟨ht, rfl⟩ | ⟨ht, rfl⟩⟩⟩
          · exact absurd HM.out hno
          · have HT := Kp.mk ht
            clear ht
            go_wp2_with fail
            go_ret
            exact ⟨hx2, .inl ⟨HW.out.2 HT.out, rfl⟩⟩
          · have HT := Kp.mk ht
            clear ht
            go_wp2_with fail
            go_ret
            exact ⟨hx2, .inr ⟨fun h => by rw [HW.out, HT.out] at h; exact absurd h (by decide), rfl⟩⟩
        · go_enter Tryz.func66, Tryz.ntmps66
          go_wp2_with fail
          refine HC2.out.mono ?_
          rintro e w2 ⟨hx2, ⟨hno, _⟩ | ⟨_, ⟨ht, rfl⟩ | ⟨ht, rfl⟩⟩⟩
          · exact absurd HM.out hno
          · have HT := Kp.mk ht
            clear ht
            go_wp2_with fail
            go_ret
            exact ⟨hx2, .inl ⟨HW.out.2 HT.out, rfl⟩⟩
          · have HT := Kp.mk ht
            clear ht
            go_wp2_with fail
            go_ret
            exact ⟨hx2, .inr ⟨fun h => by rw [HW.out, HT.out] at h; exact absurd h (by decide), rfl⟩⟩
      · have b2 : ¬ (n : Int) ≤ 64 := by omega
        have HN : Kp (¬ WordP m t) := ⟨fun hw => by have := hw.2.2.1; omega⟩
        clear hm h h1 hl hT
        generalize ub m = z at *
        rcases hz with ⟨k1, k2⟩ | ⟨k1, k2, k3, k4⟩
        · go_enter Tryz.func66, Tryz.ntmps66
          go_wp2_with fail
          go_ret
          exact ⟨Ext.refl _, .inr ⟨HN.out, rfl⟩⟩
        · go_enter Tryz.func66, Tryz.ntmps66
          go_wp2_with fail
          go_ret
          exact ⟨Ext.refl _, .inr ⟨HN.out, rfl⟩⟩
  · have HN : Kp (¬ WordP m t) := ⟨fun hw => hm hw.1⟩
    have k1 : (ub m == 12) = false := (ub_neY (k := 12) fun e => hm (.inl e)).1
    have k2 : (ub m != 12) = true := (ub_neY (k := 12) fun e => hm (.inl e)).2
    have k3 : (ub m == 19) = false := (ub_neY (k := 19) fun e => hm (.inr e)).1
    have k4 : (ub m != 19) = true := (ub_neY (k := 19) fun e => hm (.inr e)).2
    clear hm h hl hT
    generalize ub m = z at *
    go_enter Tryz.func66, Tryz.ntmps66
    go_wp2_with fail
    go_ret
    exact ⟨Ext.refl _, .inr ⟨HN.out, rfl⟩⟩
theorem may_word {a : Atr} : MayA textB a ↔ OidP a.ty ∧ WordP a.mark a.tx :=
  ⟨fun h => ⟨h.oid, h.mark, h.lo, h.hi, h.text⟩, fun h => ⟨h.1, h.2.1, h.2.2.1, h.2.2.2.1, h.2.2.2.2⟩⟩
set_option maxHeartbeats 4000000 in
/-- an element of elements that are written already -/
theorem whole_any (m : BitVec 8) (hm : mkB m = true) {b : List (BitVec 8)} {A : Option Addr} {n c : Nat} {w : World} (h : Bs w A n c b) (hn : n ≤ 65535) (N : Nat) (hN : (elm m b).length = N) :
    Calls Tryz.prog 41 #[.int .u8 (ub m), .slice A n c] w (FreshE w N (elm m b)) := by
  have hl := h.len
  have HC := Kp.mk (Head_ok m n hn hm w)
  have hlen : hdn n + n = N := by rw [← hN, elm_len, hl]
  have hE : Kp (elm m b = hdr m n ++ b) := ⟨by unfold elm; rw [hl]⟩
  have HB := Kp.mk h
  have HLN := Kp.mk hlen
  have hhi := hdn_hi n
  clear h hl hN hlen
  generalize ub m = z at *
  go_enter Tryz.func41, Tryz.ntmps41
  go_wp2_with fail
  refine HC.out.mono ?_
  rintro e w1 ⟨A1, c1, rfl, hs1, ho1, x1⟩
  have HO := Kp.mk ho1
  have X1 := Kp.mk x1
  clear hs1 ho1 x1
  go_wp2_with (first | (at_builtin; refine wpList_append_bs rfl (.tmp 18) (.tmp 19) rfl w.heap.size _ (hdn n) (hdr m n) rfl HO.out A n c b rfl (HB.out.ext X1.out) (by omega) N HLN.out (hdr m n ++ b) rfl w X1.out (Nat.le_refl _) X1.out.size ?_; intro A4 c4 w4 ho4 hx4 hap4) | fail)
  go_ret2
  rw [hE.out]
  exact ⟨A4, c4, rfl, ho4.bs, ho4, hx4⟩
/-- what attrBytes tells -/
def AbR (w : World) (a : Atr) (e : Ending) (w' : World) : Prop := (MayA textB a ∧ FreshE w (atrB a).length (atrB a) e w') ∨ (¬ MayA textB a ∧ e = .returned (.tuple #[.slice none 0 0, err 1]) ∧ Ext w w')
theorem wr_atr {a : Atr} (h : MayA textB a) : closeS (putS a.mark a.tx (putS 6 (oidB a.ty) (openS 48 (.ok [] [])))) = .ok (atrB a) [] := by
  have h1 := h.body
  have h2 := oidB_len h.oid
  have h3 := h.hi
  have hp : isP a.mark = true := by rcases h.mark with e | e <;> rw [e] <;> decide
  show closeS (putS a.mark a.tx (putS 6 (oidB a.ty) (.ok [] [(48, [])]))) = _
  have e1 : putS 6 (oidB a.ty) (.ok [] [(48, [])]) = .ok (elm 6 (oidB a.ty)) [(48, [])] := by
    show (if isP 6 = true then (if (oidB a.ty).length ≤ 65535 then TWs.ok ([] ++ elm 6 (oidB a.ty)) [(48, [])] else .bad 4) else .bad 1) = _
    rw [if_pos (by decide), if_pos (by omega)]
    rfl
  rw [e1]
  have e2 : putS a.mark a.tx (.ok (elm 6 (oidB a.ty)) [(48, [])]) = .ok (elm 6 (oidB a.ty) ++ elm a.mark a.tx) [(48, [])] := by
    show (if isP a.mark = true then (if a.tx.length ≤ 65535 then TWs.ok (elm 6 (oidB a.ty) ++ elm a.mark a.tx) [(48, [])] else .bad 4) else .bad 1) = _
    rw [if_pos hp, if_pos (by omega)]
  rw [e2]
  show (if (elm 6 (oidB a.ty) ++ elm a.mark a.tx).length ≤ 65535 then TWs.ok ([] ++ elm 48 (elm 6 (oidB a.ty) ++ elm a.mark a.tx)) [] else .bad 4) = _
  rw [if_pos (by omega)]
  rfl
set_option maxHeartbeats 8000000 in
theorem attrBytes_any {w : World} {T : Option Addr} {t t1 : Nat} {B : Option Addr} {m d : Nat} {a : Atr} (hk : Rd vL w T t t1 a.ty) (hd : Dg 4294967296 a.ty) (hb : Bs w B m d a.tx) (hT : Tabs8 w) :
    Calls Tryz.prog 55 #[.agg #[.slice T t t1, .int .u8 (ub a.mark), .slice B m d]] w (AbR w a) := by
  obtain ⟨w0, hw0⟩ : ∃ w0, w.alloc (.cells #[.slice T t t1, .int .u8 (ub a.mark), .slice B m d] 38) = w0 := ⟨_, rfl⟩
  have hx0 : Ext w w0 := by rw [← hw0]; exact (by (repeat (first | assumption | exact Ext.refl _ | apply Ext.drew | apply Ext.drewN | apply Ext.alloc | refine Ext.trans ?_ (by assumption))); first | done | fail)
  have e0 : ∀ W, Ext w0 W → W.cell? ⟨w.heap.size, 0, none⟩ = some (.slice T t t1) := fun W hW => cell_fwd (by rw [← hw0]; simp) hW
  have e1 : ∀ W, Ext w0 W → W.cell? ⟨w.heap.size, 1, none⟩ = some (.int .u8 (ub a.mark)) := fun W hW => cell_fwd (by rw [← hw0]; simp) hW
  have e2 : ∀ W, Ext w0 W → W.cell? ⟨w.heap.size, 2, none⟩ = some (.slice B m d) := fun W hW => cell_fwd (by rw [← hw0]; simp) hW
  have X0 := Kp.mk hx0
  have W0 := Kp.mk hw0
  have E0 := Kp.mk e0
  have E1 := Kp.mk e1
  have E2 := Kp.mk e2
  have c0 := e0 w0 (Ext.refl _)
  have HO := Kp.mk (Oid_any (hk.ext hx0) hd)
  have HB := Kp.mk hb
  have HWd := Kp.mk (fun (W : World) (hW : Ext w W) => isWord_any a.mark (hb.ext hW) (tabs_ext hT hW))
  have HMW := Kp.mk (may_word (a := a))
  clear hx0 hw0 e0 e1 e2 hk hd hb hT
  go_enter Tryz.func55, Tryz.ntmps55
  go_wp2_with fail
  rw [W0.out]
  go_wp2_with fail
  refine HO.out.mono ?_
  rintro e w1 (⟨hno, rfl, x1⟩ | ⟨hyes, A1, c1, rfl, hs1, ho1, x1⟩)
  · have HNO := Kp.mk hno
    have X1 := Kp.mk (X0.out.trans x1)
    clear hno x1 c0
    go_wp2_with fail
    go_ret2
    exact .inr ⟨fun h => HNO.out h.oid, rfl, X1.out⟩
  · have HY := Kp.mk hyes
    have HS1 := Kp.mk hs1
    have HO1 := Kp.mk ho1
    have X01 := Kp.mk x1
    have X1 := Kp.mk (X0.out.trans x1)
    have c1' := E1.out w1 x1
    have c2' := E2.out w1 x1
    clear hyes hs1 ho1 x1 c0
    go_wp2_with fail
    refine (HWd.out _ X1.out).mono ?_
    rintro e w2 ⟨x2, ⟨hw2, rfl⟩ | ⟨hw2, rfl⟩⟩
    · have HMA := Kp.mk (HMW.out.2 ⟨HY.out, hw2⟩)
      have X02 := Kp.mk (X01.out.trans x2)
      have X2 := Kp.mk (X1.out.trans x2)
      have HS2 := Kp.mk (HS1.out.ext x2)
      clear hw2 x2 c1' c2'
      go_wp2_with fail
      refine (NewWriter_any w2).mono ?_
      rintro e w3 ⟨rfl, ⟨G3, hW3, hG3⟩, x3⟩
      have HW3 := Kp.mk hW3
      have HG3 := Kp.mk hG3
      have X3 := Kp.mk x3
      clear hW3 hG3 x3
      go_wp2_with fail
      refine (Open_any (m := 48) HW3.out (by show (flatT [] []).length ≤ _; decide)).mono ?_
      rintro e w4 ⟨rfl, G4, hW4, hM4⟩
      have HW4 := Kp.mk hW4
      have X4 := Kp.mk (hM4.ext X3.out HG3.out)
      have HG4 := Kp.mk (hM4.lo X3.out.size HG3.out)
      clear hW4 hM4
      go_wp2_with fail
      refine (Put_any (m := 6) HW4.out (HS2.out.ext X4.out) (HS2.out.off HG4.out) (by
        have := szW_open 48 (.ok [] [])
        have h0 : szW (.ok [] []) = 0 := rfl
        omega)).mono ?_
      rintro e w5 ⟨rfl, G5, hW5, hM5⟩
      have HW5 := Kp.mk hW5
      have X5 := Kp.mk (hM5.ext X4.out HG4.out)
      have HG5 := Kp.mk (hM5.lo X4.out.size HG4.out)
      have c1'' := E1.out w5 (X02.out.trans X5.out)
      have c2'' := E2.out w5 (X02.out.trans X5.out)
      clear hW5 hM5
      go_wp2_with fail
      refine (Put_any (m := a.mark) HW5.out (HB.out.ext (X2.out.trans X5.out)) ((HB.out.ext X2.out).off HG5.out) (by
        have h1 := szW_open 48 (.ok [] [])
        have h2 := szW_put 6 (oidB a.ty) (openS 48 (.ok [] []))
        have h3 := oidB_len HMA.out.oid
        have h0 : szW (.ok [] []) = 0 := rfl
        omega)).mono ?_
      rintro e w6 ⟨rfl, G6, hW6, hM6⟩
      have HW6 := Kp.mk hW6
      have X6 := Kp.mk (hM6.ext X5.out HG5.out)
      have HG6 := Kp.mk (hM6.lo X5.out.size HG5.out)
      have HV6 : Kp (VW (putS a.mark a.tx (putS 6 (oidB a.ty) (openS 48 (.ok [] []))))) := ⟨VW.put (VW.put (VW.open_ (show VW (.ok [] []) from ⟨by decide, fun _ h => by cases h⟩) 48) 6 _) _ _⟩
      have HZ6 : Kp (szW (putS a.mark a.tx (putS 6 (oidB a.ty) (openS 48 (.ok [] [])))) ≤ 10000) := ⟨by
        have h1 := szW_open 48 (.ok [] [])
        have h2 := szW_put 6 (oidB a.ty) (openS 48 (.ok [] []))
        have h4 := szW_put a.mark a.tx (putS 6 (oidB a.ty) (openS 48 (.ok [] [])))
        have h3 := oidB_len HMA.out.oid
        have h5 := HMA.out.hi
        have h0 : szW (.ok [] []) = 0 := rfl
        omega⟩
      clear hW6 hM6 c1'' c2''
      go_wp2_with fail
      refine (Close_any HW6.out HV6.out (by have := HZ6.out; omega)).mono ?_
      rintro e w7 ⟨rfl, G7, hW7, hM7⟩
      rw [wr_atr HMA.out] at hW7
      have HW7 := Kp.mk hW7
      have X7 := Kp.mk (hM7.ext X6.out HG6.out)
      clear hW7 hM7
      go_wp2_with fail
      refine (Bytes_any HW7.out (show VW (.ok (atrB a) []) from ⟨by show 0 ≤ 24; decide, fun _ h => by cases h⟩) (by show (flatT (atrB a) []).length ≤ _; show (atrB a).length ≤ _; have := HMA.out.len; omega)).mono ?_
      rintro e w8 ⟨A8, n8, c8, rfl, ho8, x8⟩
      rw [show doneL (.ok (atrB a) []) = atrB a from rfl] at ho8
      rw [show errV (doneC (.ok (atrB a) [])) = .nilIface from rfl]
      have HO8 := Kp.mk ho8
      have X8 := Kp.mk x8
      clear ho8 x8
      go_wp2_with fail
      go_ret2
      obtain rfl : (atrB a).length = n8 := HO8.out.len
      exact .inl ⟨HMA.out, A8, c8, rfl, HO8.out.bs, HO8.out.lower (X2.out.trans X7.out).size, (X2.out.trans X7.out).trans X8.out⟩
    · have HNW := Kp.mk hw2
      have X2 := Kp.mk (X1.out.trans x2)
      clear hw2 x2 c1' c2'
      go_wp2_with fail
      go_ret2
      exact .inr ⟨fun h => HNW.out (HMW.out.1 h).2, rfl, X2.out⟩
end Go.Proofs.YthookcnkmlmgcaaGreatDoor
