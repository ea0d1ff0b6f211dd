/-
  The walk of the law ShaStays.
-/
import Derived.Test.YtkjfhgbpiogigaaDoorLf
import Derived.Test.YtkjfhgbpiogigaaDoorPureh
import Derived.Laws.OwnMore
namespace Go.Proofs.YtkjfhgbpiogigaaDoor
open Go Go.RowKit

theorem own_lt {w : World} {base e n : Nat} {v : Value} {xs : List Value} (h : w.ownsRow base e 1 v n xs) (k : Nat) (hk : v.ownBlock = some k) : k < w.heap.size := by
  rcases h.2 with ⟨rfl, _⟩ | ⟨g, cap, cur, rfl, _, h4, _⟩
  · simp [Value.ownBlock] at hk
  · simp [Value.ownBlock] at hk
    subst hk
    exact (Array.getElem?_eq_some_iff.1 h4).1
/-- Tail at any number: the row and the error, or none -/
def TailGen (w : World) (e : Ending) (w' : World) : Prop :=
  ∃ (A : Option Addr) (c m : Nat) (T : List (BitVec 8)) (er : Value), e = .returned (.tuple #[.slice A m c, er]) ∧ w'.ownsRow w.heap.size 5 1 (.slice A m c) m (T.map vb) ∧ Below w.heap.size w w' ∧ m ≤ 72 ∧
    (er = .iface 41 (.int .i64 1) ∨ (er = .nilIface ∧ 9 ≤ m ∧ gb T 0 = 128))
theorem tailTo_head (n : Nat) : gb (tailTo n 8) 0 = 128 := by rw [tail_be n 8 (Nat.le_refl _)]; rfl
theorem Tail_gen (n : Int) (w : World) : Calls Tryd.prog 25 #[.int .i64 n] w (TailGen w) := by
  by_cases h : n < 0 ∨ 281474976710656 < n
  · refine (Tail_no n w h).mono ?_
    rintro e w' ⟨rfl, rfl⟩
    exact ⟨none, 0, 0, [], _, rfl, own_nil _ _ _, Below.refl _ _, by omega, .inl rfl⟩
  · obtain ⟨k, rfl⟩ := Int.eq_ofNat_of_zero_le (show 0 ≤ n by omega)
    refine (Tail_ok k w (by omega)).mono ?_
    rintro e w' ⟨rfl, hT, hb⟩
    have h1 := tailLen_lo k
    have h2 := tailLen_hi k
    exact ⟨_, _, _, tailTo k 8, _, rfl, own_has hT (tailTo_len k 8) (Nat.le_refl _) (by unfold maxLen; omega), hb, h2, .inr ⟨rfl, h1, tailTo_head k⟩⟩
abbrev inc (x : BitVec 8) : BitVec 8 := x + 1
abbrev dec (x : BitVec 8) : BitVec 8 := x - 1
theorem set_vb (l : List (BitVec 8)) (j : Nat) (x : BitVec 8) : (l.map vb).set j (.int .u8 (ub x)) = (l.set j x).map vb := by simp [List.map_set]

/-- the two rows of the law's own: the copy, the digest -/
structure ST (w : World) (A6 : Option Addr) (n c6 : Nat) (l6 : List (BitVec 8)) (g7 c7 : Nat) (D7 : List (BitVec 8)) (wi : World) : Prop where
  r6 : wi.ownsRow w.heap.size 5 1 (.slice A6 n c6) n (l6.map vb)
  r7 : wi.ownsRow w.heap.size 5 1 (.slice (some ⟨g7, 0, none⟩) 32 c7) 32 (D7.map vb)
  ne : (Value.slice A6 n c6).ownBlock ≠ some g7
  bel : Below w.heap.size w wi
section
variable {w : World} {A6 : Option Addr} {n c6 : Nat} {l6 : List (BitVec 8)} {g7 c7 : Nat} {D7 : List (BitVec 8)} {wi w' : World}
theorem ST.keep (h : ST w A6 n c6 l6 g7 c7 D7 wi) (hb : Below wi.heap.size wi w') : ST w A6 n c6 l6 g7 c7 D7 w' :=
  ⟨own_below h.r6 hb, own_below h.r7 hb, h.ne, h.bel.trans (hb.mono h.bel.size)⟩
theorem ST.set7 (h : ST w A6 n c6 l6 g7 c7 D7 wi) (j : Nat) (x : BitVec 8) : ST w A6 n c6 l6 g7 c7 (D7.set j x) (wi.setCell ⟨g7, j, none⟩ (.int .u8 (ub x))) := by
  have h7 := h.r7.stored j (.int .u8 (ub x))
  rw [set_vb] at h7
  exact ⟨h.r6.kept h7.2 (.inr h.ne), h7.1, h.ne, h.bel.setCell (p := ⟨g7, j, none⟩) (own_base h.r7 g7 rfl) _⟩
theorem ST.set6 {g6 : Nat} (h : ST w (some ⟨g6, 0, none⟩) n c6 l6 g7 c7 D7 wi) (j : Nat) (x : BitVec 8) : ST w (some ⟨g6, 0, none⟩) n c6 (l6.set j x) g7 c7 D7 (wi.setCell ⟨g6, j, none⟩ (.int .u8 (ub x))) := by
  have h6 := h.r6.stored j (.int .u8 (ub x))
  rw [set_vb] at h6
  exact ⟨h6.1, h.r7.kept h6.2 (.inr fun e => h.ne e.symm), h.ne, h.bel.setCell (p := ⟨g6, j, none⟩) (own_base h.r6 g6 rfl) _⟩
theorem ST.cell7 (h : ST w A6 n c6 l6 g7 c7 D7 wi) (hD : D7.length = 32) (j : Nat) (hj : j < 32) : wi.cell? ⟨g7, j, none⟩ = some (.int .u8 (ub (gb D7 j))) :=
  (h.r7.cellAt j (by omega)).trans (vb_at _ _ (by omega))
theorem ST.cell6 {g6 : Nat} (h : ST w (some ⟨g6, 0, none⟩) n c6 l6 g7 c7 D7 wi) (hD : l6.length = n) (j : Nat) (hj : j < n) : wi.cell? ⟨g6, j, none⟩ = some (.int .u8 (ub (gb l6 j))) :=
  (h.r6.cellAt j (by omega)).trans (vb_at _ _ (by omega))
theorem ST.some6 (h : ST w A6 n c6 l6 g7 c7 D7 wi) (hn : 0 < n) : ∃ g6, A6 = some ⟨g6, 0, none⟩ := by
  rcases h.r6.2 with ⟨_, e⟩ | ⟨g, cap, cur, e, _⟩
  · have := h.r6.1; rw [e] at this; simp at this; omega
  · cases e; exact ⟨g, rfl⟩
end
theorem bump_succ (f : BitVec 8 → BitVec 8) (D : List (BitVec 8)) (k : Nat) : bump f D (k + 1) = (bump f D k).set k (f (gb (bump f D k) k)) := rfl

set_option maxHeartbeats 4000000 in
theorem ShaStays_any (l0 : List (BitVec 8)) (A : Option Addr) (n0 c : Nat) (z : Int) (w : World) (hl0 : Sl w A n0 c l0) (hw : Laid w) :
    Calls Tryd.prog 10 #[.slice A n0 c, .int .i64 z] w fun e w' => e = .returned (.bool true) ∧ Below w.heap.size w w' := by
  have HL0 := Hd.mk hl0
  have HW := Hd.mk hw
  clear hl0 hw
  go_enter Tryd.func10, Tryd.ntmps10
  go_wp2_with fail
  refine (up_any _ HW.out).mono ?_
  rintro e w1 ⟨rfl, hb1⟩
  have HB1 := Hd.mk hb1
  clear hb1
  go_wp2_with fail
  refine (cut_any 2000 2000 n0 c A l0 _ (HL0.out.keep HB1.out) rfl).mono ?_
  rintro e w1' ⟨n, rfl, hn, hl, rfl⟩
  obtain ⟨l, hll⟩ : ∃ l, l0.take n = l := ⟨_, rfl⟩
  have hlw : Sl w A n c l := by
    rw [← hll]
    exact HL0.out.take n (by have := hl.1; rw [List.length_take] at this; have := HL0.out.1; omega)
  have HLW := Hd.mk hlw
  clear hlw hl hll HL0
  have e0 : Has (w1.alloc (.cells (bv []) 5)) w1.heap.size 5 (bv []) := Has.new _ _ _ _ rfl
  have hb3 : Below w1.heap.size w1 (w1.alloc (.cells (bv []) 5)) := (Below.refl _ _).alloc (Nat.le_refl _) _
  have O0 := Hd.mk (own_has (base := w1.heap.size) e0 rfl (Nat.le_refl _) (Nat.zero_le _))
  have HB3 := Hd.mk hb3
  clear e0 hb3
  go_wp2_with (first | (at_builtin; refine wpList_append_sl rfl (.tmp 21) _ 36 rfl w1.heap.size 5 Tryd.underlying36 infoB _ 0 [] rfl O0.out A n c l rfl (HLW.out.keep (HB1.out.trans (HB3.out.mono HB1.out.size))) (by omega) (by simp) ?_; intro v6 w3 hown6 hg6; have HB4 := Hd.mk (HB3.out.grown hg6 HB3.out.size (own_base O0.out)); have HO6 := Hd.mk hown6; clear hown6 hg6 O0 HB3) | fail)
  rw [List.nil_append, Nat.zero_add] at HO6
  have hb3 := HB1.out.trans (HB4.out.mono HB1.out.size)
  have HB := Hd.mk hb3
  obtain ⟨A6, c6, rfl, hs6⟩ := Sl.of_own HO6.out
  refine (Sum_any l A6 n c6 _ hs6 (HW.out.below hb3 (Nat.le_refl _)) (by omega)).mono ?_
  rintro e w4 ⟨v7, rfl, hown7, hb4⟩
  obtain ⟨A7, c7, rfl, how7⟩ := Ow.of_own hown7
  obtain ⟨g7, rfl, _⟩ := how7.2.2 (by decide)
  have hg7 := own_base hown7 g7 rfl
  have hst : ST w A6 n c6 l g7 c7 (dig KK HH l) w4 :=
    ⟨own_mono (own_below HO6.out hb4) HB1.out.size, own_mono hown7 hb3.size, fun e => by have := own_lt HO6.out g7 e; omega, hb3.trans (hb4.mono hb3.size)⟩
  have hdl : (dig KK HH l).length = 32 := dig_len _ _ _
  have HST := Hd.mk hst
  have HDL := Hd.mk hdl
  have HLN := Hd.mk hs6.1
  clear hst hdl hs6 hb3 hown7 how7 hb4 HO6 HB4 HB HB1
  have hsum := Hd.mk (fun (A : Option Addr) (n c : Nat) (w : World) (h : Sl w A n c l) (hw : Laid w) (hn : n ≤ 140737488351232) => Sum_any l A n c w h hw hn)
  unfold SumPost at hsum
  generalize dig KK HH l = D at *
  have hstr6 : (convert 36 9 (.slice A6 n c6)).run Tryd.prog w4 = .ok (.string (strOf l)) w4 := by
    obtain ⟨A', c', e, hs⟩ := Sl.of_own HST.out.r6
    cases e
    exact to_str hs
  have hstrb : (convert 36 9 (.slice A n c)).run Tryd.prog w4 = .ok (.string (strOf l)) w4 := to_str (HLW.out.keep HST.out.bel)
  go_wp2_with fail
  clear hstr6 hstrb
  go_loopw [9] (fun i wi => ∃ j : Nat, j ≤ 32 ∧ i = .int .i64 (j : Int) ∧ ST w A6 n c6 l g7 c7 (bump inc D j) wi) (fun i _ => 32 - (intOf i).toNat)
  case atStart => exact ⟨0, by omega, rfl, HST.out⟩
  case round =>
    clear HST
    obtain ⟨j, hj, rfl, hst⟩ := hrel
    by_cases hlj : j < 32
    · have c1 := hst.cell7 (by rw [bump_len]; exact HDL.out) j hlj
      have f1 := hst.r7.frozenAt j
      have HS := Hd.mk hst
      have hnx := bump_succ inc D j
      have HNX := Hd.mk hnx
      clear hst hnx
      go_wp2_with fail
      go_roundw
      case rel =>
        refine ⟨j + 1, by omega, by go_num, ?_⟩
        rw [HNX.out, ub_inc]
        exact HS.out.set7 _ _
      case measure => simp [intOf]; omega
    · obtain rfl : j = 32 := by omega
      have hd1 : (bump inc D 32).length = 32 := by rw [bump_len]; exact HDL.out
      have hbk := bump_back D 32 HDL.out
      have HBK := Hd.mk hbk
      have HD1 := Hd.mk hd1
      have HS1 := Hd.mk hst
      clear hbk hd1 hst HDL
      obtain ⟨D1, hD1⟩ : ∃ D1, bump inc D 32 = D1 := ⟨_, rfl⟩
      rw [hD1] at HS1 HD1
      have HBK2 : Hd (bump dec D1 32 = D) := ⟨by rw [← hD1]; exact HBK.out⟩
      clear HBK hD1
      go_wp2_with fail
      obtain ⟨wo, rfl⟩ : ∃ wo : World, wo = wr := ⟨_, rfl⟩
      go_loopw [10] (fun i wi => ∃ j : Nat, j ≤ n ∧ i = .int .i64 (j : Int) ∧ ST w A6 n c6 (bump inc l j) g7 c7 D1 wi) (fun i _ => n - (intOf i).toNat)
      case atStart => exact ⟨0, by omega, rfl, HS1.out⟩
      case round =>
        clear HS1
        obtain ⟨j, hj, rfl, hst⟩ := hrel
        by_cases hlj : j < n
        · obtain ⟨g6, rfl⟩ := hst.some6 (by omega)
          have c1 := hst.cell6 (by rw [bump_len]; exact HLN.out) j hlj
          have f1 := hst.r6.frozenAt j
          have HS := Hd.mk hst
          have hnx := bump_succ inc l j
          have HNX := Hd.mk hnx
          clear hst hnx
          go_wp2_with fail
          go_roundw
          case rel =>
            refine ⟨j + 1, by omega, by go_num, ?_⟩
            rw [HNX.out, ub_inc]
            exact HS.out.set6 _ _
          case measure => simp [intOf]; omega
        · obtain rfl : j = n := by omega
          have HS2 := Hd.mk hst
          clear hst
          obtain ⟨l6, hl6⟩ : ∃ l6, bump inc l j = l6 := ⟨_, rfl⟩
          rw [hl6] at HS2
          clear hl6
          go_wp2_with fail
          refine (hsum.out A j c _ (HLW.out.keep HS2.out.bel) (HW.out.below HS2.out.bel (Nat.le_refl _)) (by omega)).mono ?_
          rintro e w8 ⟨v11, rfl, hown11, hb8⟩
          have HS8 := Hd.mk (HS2.out.keep hb8)
          have hg8 := own_lt HS2.out.r7 g7 rfl
          obtain ⟨A11, c11, rfl, _⟩ := Sl.of_own hown11
          have hne11 : (Value.slice A11 32 c11).ownBlock ≠ some g7 := fun e => by have := own_base hown11 g7 e; omega
          have HO11 := Hd.mk hown11
          have HNE := Hd.mk hne11
          clear hown11 hne11 HS2 hb8 hsum
          go_wp2_with fail
          refine (Tail_gen z _).mono ?_
          rintro e w9 ⟨A12, c12, m12, T12, er12, rfl, ho12, hb9, hm12, _⟩
          have hlt12 : T12.length = m12 := by have := ho12.1; simpa using this
          have HT12 := Hd.mk hlt12
          have HO12 := Hd.mk ho12
          have HB9 := Hd.mk hb9
          clear hlt12 ho12 hb9
          go_wp2_with fail
          obtain ⟨wp, rfl⟩ : ∃ wp : World, wp = wr := ⟨_, rfl⟩
          go_loopw [14] (fun i wi => ∃ j : Nat, j ≤ m12 ∧ i = .int .i64 (j : Int) ∧ wi.ownsRow w8.heap.size 5 1 (.slice A12 m12 c12) m12 ((bump inc T12 j).map vb) ∧ Below w8.heap.size w8 wi) (fun i _ => m12 - (intOf i).toNat)
          case atStart => exact ⟨0, by omega, rfl, HO12.out, HB9.out⟩
          case round =>
            clear HO12 HB9
            obtain ⟨k, hk, rfl, ho, hb⟩ := hrel
            by_cases hlk : k < m12
            · obtain ⟨g12, rfl⟩ : ∃ g12, A12 = some ⟨g12, 0, none⟩ := by
                rcases ho.2 with ⟨_, e⟩ | ⟨g, cap, cur, e, _⟩
                · have := ho.1; rw [e] at this; simp at this; omega
                · cases e; exact ⟨g, rfl⟩
              have c1 : wr.cell? ⟨g12, k, none⟩ = some (.int .u8 (ub (gb (bump inc T12 k) k))) := (ho.cellAt k (by omega)).trans (vb_at _ _ (by rw [bump_len, HT12.out]; omega))
              have f1 := ho.frozenAt k
              have hnx := bump_succ inc T12 k
              have HNX := Hd.mk hnx
              have HO := Hd.mk ho
              have HB := Hd.mk hb
              clear ho hb hnx
              go_wp2_with fail
              go_roundw
              case rel =>
                refine ⟨k + 1, by omega, by go_num, ?_, ?_⟩
                · rw [HNX.out, ub_inc, ← set_vb]
                  exact (HO.out.stored k _).1
                · exact HB.out.setCell (p := ⟨g12, k, none⟩) (own_base HO.out g12 rfl) _
              case measure => simp [intOf]; omega
            · obtain rfl : k = m12 := by omega
              have HSX := Hd.mk (HS8.out.keep hb)
              have HOX := Hd.mk (own_below HO11.out hb)
              clear ho hb HT12 HS8 HO11
              go_wp2_with fail
              refine (Tail_gen z _).mono ?_
              rintro e w10 ⟨A15, c15, m15, T15, er15, rfl, ho15, hb10, hm15, her⟩
              have HSY := Hd.mk (HSX.out.keep hb10)
              have HOY := Hd.mk (own_below HOX.out hb10)
              have hg10 := own_lt HSX.out.r7 g7 rfl
              have hne15 : (Value.slice A15 m15 c15).ownBlock ≠ some g7 := fun e => by have := own_base ho15 g7 e; omega
              have hlt15 : T15.length = m15 := by have := ho15.1; simpa using this
              have HT15 := Hd.mk hlt15
              have HO15 := Hd.mk ho15
              have HNE15 := Hd.mk hne15
              have HER := Hd.mk her
              clear ho15 hb10 hne15 hlt15 her HSX HOX
              go_wp2_with fail
              obtain ⟨wq, rfl⟩ : ∃ wq : World, wq = wr := ⟨_, rfl⟩
              go_loopw [17] (fun i wi => ∃ j' : Nat, j' ≤ 32 ∧ i = .int .i64 (j' : Int) ∧ ST w A6 j c6 l6 g7 c7 (bump dec D1 j') wi ∧ wi.ownsRow wp.heap.size 5 1 (.slice A11 32 c11) 32 (D.map vb) ∧ wi.ownsRow wq.heap.size 5 1 (.slice A15 m15 c15) m15 (T15.map vb)) (fun i _ => 32 - (intOf i).toNat)
              case atStart => exact ⟨0, by omega, rfl, HSY.out, HOY.out, HO15.out⟩
              case round =>
                clear HSY HOY HO15
                obtain ⟨t, ht, rfl, hst, hx, hu⟩ := hrel
                by_cases hlt : t < 32
                · have c1 := hst.cell7 (by rw [bump_len]; exact HD1.out) t hlt
                  have f1 := hst.r7.frozenAt t
                  have HS := Hd.mk hst
                  have hnx := bump_succ dec D1 t
                  have HNX := Hd.mk hnx
                  have HX := Hd.mk hx
                  have HU := Hd.mk hu
                  clear hst hnx hx hu
                  go_wp2_with fail
                  go_roundw
                  case rel =>
                    refine ⟨t + 1, by omega, by go_num, ?_⟩
                    rw [HNX.out, ub_dec]
                    have hgr := (HS.out.r7.stored t (.int .u8 (ub (gb (bump dec D1 t) t - 1)))).2
                    exact ⟨HS.out.set7 _ _, HX.out.kept hgr (.inr HNE.out), HU.out.kept hgr (.inr HNE15.out)⟩
                  case measure => simp [intOf]; omega
                · obtain rfl : t = 32 := by omega
                  rw [HBK2.out] at hst
                  have hb := Hd.mk hst.bel
                  have hstr7 : (convert 36 9 (.slice (some ⟨g7, 0, none⟩) 32 c7)).run Tryd.prog wr = .ok (.string (strOf D)) wr := by
                    obtain ⟨A', c', e, hs⟩ := Sl.of_own hst.r7
                    cases e
                    exact to_str hs
                  have hstrx : (convert 36 9 (.slice A11 32 c11)).run Tryd.prog wr = .ok (.string (strOf D)) wr := by
                    obtain ⟨A', c', e, hs⟩ := Sl.of_own hx
                    cases e
                    exact to_str hs
                  clear hst hx
                  rcases HER.out with e15 | ⟨e15, h9, h128⟩
                  · subst e15
                    clear hu
                    go_wp2
                    go_ret
                    exact ⟨rfl, hb.out⟩
                  · subst e15
                    obtain ⟨g15, rfl⟩ : ∃ g15, A15 = some ⟨g15, 0, none⟩ := by
                      rcases hu.2 with ⟨_, e⟩ | ⟨g, cap, cur, e, _⟩
                      · have := hu.1; rw [e] at this; simp at this; omega
                      · cases e; exact ⟨g, rfl⟩
                    have c1 : wr.cell? ⟨g15, 0, none⟩ = some (.int .u8 128) := (hu.cellAt 0 (by omega)).trans ((vb_at _ _ (by rw [HT15.out]; omega)).trans (by rw [h128]; rfl))
                    have hm : 0 < (m15 : Int) := by omega
                    clear hu h128
                    go_wp2
                    go_ret
                    exact ⟨rfl, hb.out⟩
end Go.Proofs.YtkjfhgbpiogigaaDoor
