/-
  The walk of the law NameBack.
-/
import Derived.Test.YthookcnkmlmgcaaDoorW3
import Derived.Test.YthookcnkmlmgcaaDoorW4
import Derived.Test.YthookcnkmlmgcaaDoorVIm
import Derived.Test.YthookcnkmlmgcaaDoorM8
namespace Go.Proofs.YthookcnkmlmgcaaDoor
open Go Go.RowKit
set_option maxRecDepth 4000

theorem namB_hi {x : List (List Atr)} (h : NmW x) : (namB x).length ≤ 65539 := by
  have h1 := h.bd
  have h2 : (namB x).length = hdn (x.map stpB).flatten.length + (x.map stpB).flatten.length := elm_len _ _
  have h3 : hdn (x.map stpB).flatten.length ≤ 4 := by
    unfold hdn
    split
    · omega
    · split <;> omega
  omega
/-- with a byte more it is no name's -/
theorem namB_plus {x : List (List Atr)} (h : NmW x) {T : BitVec 8 → List (BitVec 8) → Bool} (k : BitVec 8) : ¬ ∃ y, MayN T y ∧ namB y = namB x ++ [k] := by
  rintro ⟨y, hy, e⟩
  have f1 : El (namB y) 48 (y.map stpB).flatten [] := ⟨by decide, hy.w.bd, by rw [List.append_nil]; rfl⟩
  have f2 : El (namB y) 48 (x.map stpB).flatten [k] := ⟨by decide, h.bd, e⟩
  exact absurd (el_uniq f1 f2).2.2 (by simp)
set_option maxHeartbeats 16000000 in
theorem NameBack_any {A B : Option Addr} {n c m d : Nat} {x : List (List Atr)} {b : List (BitVec 8)} {w : World} (h : Nam w A n c x) (hb : Bs w B m d b) (hT : Tabs8 w) :
    Calls Tryd.prog 4 #[.slice A n c, .slice B m d] w fun e w' => e = .returned (.bool true) ∧ Below w.heap.size w w' := by
  have ee := code_neq 2 2
  have hbl := hb.len
  have H := Kp.mk h
  have HT := Kp.mk hT
  have HB := Kp.mk hb
  clear h hT hb
  go_enter Tryd.func4, Tryd.ntmps4
  go_wp2_with fail
  refine (up9 _).mono ?_
  rintro e w1 ⟨rfl, x1⟩
  have X1 := Kp.mk x1
  clear x1
  go_wp2_with fail
  refine (light_any (H.out.ext X1.out)).mono ?_
  rintro e w2 ⟨lb, rfl, hlb, hw⟩
  obtain rfl : w1 = w2 := hw.symm
  cases lb with
  | false =>
    clear hlb
    go_wp2_with fail
    go_ret
    exact ⟨rfl, X1.out.b⟩
  | true =>
    have HLP := Kp.mk (hlb rfl)
    clear hlb
    by_cases hm4 : 4000 < m
    · have b4 : (4000 : Int) < (m : Int) := by omega
      go_wp2_with fail
      go_ret
      exact ⟨rfl, X1.out.b⟩
    · have b4 : ¬ (4000 : Int) < (m : Int) := by omega
      go_wp2_with fail
      refine (Write_any (H.out.ext X1.out) (tabs_ext HT.out X1.out)).mono ?_
      rintro e w3 (⟨hM, A3, c3, rfl, hs3, ho3, x3⟩ | ⟨hM, rfl, x3⟩)
      · have HM := Kp.mk hM
        have X3 := Kp.mk (X1.out.trans x3)
        have HS3 := Kp.mk hs3
        have hP := namB_hi hM.w
        obtain ⟨P, hPP⟩ : ∃ P, (namB x).length = P := ⟨_, rfl⟩
        rw [hPP] at HS3 hP ⊢
        clear hM hs3 ho3 x3 hPP
        have HR := Kp.mk (Read_any HS3.out (by omega) (tabs_ext HT.out X3.out))
        go_wp2_with fail
        refine HR.out.mono ?_
        rintro e w4 (⟨qs, A4, c4, F4, hm5, he5, rfl, ho5, _, x4⟩ | ⟨hno, _⟩)
        · obtain rfl : qs.map Prod.snd = x := namW_inj hm5.w HM.out.w he5
          have X4 := Kp.mk (X3.out.trans x4)
          have HS4 := Kp.mk (HS3.out.ext x4)
          have HO5 := Kp.mk (ho5.nam rfl)
          have x4' : Ext w w4 := X4.out
          clear hm5 he5 ho5 x4
          go_wp2_with (first | (at_builtin; refine wpList_append_bs rfl (.tmp 41) (.tmp 42) rfl w4.heap.size _ 0 [] rfl (Own.new w4 w4.heap.size 0 [] rfl (Nat.le_refl _) (by decide)) A3 P c3 (namB (qs.map Prod.snd)) rfl (HS4.out.ext (by (repeat (first | assumption | exact Ext.refl _ | apply Ext.drew | apply Ext.drewN | apply Ext.alloc | refine Ext.trans ?_ (by assumption))); first | done | fail)) (by omega) P (by omega) _ rfl w4 (by (repeat (first | assumption | exact Ext.refl _ | apply Ext.drew | apply Ext.drewN | apply Ext.alloc | refine Ext.trans ?_ (by assumption))); first | done | fail) (Nat.le_refl _) ((by (repeat (first | assumption | exact Ext.refl _ | apply Ext.drew | apply Ext.drewN | apply Ext.alloc | refine Ext.trans ?_ (by assumption))); first | done | fail) : Ext w4 _).size ?_; intro A5 c5 w5 ho5 hx5 _; have HO5' := Kp.mk ho5; have HX5 := Kp.mk hx5; clear ho5 hx5) | (at_builtin; refine wpList_append_bs rfl (.tmp 43) (.tmp 44) rfl w4.heap.size _ P _ rfl (HO5'.out.ext (by (repeat (first | assumption | exact Ext.refl _ | apply Ext.drew | apply Ext.drewN | apply Ext.alloc | refine Ext.trans ?_ (by assumption))); first | done | fail)) _ 1 1 [0] rfl (one_bs w5 0) (by omega) (P + 1) rfl _ rfl w4 (HX5.out.trans (by (repeat (first | assumption | exact Ext.refl _ | apply Ext.drew | apply Ext.drewN | apply Ext.alloc | refine Ext.trans ?_ (by assumption))); first | done | fail)) (Nat.le_refl _) (HX5.out.trans ((by (repeat (first | assumption | exact Ext.refl _ | apply Ext.drew | apply Ext.drewN | apply Ext.alloc | refine Ext.trans ?_ (by assumption))); first | done | fail) : Ext w5 _)).size ?_; intro A6 c6 w6 ho6 hx6 _) | fail)
          have HO6 := Kp.mk ho6
          have HX46 := Kp.mk hx6
          have X6' : Kp (Ext w w6) := ⟨X4.out.trans hx6⟩
          clear ho6 hx6
          have HNM := Kp.mk (namB_plus HM.out.w (T := textB) 0)
          have HP6 := Kp.mk (HO6.out.bs)
          have HR6 := Kp.mk (Read_any HP6.out (by omega) (tabs_ext HT.out X6'.out))
          refine HR6.out.mono ?_
          rintro e w8 (⟨ps, A7, c7, F7, hm7, he7, rfl, ho7, _, x7⟩ | ⟨_, rfl, x7⟩)
          · exact absurd ⟨_, hm7, he7⟩ HNM.out
          · have X8' : Kp (Ext w w8) := ⟨X6'.out.trans x7⟩
            have X48 : Kp (Ext w4 w8) := ⟨HX46.out.trans x7⟩
            have HS := Kp.mk (Same_any (HO5.out.ext X48.out) (H.out.ext X8'.out) HLP.out.fit)
            rw [sameN_yes rfl] at HS
            clear x7
            go_wp2_with fail
            refine HS.out.mono ?_
            rintro e w6' ⟨rfl, x9⟩
            have X6 := Kp.mk (X8'.out.trans x9)
            clear x9
            go_wp2_with fail
            refine (Read_any (HB.out.ext X6.out) (by omega) (tabs_ext HT.out X6.out)).mono ?_
            rintro e w7 (⟨ps, A7, c7, F7, hm7, he7, rfl, ho7, _, x7⟩ | ⟨_, rfl, x7⟩)
            · have X7 := Kp.mk (X6.out.trans x7)
              have HW := Kp.mk (Write_any (ho7.nam rfl) (tabs_ext HT.out X7.out))
              have HM7 := Kp.mk hm7
              have HE7 := Kp.mk he7
              clear hm7 he7 ho7 x7
              go_wp2_with fail
              refine HW.out.mono ?_
              rintro e w8 (⟨_, A8, c8, rfl, hs8, _, x8⟩ | ⟨hno, _⟩)
              · have X8 := Kp.mk (X7.out.trans x8)
                have S8 := hs8.str (Ext.refl _)
                have SB := HB.out.str X8.out
                rw [← HE7.out] at SB
                clear hs8 x8
                go_wp2_with fail
                go_ret
                exact ⟨by first | rfl | simp, X8.out.b⟩
              · exact absurd HM7.out hno
            · have X7 := Kp.mk (X6.out.trans x7)
              clear x7
              go_wp2_with fail
              go_ret
              exact ⟨by first | rfl | simp, X7.out.b⟩
        · exact absurd ⟨x, HM.out, rfl⟩ hno
      · have X6 := Kp.mk (X1.out.trans x3)
        clear hM x3
        go_wp2_with fail
        refine (Read_any (HB.out.ext X6.out) (by omega) (tabs_ext HT.out X6.out)).mono ?_
        rintro e w7 (⟨ps, A7, c7, F7, hm7, he7, rfl, ho7, _, x7⟩ | ⟨_, rfl, x7⟩)
        · have X7 := Kp.mk (X6.out.trans x7)
          have HW := Kp.mk (Write_any (ho7.nam rfl) (tabs_ext HT.out X7.out))
          have HM7 := Kp.mk hm7
          have HE7 := Kp.mk he7
          clear hm7 he7 ho7 x7
          go_wp2_with fail
          refine HW.out.mono ?_
          rintro e w8 (⟨_, A8, c8, rfl, hs8, _, x8⟩ | ⟨hno, _⟩)
          · have X8 := Kp.mk (X7.out.trans x8)
            have S8 := hs8.str (Ext.refl _)
            have SB := HB.out.str X8.out
            rw [← HE7.out] at SB
            clear hs8 x8
            go_wp2_with fail
            go_ret
            exact ⟨by first | rfl | simp, X8.out.b⟩
          · exact absurd HM7.out hno
        · have X7 := Kp.mk (X6.out.trans x7)
          clear x7
          go_wp2_with fail
          go_ret
          exact ⟨by first | rfl | simp, X7.out.b⟩
end Go.Proofs.YthookcnkmlmgcaaDoor
