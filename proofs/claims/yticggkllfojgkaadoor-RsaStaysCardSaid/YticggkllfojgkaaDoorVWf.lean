/-
  The walk of sha.Sum.
-/
import Derived.Test.YticggkllfojgkaaDoorVWe
import Derived.Test.YticggkllfojgkaaDoorVPureb
import Derived.Deep.RegionHeld3
import Derived.Deep.DeepCutAuto
namespace Go.Proofs.YticggkllfojgkaaDoor
open Go Go.RowKit
set_option maxRecDepth 4000

theorem from_ex {w : World} {A : Option Addr} {n c : Nat} {l : List (BitVec 8)} (h : Sl w A n c l) (k : Nat) (x : Int) (hx : x = (k : Int)) (hk : k ≤ n) :
    ∃ A1 n1 c1, (∀ w' : World, (Instr.sliceAt 26 (.slice A n c) (some (.int .i64 x)) none none).run Tryd.prog w' = .ok (.slice A1 n1 c1) w') ∧ n1 = n - k ∧ Sl w A1 n1 c1 (l.drop k) :=
  ⟨_, _, _, fun w' => run_from A n c 26 5 Tryd.underlying26 sizeB k x hx hk w', rfl, h.drop k hk⟩
theorem own_nil (w : World) (base e : Nat) : w.ownsRow base e 1 (.slice none 0 0) 0 [] := ⟨rfl, .inl ⟨rfl, rfl⟩⟩

theorem own_below {w w' : World} {base e n : Nat} {v : Value} {xs : List Value} (h : w.ownsRow base e 1 v n xs) (hb : Below w.heap.size w w') : w'.ownsRow base e 1 v n xs := by
  refine ⟨h.1, ?_⟩
  rcases h.2 with h2 | ⟨g, cap, cur, h1, h3, h4, h5⟩
  · exact .inl h2
  · exact .inr ⟨g, cap, cur, h1, h3, (hb.block g (Array.getElem?_eq_some_iff.1 h4).1).trans h4, h5⟩
theorem own_base {w : World} {base e n : Nat} {v : Value} {xs : List Value} (h : w.ownsRow base e 1 v n xs) (k : Nat) (hk : v.ownBlock = some k) : base ≤ k := by
  rcases h.2 with ⟨rfl, _⟩ | ⟨g, cap, cur, rfl, h3, _⟩
  · simp [Value.ownBlock] at hk
  · simp [Value.ownBlock] at hk; omega
theorem sl_has {w : World} {g t n c : Nat} {l : List (BitVec 8)} (h : Has w g t (bv l)) (hl : l.length = n) (hc : n ≤ c) : Sl w (some ⟨g, 0, none⟩) n c l := by
  subst hl; exact Sl.of_has h hc
def S8 (w' : World) : Prop := w'.cell? ⟨1, 0, none⟩ = some (.int .u32 (un (gw HH 0))) ∧ w'.cell? ⟨1, 1, none⟩ = some (.int .u32 (un (gw HH 1))) ∧ w'.cell? ⟨1, 2, none⟩ = some (.int .u32 (un (gw HH 2))) ∧ w'.cell? ⟨1, 3, none⟩ = some (.int .u32 (un (gw HH 3))) ∧ w'.cell? ⟨1, 4, none⟩ = some (.int .u32 (un (gw HH 4))) ∧ w'.cell? ⟨1, 5, none⟩ = some (.int .u32 (un (gw HH 5))) ∧ w'.cell? ⟨1, 6, none⟩ = some (.int .u32 (un (gw HH 6))) ∧ w'.cell? ⟨1, 7, none⟩ = some (.int .u32 (un (gw HH 7)))
theorem s8 {w : World} (h : Laid w) : S8 w := ⟨h.2 0 (by decide), h.2 1 (by decide), h.2 2 (by decide), h.2 3 (by decide), h.2 4 (by decide), h.2 5 (by decide), h.2 6 (by decide), h.2 7 (by decide)⟩
theorem row8 {B : Nat} {a w : World} (h : Below B a w) (v0 v1 v2 v3 v4 v5 v6 v7 : Value) :
    Below B a ((((((((w.setCell ⟨B, 0, none⟩ v0).setCell ⟨B, 1, none⟩ v1).setCell ⟨B, 2, none⟩ v2).setCell ⟨B, 3, none⟩ v3).setCell ⟨B, 4, none⟩ v4).setCell ⟨B, 5, none⟩ v5).setCell ⟨B, 6, none⟩ v6).setCell ⟨B, 7, none⟩ v7) :=
  (((((((h.setCell (Nat.le_refl _) _).setCell (Nat.le_refl _) _).setCell (Nat.le_refl _) _).setCell (Nat.le_refl _) _).setCell (Nat.le_refl _) _).setCell (Nat.le_refl _) _).setCell (Nat.le_refl _) _).setCell (Nat.le_refl _) _
/-- behind the whole blocks: where the words lie -/
def CI (l : List (BitVec 8)) (k : Nat) (w w3 : World) (t5 : Value) (w' : World) : Prop :=
  ∃ g, t5 = .pointer (some ⟨g, 0, none⟩) ∧ w.heap.size ≤ g ∧ Has w' g 96 (wv (pa KK (l.take k) HH (k / 64))) ∧ Below w3.heap.size w3 w'
theorem load_HH {w : World} (h : Laid w) : (Instr.loadAt 96 (.pointer (some ⟨1, 0, none⟩))).run Tryd.prog w = .ok (.agg (wv HH)) w :=
  run_load_arr w 96 56 8 1 (wv HH) Tryd.underlying96 (szW8 _ HH_len) (fun j v hv => by
    have hj : j < 8 := by have := (Array.getElem?_eq_some_iff.1 hv).1; rwa [wv_size] at this
    rw [h.2 j hj, ← hv, wv_at _ _ hj])
theorem idx8 (s : List (BitVec 32)) (hs : s.length = 8) (k : Nat) (hk : k < 8) (w : World) :
    (Instr.index 96 (.agg (wv s)) (.int .i64 (k : Int))).run Tryd.prog w = .ok (.int .u32 (un (gw s k))) w :=
  run_index_arr w 96 56 8 _ k _ Tryd.underlying96 (by kernel_rfl) (by kernel_rfl) hk (wv_at s k (by omega))
theorem sl4 (w : World) (x : BitVec 32) : Sl (w.alloc (.cells #[.int .u8 (ub (b8 (x >>> 24))), .int .u8 (ub (b8 (x >>> 16))), .int .u8 (ub (b8 (x >>> 8))), .int .u8 (ub (b8 x))] 5)) (some ⟨w.heap.size, 0, none⟩) 4 4 (bytes4 x) :=
  sl_has (t := 5) (Has.new w 5 (bv (bytes4 x)) _ rfl) rfl (Nat.le_refl _)
/-- what Sum leaves -/
def SumPost (l : List (BitVec 8)) (w : World) (e : Ending) (w' : World) : Prop :=
  ∃ v, e = .returned v ∧ w'.ownsRow w.heap.size 5 1 v 32 ((dig KK HH l).map vb) ∧ Below w.heap.size w w'

set_option maxHeartbeats 2000000 in
theorem Sum_any (l : List (BitVec 8)) (A : Option Addr) (n c : Nat) (w : World) (hl : Sl w A n c l) (hw : Laid w) (hn : n ≤ 140737488351232) :
    Calls Tryd.prog 54 #[.slice A n c] w (SumPost l w) := by
  obtain ⟨k, hk⟩ : ∃ k, k = 64 * (n / 64) := ⟨_, rfl⟩
  have hkn : k ≤ n := by omega
  obtain ⟨A1, n1, c1, hfrom, hn1, hl1⟩ := from_ex hl k ((n : Int) - (n : Int) % 64) (by omega) hkn
  have hupto := run_upto (P := Tryd.prog) A n c 26 5 Tryd.underlying26 sizeB k ((n : Int) - (n : Int) % 64) (by omega) (Nat.le_trans hkn hl.2.1)
  have HK := Lib.hid hk
  have HL := Lib.hid hl
  have HW := Lib.hid hw
  have HN1 := Lib.hid hn1
  have HL1 := Lib.hid hl1
  have hn1b : n1 ≤ n := by omega
  clear hl hw hk hn1 hl1
  go_enter Tryd.func54, Tryd.ntmps54
  go_wp2_with (first | (at_builtin; refine wpList_append_sl rfl _ _ 26 rfl w.heap.size 5 Tryd.underlying26 infoB _ 0 [] rfl (own_nil _ _ _) A1 n1 c1 _ rfl HL1.out (by omega) (Nat.le_refl _) ?_; intro v1 w1 hown1 hg1) | fail)
  have hb1 : Below w.heap.size w w1 := (Below.refl _ _).grown hg1 (Nat.le_refl _) (fun k hk => by cases hk)
  refine (tail_any n _ (by omega)).mono ?_
  rintro e w2 ⟨rfl, hT, hb2⟩
  have hown2 := own_below hown1 hb2
  rw [List.nil_append, Nat.zero_add] at hown2
  have hlT := sl_has hT (tailTo_len n 8) (Nat.le_refl _)
  have hT2 := tailLen_hi n
  have hb12 := hb1.trans (hb2.mono hb1.size)
  clear hown1 hg1 hT
  go_wp2_with (first | (at_builtin; refine wpList_append_sl rfl _ _ 26 rfl w.heap.size 5 Tryd.underlying26 infoB _ n1 _ rfl hown2 _ (tailLen n) (tailLen n) _ rfl hlT (by omega) hb12.size ?_; intro v2 w3 hown3 hg3) | fail)
  have hb3 : Below w.heap.size w w3 := hb12.grown hg3 hb12.size (own_base hown2)
  rw [← List.map_append] at hown3
  obtain ⟨A2, c2, rfl, hl2⟩ := Sl.of_own hown3
  clear hown3 hg3 hlT hown2 hb12 hb1 hb2
  have hE : l.drop k ++ tailTo n 8 = endL l := by unfold endL; rw [HL.out.1, ← HK.out]
  rw [hE] at hl2
  have hW3 := HW.out.below hb3 (Nat.le_refl _)
  have hm2 : n1 + tailLen n ≤ 140737488355328 := by omega
  obtain ⟨m2, hm⟩ : ∃ m2, n1 + tailLen n = m2 := ⟨_, rfl⟩
  rw [hm] at hl2 hm2 ⊢
  clear hE hm
  have HW3 := Lib.hid hW3
  have HB3 := Lib.hid hb3
  have HL2 := Lib.hid hl2
  have hs3 : Sl w3 A k c (l.take k) := (HL.out.keep hb3).take k hkn
  have HS3 := Lib.hid hs3
  have hkm : k ≤ maxLen := by unfold maxLen; omega
  have HKM := Lib.hid hkm
  have HUP := Lib.hid hupto
  clear hW3 hl2 hfrom hs3 hkm hupto
  go_upto_region 5 with (fail)
  go_cut [5] (fun t5 w' => CI l k w w3 t5 w')
  case first =>
    refine wp_region_held (S := fun w' => Laid w' ∧ Below w3.heap.size w3 w') (by kernel_rfl) ?_
    have hS : (fun w' : World => Laid w' ∧ Below w3.heap.size w3 w') w3.drew := ⟨HW3.out.below (Below.refl _ _).drew (Nat.le_refl _), (Below.refl _ _).drew⟩
    have HS := Lib.hid hS
    clear hS
    change wpAnyH _ _ _ _ _ _ _ _ w3.drew
    refine wpAnyH_take (i := 0) (v := .agg (wv HH)) rfl (by kernel_rfl) (by kernel_rfl) (by kernel_rfl) (fun _ _ _ h => h) (.inl ⟨by rfl, fun W hW => exec_load 96 _ rfl ⟨1, 0, none⟩ rfl _ (load_HH hW.1)⟩) HS.out ?_
    refine wpAnyH_take (i := 1) (v := .slice A n c) rfl (by kernel_rfl) (by kernel_rfl) (by kernel_rfl) (fun _ _ _ h => h) (.inl ⟨by rfl, fun W hW => exec_move _ rfl _ rfl⟩) HS.out ?_
    refine wpAnyH_take (i := 2) (v := .int .i64 ((n : Int) - (n : Int) % 64)) rfl (by kernel_rfl) (by kernel_rfl) (by kernel_rfl) (fun _ _ _ h => h) (.inl ⟨by rfl, fun W hW => exec_move _ rfl _ rfl⟩) HS.out ?_
    refine wpAnyH_take (i := 3) (v := .slice A k c) rfl (by kernel_rfl) (by kernel_rfl) (by kernel_rfl) (fun _ _ _ h => h) (.inl ⟨by rfl, fun W hW => exec_slice 26 _ _ _ rfl (.slice A k c) (.slice A n c) none (some (.int .i64 ((n : Int) - (n : Int) % 64))) rfl rfl rfl (HUP.out W)⟩) HS.out ?_
    refine wpAnyH_all (rs := [4, 5]) (by kernel_rfl) (by simp) ?_
    intro i hi
    simp only [List.mem_cons, List.not_mem_nil, or_false] at hi
    rcases hi with rfl | rfl
    · refine wpOp_step rfl rfl fun K' hK' => ?_
      have HK' := Lib.hid hK'
      clear hK'
      go_simp
      have hbA : Below w3.heap.size w3 w3.drew := HS.out.2
      refine (pressAll_any HH (l.take k) A k c _ rfl (HS3.out.keep hbA) HS.out.1 HKM.out).mono ?_
      rintro e w5 ⟨rfl, hb5⟩
      have hb6 : Below w3.heap.size w3 w5 := hbA.trans hb5
      refine HK'.out _ _ ⟨⟨HW3.out.below hb6 (Nat.le_refl _), hb6⟩, ?_⟩
      clear HK'
      refine wpAnyH_all (rs := [5]) (by kernel_rfl) (by simp) ?_
      intro i hi
      simp only [List.mem_cons, List.not_mem_nil, or_false] at hi
      subst hi
      refine wpOp_step rfl rfl fun K' hK' => ?_
      have HK' := Lib.hid hK'
      clear hK'
      go_simp
      have hb7 : Below w3.heap.size w3 (w5.alloc (.cells zero8 96)) := hb6.alloc hb6.size _
      refine HK'.out _ _ ⟨⟨HW3.out.below hb7 (Nat.le_refl _), hb7⟩, ?_⟩
      clear HK'
      refine wpAnyH_all (rs := [6]) (by kernel_rfl) (by simp) ?_
      intro i hi
      simp only [List.mem_cons, List.not_mem_nil, or_false] at hi
      subst hi
      refine wpOp_step rfl rfl fun K' hK' => ?_
      have HK' := Lib.hid hK'
      clear hK'
      refine wp_store_row 96 _ _ rfl w5.heap.size (wv (pa KK (l.take k) HH (k / 64))) rfl rfl 96 zero8 (Has.new _ _ _ _ rfl) (szW8 _ (pa_len _ _ _ rfl _)) (by rw [wv_size, pa_len _ _ _ rfl]; rfl) (wv_one _) ?_
      have hb8 : Below w3.heap.size w3 ((w5.alloc (.cells zero8 96)).setRow w5.heap.size (wv (pa KK (l.take k) HH (k / 64)))) := below_row hb7 hb6.size _
      refine HK'.out _ _ ⟨⟨HW3.out.below hb8 (Nat.le_refl _), hb8⟩, ?_⟩
      clear HK'
      refine wpAnyH_done (by kernel_rfl) ?_ _
      go_wp2_with fail
      go_meet
      exact ⟨w5.heap.size, rfl, Nat.le_trans HB3.out.size hb6.size, (Has.new _ _ _ _ rfl).row _, hb8⟩
    · refine wpOp_step rfl rfl fun K' hK' => ?_
      have HK' := Lib.hid hK'
      clear hK'
      go_simp
      have hbA : Below w3.heap.size w3 ((w3.alloc (.cells zero8 96)).drew) := ((Below.refl _ _).alloc (Nat.le_refl _) _).drew
      have hzA : Has ((w3.alloc (.cells zero8 96)).drew) w3.heap.size 96 zero8 := (Has.new _ _ _ _ rfl).drew
      refine HK'.out _ _ ⟨⟨HW3.out.below hbA (Nat.le_refl _), hbA⟩, ?_⟩
      clear HK'
      refine wpAnyH_all (rs := [4]) (by kernel_rfl) (by simp) ?_
      intro i hi
      simp only [List.mem_cons, List.not_mem_nil, or_false] at hi
      subst hi
      refine wpOp_step rfl rfl fun K' hK' => ?_
      have HK' := Lib.hid hK'
      clear hK'
      go_simp
      refine (pressAll_any HH (l.take k) A k c _ rfl (HS3.out.keep hbA) (HW3.out.below hbA (Nat.le_refl _)) HKM.out).mono ?_
      rintro e w5 ⟨rfl, hb5⟩
      have hb6 : Below w3.heap.size w3 w5 := hbA.trans (hb5.mono hbA.size)
      have hz5 := hzA.below hb5 hzA.lt
      refine HK'.out _ _ ⟨⟨HW3.out.below hb6 (Nat.le_refl _), hb6⟩, ?_⟩
      clear HK'
      refine wpAnyH_all (rs := [6]) (by kernel_rfl) (by simp) ?_
      intro i hi
      simp only [List.mem_cons, List.not_mem_nil, or_false] at hi
      subst hi
      refine wpOp_step rfl rfl fun K' hK' => ?_
      have HK' := Lib.hid hK'
      clear hK'
      refine wp_store_row 96 _ _ rfl w3.heap.size (wv (pa KK (l.take k) HH (k / 64))) rfl rfl 96 zero8 hz5 (szW8 _ (pa_len _ _ _ rfl _)) (by rw [wv_size, pa_len _ _ _ rfl]; rfl) (wv_one _) ?_
      have hb8 : Below w3.heap.size w3 (w5.setRow w3.heap.size (wv (pa KK (l.take k) HH (k / 64)))) := below_row hb6 (Nat.le_refl _) _
      refine HK'.out _ _ ⟨⟨HW3.out.below hb8 (Nat.le_refl _), hb8⟩, ?_⟩
      clear HK'
      refine wpAnyH_done (by kernel_rfl) ?_ _
      go_wp2_with fail
      go_meet
      exact ⟨w3.heap.size, rfl, HB3.out.size, hz5.row _, hb8⟩
  case rest =>
    obtain ⟨g, rfl, hg, hh, hb⟩ := hcut
    have hW5 := HW3.out.below hb (Nat.le_refl _)
    have hl5 := HL2.out.keep hb
    have HW5 := Lib.hid hW5
    have HL5 := Lib.hid hl5
    have hq8 := pa_len KK (l.take k) HH rfl (k / 64)
    have HQ8 := Lib.hid hq8
    have hm2m : m2 ≤ maxLen := by unfold maxLen; omega
    have HM2 := Lib.hid hm2m
    clear hW5 hl5 hq8 hm2m
    have hm2e : m2 = (endL l).length := HL5.out.1.symm
    have hqq : pa KK (endL l) (pa KK (l.take k) HH (k / 64)) (m2 / 64) = digW KK HH l := by
      unfold digW; rw [hm2e, HL.out.1, ← HK.out]
    have HQQ := Lib.hid hqq
    clear hqq hm2e
    have hd8 := digW_len KK HH l rfl
    have HD8 := Lib.hid hd8
    clear hd8
    go_wp2_with (first | (refine wpList_load_row rfl 96 _ rfl g rfl 96 _ (0, 0) _ hh Tryd.underlying96 rfl (szW8 _ HQ8.out) ?_) | (go_at_call 71; refine (pressAll_any _ (endL l) A2 m2 c2 _ HQ8.out HL5.out HW5.out HM2.out).mono ?_; rintro e w6 ⟨rfl, hb6⟩; rw [HQQ.out]) | (refine wpList_store_row rfl 96 _ _ rfl g (wv (digW KK HH l)) rfl rfl 96 _ (hh.below hb6 hh.lt) (szW8 _ HD8.out) (by rw [wv_size, wv_size, HD8.out, HQ8.out]) (wv_one _) ?_) | (refine wpList_load_row rfl 96 _ rfl g rfl 96 _ (0, 0) _ ((hh.below hb6 hh.lt).row _) Tryd.underlying96 rfl (szW8 _ HD8.out) ?_) | fail)
    have hb7 : Below w.heap.size w (w6.setRow g (wv (digW KK HH l))) := below_row ((HB3.out.trans (hb.mono HB3.out.size)).trans (hb6.mono (HB3.out.trans (hb.mono HB3.out.size)).size)) hg _
    generalize w6.setRow g (wv (digW KK HH l)) = w7 at *
    clear hh hb hb6 hb3
    go_loopw [6, 34] (fun v i wr => ∃ j : Nat, j ≤ 8 ∧ i = .int .i64 j ∧ wr.ownsRow w.heap.size 5 1 v (4 * j) ((digTo (digW KK HH l) j).map vb) ∧ Below w.heap.size w wr) (fun _ i _ => 8 - (intOf i).toNat)
    case atStart => exact ⟨0, by omega, rfl, own_nil _ _ _, hb7⟩
    case round =>
      clear hb7
      obtain ⟨j, hj, rfl, hown, hb⟩ := hrel
      by_cases hlt : j < 8
      · have hidx := idx8 (digW KK HH l) HD8.out j hlt
        go_wp2_with (first | (at_builtin; refine wpList_append_sl rfl _ _ 26 rfl w.heap.size 5 Tryd.underlying26 infoB _ (4 * j) _ rfl (hown.alloc _) _ 4 4 (bytes4 (gw (digW KK HH l) j)) rfl (sl4 wr _) (by omega) (Nat.le_trans hb.size (by simp)) ?_; intro v8 w8 hown8 hg8) | fail)
        have hb8 : Below w.heap.size w w8 := (hb.alloc hb.size _).grown hg8 (Nat.le_trans hb.size (by simp)) (own_base hown)
        rw [← List.map_append] at hown8
        go_roundw
        case rel =>
          refine ⟨j + 1, by omega, by go_num, ?_, hb8⟩
          rw [show 4 * (j + 1) = 4 * j + 4 by omega]
          exact hown8
        case measure => simp [intOf]; omega
      · obtain rfl : j = 8 := by omega
        go_wp2
        go_ret
        exact ⟨_, rfl, hown, hb⟩
end Go.Proofs.YticggkllfojgkaaDoor
