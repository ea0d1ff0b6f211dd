/-
  The walks of slices.Grow, slices.Concat of two slices, bytes.Clone, Fill.
  prim.Big, prim.ReadBig; the reference's Big.
  prim.ReadBig; the reference's Big.
  The reference's Bytes.
-/
import Derived.Test.YtfipgmjaabggjaaDoorM18
import Derived.Lib.AppendZerosOnto
import Derived.Lib.SliceRun
import Derived.Test.YtfipgmjaabggjaaDoorM15
import Derived.Test.YtfipgmjaabggjaaDoorM16
import Derived.Test.YtfipgmjaabggjaaDoorM17
import Derived.Test.YtfipgmjaabggjaaDoorM12
namespace Go.Proofs.YtfipgmjaabggjaaDoor
open Go Go.RowKit
set_option maxRecDepth 4000

/-- of two parts: how many bytes the first j hold, and which -/
def s2 (n m : Nat) (j : Nat) : Nat := if j = 0 then 0 else if j = 1 then n else n + m
def l2 (x y : List (BitVec 8)) (j : Nat) : List (BitVec 8) := if j = 0 then [] else if j = 1 then x else x ++ y
set_option maxHeartbeats 1000000 in
theorem Clone_any {b : List (BitVec 8)} {A : Option Addr} {n c : Nat} {w : World} (h : Bs w A n c b) (hn : n ≤ 140737488351232) :
    Calls Tryd.prog 35 #[.slice A n c] w (Fresh w n b) := by
  have hnil := fun (w : World) (a : Option Addr) (n c n' c' : Nat) => Lib.run_eql_slice_nil (P := Tryd.prog) w 24 5 a n c n' c' Tryd.underlying24
  have ho := Own.new w w.heap.size 0 [] rfl (Nat.le_refl _) (Nat.zero_le _)
  have hx : Ext w (w.alloc (.cells (bv []) 5)) := (by (repeat (first | assumption | exact Ext.refl _ | apply Ext.drew | apply Ext.drewN | apply Ext.alloc | refine Ext.trans ?_ (by assumption))); first | done | fail)
  have hb := h.ext hx
  have HN := Kp.mk h
  clear h
  cases A with
  | none =>
    obtain ⟨rfl, rfl⟩ := HN.out.s.2.2.1 rfl
    obtain rfl : b = [] := List.eq_nil_of_length_eq_zero HN.out.len
    go_enter Tryd.func35, Tryd.ntmps35
    go_wp2
    go_ret
    exact ⟨_, _, rfl, Bs.nil _, Own.nil _ _, Ext.refl _⟩
  | some a =>
    go_enter Tryd.func35, Tryd.ntmps35
    go_wp2_with (first | (at_builtin; refine wpList_append_bs rfl (.tmp 5) (.tmp 6) rfl w.heap.size _ 0 [] rfl ho (some a) n c b rfl hb (by omega) n (by omega) b rfl w hx (Nat.le_refl _) hx.size ?_; intro A5 c5 w5 ho5 hx5 _) | fail)
    go_ret
    exact ⟨_, _, rfl, ho5.bs, ho5, hx5⟩
end Go.Proofs.YtfipgmjaabggjaaDoor
namespace Go.Proofs.YtfipgmjaabggjaaDoor
open Go Go.RowKit
set_option maxRecDepth 4000

theorem toB_cons (v k : Nat) : toB v (k + 1) = BitVec.ofNat 8 (v / 256 ^ k) :: toB v k := by
  unfold toB
  rw [List.range_succ_eq_map, List.map_cons, List.map_map]
  refine congr (congrArg List.cons ?_) ?_
  · rw [show k + 1 - 1 - 0 = k by omega]
  · refine List.map_congr_left fun j _ => ?_
    show BitVec.ofNat 8 (v / 256 ^ (k + 1 - 1 - (j + 1))) = BitVec.ofNat 8 (v / 256 ^ (k - 1 - j))
    rw [show k + 1 - 1 - (j + 1) = k - 1 - j by omega]
/-- the bytes without noughts ahead -/
def sml (v : Nat) : List (BitVec 8) := toB v (nb v)
theorem sml_len (v : Nat) : (sml v).length = nb v := toB_len _ _
theorem trim_toB (v : Nat) : ∀ k, nb v ≤ k → ((toB v k).map BitVec.toNat).dropWhile (· == 0) = (sml v).map BitVec.toNat
  | 0, h => by
    have e : nb v = 0 := by omega
    unfold sml
    rw [e]
    rfl
  | k + 1, h => by
    by_cases hk : nb v ≤ k
    · have h1 := (nb_iff v k).1 hk
      rw [toB_cons, Nat.div_eq_of_lt h1, List.map_cons, List.dropWhile_cons_of_pos (by rfl)]
      exact trim_toB v k hk
    · have e : nb v = k + 1 := by omega
      have h1 := (nb_iff v (k + 1)).1 h
      have h2 : 256 ^ k ≤ v := Nat.le_of_not_lt fun h => hk ((nb_iff v k).2 h)
      have h3 : v / 256 ^ k < 256 := by rw [Nat.div_lt_iff_lt_mul (Nat.pow_pos (by decide)), Nat.mul_comm, ← Nat.pow_succ]; exact h1
      have h4 : 0 < v / 256 ^ k := Nat.div_pos h2 (Nat.pow_pos (by decide))
      unfold sml
      rw [e, toB_cons, List.map_cons, List.dropWhile_cons_of_neg (by
        rw [BitVec.toNat_ofNat, Nat.mod_eq_of_lt (by omega), beq_iff_eq]
        omega)]
/-- is a 0 ahead needed? -/
def bigZ (v : Nat) : Bool := decide (nb v = 0) || decide (128 ≤ (gb (sml v) 0).toNat)
def bigL (v : Nat) : List (BitVec 8) := if bigZ v then 0 :: sml v else sml v
theorem Rd.bs8 {w : World} {A : Option Addr} {n c : Nat} {l : List (BitVec 8)} (h : Rd vB w A n c (l.map BitVec.toNat)) : Bs w A n c l := by
  have hl : l.length = n := by have := h.len; rwa [List.length_map] at this
  refine ⟨hl, h.cap, h.nul, fun hn => ?_⟩
  obtain ⟨g, o, e, hc⟩ := h.at_ hn
  refine ⟨g, o, e, fun j hj => ?_⟩
  rw [hc j (gb l j).toNat (by rw [List.getElem?_map, List.getElem?_eq_getElem (by omega)]; simp [gb, show j < l.length by omega])]
  rfl
theorem lng_nb {v : Nat} (h : ¬ lng v) : nb v ≤ 256 := Nat.le_of_not_lt fun e => h ((nb_lng v).1 e)
set_option maxHeartbeats 4000000 in
theorem Big_any {A : Option Addr} {n c v : Nat} {w : World} (h : Nv w A n c v) : Calls Tryd.prog 8 #[.slice A n c] w fun e w' =>
    (lng v ∧ Bad1 w 4 e w') ∨ (¬ lng v ∧ FreshE w (bigL v).length (bigL v) e w') := by
  obtain ⟨a, ha, rfl⟩ := h
  generalize hv : vl BB a = v
  by_cases hl : lng v
  · as_aux_lemma =>
    have HW := Kp.mk (Write_long ha (by rw [hv]; exact hl) 256)
    have HL := Kp.mk hl
    clear hl ha hv
    go_enter Tryd.func8, Tryd.ntmps8
    go_wp2_with (first | (go_at_call 32; refine HW.out.mono ?_; rintro e w1 ⟨rfl, x1⟩) | fail)
    go_ret2
    exact .inl ⟨HL.out, rfl, x1⟩
  · as_aux_lemma =>
    have hk := lng_nb hl
    have hw := Write_ok ha (by rw [hv]; exact hl) 256 (by rw [hv]; exact hk) (Nat.le_refl _)
    rw [hv] at hw
    have HW := Kp.mk hw
    have HL := Kp.mk hl
    have ht := trim_toB v 256 hk
    have HT := Kp.mk ht
    have HZ := Kp.mk (show bigL v = if bigZ v then 0 :: sml v else sml v from rfl)
    have hz : bigZ v = (decide (nb v = 0) || decide (128 ≤ (gb (sml v) 0).toNat)) := rfl
    have hsl := sml_len v
    generalize bigL v = L at *
    generalize bigZ v = Z at *
    generalize sml v = S at *
    generalize nb v = N at *
    clear hw hl ha hv ht
    have HK := Kp.mk hk
    have HSL := Kp.mk hsl
    clear hk hsl
    go_enter Tryd.func8, Tryd.ntmps8
    go_upto_region 4 with (first | (go_at_call 32; refine HW.out.mono ?_; rintro e w1 ⟨A1, c1, rfl, o1, x1⟩) | fail)
    have hr := Rd.of_sl o1.bs.s
    have X1 := Kp.mk x1
    have C := Kp.mk (trim_left hr (by decide))
    clear hr o1 x1
    go_upto_region 5 with (first | (go_at_call 33; refine C.out.mono ?_; rintro e w2 ⟨A2, n2, c2, rfl, r2, rfl⟩) | fail)
    rw [HT.out] at r2
    have hs2 := r2.bs8
    obtain rfl : N = n2 := HSL.out.symm.trans hs2.len
    have HS := Kp.mk hs2
    clear hs2 r2
    by_cases h0 : N = 0
    · have hZ : Z = true := by rw [hz, decide_eq_true h0, Bool.true_or]
      have HLL : Kp (L = 0 :: S) := ⟨HZ.out.trans (by rw [hZ, if_pos rfl])⟩
      have b0 : ((N : Int) == 0) = true := beq_iff_eq.2 (by omega)
      have hL : L.length = N + 1 := by rw [HLL.out]; simp [HSL.out]
      clear hz hZ HZ h0
      go_wp2_with (first | (at_builtin; refine wpList_append_bs rfl (.tmp 24) (.tmp 25) rfl w2.heap.size _ 1 [0] rfl (Own.new w2 w2.heap.size 1 [0] rfl (Nat.le_refl _) (by decide)) A2 N c2 S rfl (HS.out.ext (by (repeat (first | assumption | exact Ext.refl _ | apply Ext.drew | apply Ext.drewN | apply Ext.alloc | refine Ext.trans ?_ (by assumption))); first | done | fail)) (by have := HK.out; omega) (N + 1) (by omega) (0 :: S) rfl w2 (by (repeat (first | assumption | exact Ext.refl _ | apply Ext.drew | apply Ext.drewN | apply Ext.alloc | refine Ext.trans ?_ (by assumption))); first | done | fail) (Nat.le_refl _) (by simp) ?_; intro A5 c5 w5 ho5 hx5 hap5) | fail)
      go_ret2
      refine .inr ⟨HL.out, ?_⟩
      try rw [hL]
      rw [HLL.out]
      exact ⟨A5, c5, rfl, ho5.bs, ho5.lower X1.out.size, X1.out.trans hx5⟩
    have b0 : ((N : Int) == 0) = false := beq_eq_false_iff_ne.2 (by omega)
    have hbz := belowZero_any HS.out (by omega)
    by_cases h128 : 128 ≤ (gb S 0).toNat
    · have hZ : Z = true := by rw [hz, decide_eq_true h128, Bool.or_true]
      have HLL : Kp (L = 0 :: S) := ⟨HZ.out.trans (by rw [hZ, if_pos rfl])⟩
      have hL : L.length = N + 1 := by rw [HLL.out]; simp [HSL.out]
      rw [decide_eq_true h128] at hbz
      have HB := Kp.mk hbz
      clear hz hZ HZ h0 h128 hbz
      go_wp2_with (first | (go_at_call 34; refine HB.out.mono ?_; rintro e w4 ⟨rfl, rfl⟩) | (at_builtin; refine wpList_append_bs rfl (.tmp 24) (.tmp 25) rfl w4.heap.size _ 1 [0] rfl (Own.new w4 w4.heap.size 1 [0] rfl (Nat.le_refl _) (by decide)) A2 N c2 S rfl (HS.out.ext (by (repeat (first | assumption | exact Ext.refl _ | apply Ext.drew | apply Ext.drewN | apply Ext.alloc | refine Ext.trans ?_ (by assumption))); first | done | fail)) (by have := HK.out; omega) (N + 1) (by omega) (0 :: S) rfl w4 (by (repeat (first | assumption | exact Ext.refl _ | apply Ext.drew | apply Ext.drewN | apply Ext.alloc | refine Ext.trans ?_ (by assumption))); first | done | fail) (Nat.le_refl _) (by simp) ?_; intro A5 c5 w5 ho5 hx5 hap5) | fail)
      go_ret2
      refine .inr ⟨HL.out, ?_⟩
      try rw [hL]
      rw [HLL.out]
      exact ⟨A5, c5, rfl, ho5.bs, ho5.lower X1.out.size, X1.out.trans hx5⟩
    · have hZ : Z = false := by rw [hz, decide_eq_false h128, decide_eq_false h0, Bool.or_false]
      have HLL : Kp (L = S) := ⟨HZ.out.trans (by rw [hZ, if_neg (by decide)])⟩
      have hL : L.length = N := by rw [HLL.out]; exact HSL.out
      rw [decide_eq_false h128] at hbz
      have HB := Kp.mk hbz
      have HC := Kp.mk (Clone_any HS.out (by have := HK.out; omega))
      clear hz hZ HZ h0 h128 hbz
      go_wp2_with (first | (go_at_call 34; refine HB.out.mono ?_; rintro e w4 ⟨rfl, rfl⟩) | (go_at_call 35; refine HC.out.mono ?_; rintro e w5 ⟨A5, c5, rfl, hs5, ho5, hx5⟩) | fail)
      go_ret2
      refine .inr ⟨HL.out, ?_⟩
      try rw [hL]
      rw [HLL.out]
      exact ⟨A5, c5, rfl, hs5, ho5.lower X1.out.size, X1.out.trans hx5⟩
end Go.Proofs.YtfipgmjaabggjaaDoor
namespace Go.Proofs.YtfipgmjaabggjaaDoor
open Go Go.RowKit
set_option maxRecDepth 4000

theorem tcB_nil : tcB [] = false := rfl
/-- may the body be a long number's? -/
def bigB (b : List (BitVec 8)) : Bool := tcB b && !decide (128 ≤ (gb b 0).toNat)
set_option maxHeartbeats 2000000 in
theorem ReadBig_any {b : List (BitVec 8)} {A : Option Addr} {n c : Nat} {w : World} (h : Bs w A n c b) (hn : n ≤ 1000000) : Calls Tryd.prog 11 #[.slice A n c] w fun e w' =>
    (bigB b = false ∧ Bad1 w 2 e w') ∨ (bigB b = true ∧ ReadR w (b.map BitVec.toNat) e w') := by
  have hN := isNumber_any h
  have hB : bigB b = (tcB b && !decide (128 ≤ (gb b 0).toNat)) := rfl
  cases ht : tcB b with
  | false =>
    rw [ht] at hN hB
    have HN := Kp.mk hN
    have HB := Kp.mk hB
    clear hN hB ht h
    generalize bigB b = Z at *
    go_enter Tryd.func11, Tryd.ntmps11
    go_wp2_with (first | (go_at_call 37; refine HN.out.mono ?_; rintro e w1 ⟨rfl, rfl⟩) | fail)
    go_ret2
    exact .inl ⟨by rw [HB.out]; rfl, rfl, Ext.refl _⟩
  | true =>
    have h0 : 0 < n := by
      rcases Nat.eq_zero_or_pos n with e | e
      · have : b = [] := List.eq_nil_of_length_eq_zero (by rw [h.len, e])
        rw [this, tcB_nil] at ht
        cases ht
      · exact e
    have hZ := belowZero_any h h0
    rw [ht] at hN hB
    have HN := Kp.mk hN
    have HB := Kp.mk hB
    have HR := Kp.mk (Rd.of_sl h.s)
    have HD := Kp.mk (Dg.of_bytes b)
    clear hN hB ht h
    by_cases h128 : 128 ≤ (gb b 0).toNat
    · rw [decide_eq_true h128] at hZ HB
      have HZ := Kp.mk hZ
      clear hZ h128
      generalize bigB b = Z at *
      go_enter Tryd.func11, Tryd.ntmps11
      go_wp2_with (first | (go_at_call 37; refine HN.out.mono ?_; rintro e w1 ⟨rfl, rfl⟩) | (go_at_call 34; refine HZ.out.mono ?_; rintro e w2 ⟨rfl, rfl⟩) | fail)
      go_ret2
      exact .inl ⟨by rw [HB.out]; rfl, rfl, Ext.refl _⟩
    · rw [decide_eq_false h128] at hZ HB
      have HZ := Kp.mk hZ
      have HRd := Kp.mk (Read_any HR.out HD.out hn)
      rw [ReadR_eq] at HRd ⊢
      clear hZ h128 HR HD
      generalize bigB b = Z at *
      generalize vl 256 (List.reverse (List.map BitVec.toNat b)) = V at *
      go_enter Tryd.func11, Tryd.ntmps11
      go_wp2_with (first | (go_at_call 37; refine HN.out.mono ?_; rintro e w1 ⟨rfl, rfl⟩) | (go_at_call 34; refine HZ.out.mono ?_; rintro e w2 ⟨rfl, rfl⟩) | fail)
      refine HRd.out.mono ?_
      rintro e w3 (⟨q1, rfl, x1⟩ | ⟨q1, A3, n3, c3, rfl, r3, x3⟩)
      · have X1 := Kp.mk x1
        have Q1 := Kp.mk q1
        clear x1 q1
        go_wp2_with fail
        go_ret2
        exact .inr ⟨by rw [HB.out]; rfl, .inl ⟨Q1.out, rfl, X1.out⟩⟩
      · have X3 := Kp.mk x3
        have Q1 := Kp.mk q1
        have R3 := Kp.mk r3
        clear x3 q1 r3
        go_wp2_with fail
        go_ret2
        exact .inr ⟨by rw [HB.out]; rfl, .inr ⟨Q1.out, A3, n3, c3, rfl, R3.out, X3.out⟩⟩
set_option maxHeartbeats 2000000 in
theorem refBig_any {A : Option Addr} {n c v : Nat} {w : World} (h : Nv w A n c v) (hl : ¬ lng v) : Calls Tryd.prog 10 #[.slice A n c] w fun e w' =>
    ∃ A' c', e = .returned (.slice A' (bigL v).length c') ∧ Bs w' A' (bigL v).length c' (bigL v) ∧ Ext w w' := by
  have HO := Kp.mk (OfV h)
  have hk := lng_nb hl
  have hS := fun (W : World) (A2 : Option Addr) (n2 c2 : Nat) (r : Rd vI W A2 n2 c2 (dgs 65536 v)) (hn : n2 ≤ 1000000000000) => Size_any r hn
  have hW := fun (W : World) (A2 : Option Addr) (n2 c2 : Nat) (r : Rd vI W A2 n2 c2 (dgs 65536 v)) => refWrite_any r (Nat.le_refl _) hk
  rw [sz_nb] at hS
  have hlen : ∀ (W : World) (A2 : Option Addr) (n2 c2 : Nat), Rd vI W A2 n2 c2 (dgs 65536 v) → n2 ≤ 256 := fun W A2 n2 c2 r => by
    have h1 := r.len
    have h2 := sz_nb v
    unfold sz at h2
    split at h2 <;> omega
  have HS := Kp.mk hS
  have HW := Kp.mk hW
  have HLn := Kp.mk hlen
  have HZ := Kp.mk (show bigL v = if bigZ v then 0 :: sml v else sml v from rfl)
  have hz : bigZ v = (decide (nb v = 0) || decide (128 ≤ (gb (sml v) 0).toNat)) := rfl
  have hsl := sml_len v
  have hto : toB v (nb v) = sml v := rfl
  unfold WriteB at HW
  rw [hto] at HW
  unfold FreshN at HO
  clear hS hW hlen hto h hl
  generalize bigL v = L at *
  generalize bigZ v = Z at *
  generalize sml v = S at *
  generalize nb v = N at *
  generalize dgs 65536 v = DG at *
  have HK := Kp.mk hk
  have HSL := Kp.mk hsl
  clear hk hsl
  go_enter Tryd.func10, Tryd.ntmps10
  go_upto_region 2 with (first | (go_at_call 21; refine HO.out.mono ?_; rintro e w1 ⟨A1, n1, c1, rfl, r1, _, x1⟩) | fail)
  have hn1 := HLn.out _ _ _ _ r1
  have HS1 := Kp.mk (HS.out _ _ _ _ r1 (by omega))
  have HW1 := Kp.mk (HW.out _ _ _ _ r1)
  have X1 := Kp.mk x1
  clear r1 x1 hn1
  go_upto_region 3 with (first | (go_at_call 14; refine HS1.out.mono ?_; rintro e w2 ⟨rfl, rfl⟩) | (go_at_call 36; refine HW1.out.mono ?_; rintro e w3 ⟨A3, c3, rfl, o3, x3⟩) | fail)
  have X3 := Kp.mk (X1.out.trans x3)
  have HS3 := Kp.mk o3.bs
  clear x3 o3
  by_cases h0 : N = 0
  · have hZ : Z = true := by rw [hz, decide_eq_true h0, Bool.true_or]
    have HLL : Kp (L = 0 :: S) := ⟨HZ.out.trans (by rw [hZ, if_pos rfl])⟩
    have b0 : ((N : Int) == 0) = true := beq_iff_eq.2 (by omega)
    have HLn : Kp (L.length = N + 1) := ⟨by rw [HLL.out]; simp [HSL.out]⟩
    clear hz hZ HZ h0
    go_wp2_with (first | (at_builtin; refine wpList_append_bs rfl (.tmp 24) (.tmp 25) rfl w3.heap.size _ 1 [0] rfl (Own.new w3 w3.heap.size 1 [0] rfl (Nat.le_refl _) (by decide)) A3 N c3 S rfl (HS3.out.ext (by (repeat (first | assumption | exact Ext.refl _ | apply Ext.drew | apply Ext.drewN | apply Ext.alloc | refine Ext.trans ?_ (by assumption))); first | done | fail)) (by have := HK.out; omega) (N + 1) (by omega) (0 :: S) rfl w3 (by (repeat (first | assumption | exact Ext.refl _ | apply Ext.drew | apply Ext.drewN | apply Ext.alloc | refine Ext.trans ?_ (by assumption))); first | done | fail) (Nat.le_refl _) (by simp) ?_; intro A5 c5 w5 ho5 hx5 hap5) | fail)
    go_ret
    rw [HLn.out, HLL.out]
    exact ⟨A5, c5, rfl, ho5.bs, X3.out.trans hx5⟩
  have b0 : ((N : Int) == 0) = false := beq_eq_false_iff_ne.2 (by omega)
  obtain ⟨g, o, rfl, hc⟩ := HS3.out.s.2.2.2 (by omega)
  have c0 := hc 0 (by omega)
  rw [Nat.add_zero] at c0
  unfold ub at c0
  have b1 : (0 : Int) < (N : Int) := by omega
  clear hc
  by_cases h128 : 128 ≤ (gb S 0).toNat
  · have hZ : Z = true := by rw [hz, decide_eq_true h128, Bool.or_true]
    have HLL : Kp (L = 0 :: S) := ⟨HZ.out.trans (by rw [hZ, if_pos rfl])⟩
    have HLn : Kp (L.length = N + 1) := ⟨by rw [HLL.out]; simp [HSL.out]⟩
    have g1 : (128 : Int) ≤ ((gb S 0).toNat : Int) := by omega
    clear hz hZ HZ h0 h128
    generalize (gb S 0).toNat = z at *
    go_wp2_with (first | (at_builtin; refine wpList_append_bs rfl (.tmp 24) (.tmp 25) rfl w3.heap.size _ 1 [0] rfl (Own.new w3 w3.heap.size 1 [0] rfl (Nat.le_refl _) (by decide)) (some ⟨g, o, none⟩) N c3 S rfl (HS3.out.ext (by (repeat (first | assumption | exact Ext.refl _ | apply Ext.drew | apply Ext.drewN | apply Ext.alloc | refine Ext.trans ?_ (by assumption))); first | done | fail)) (by have := HK.out; omega) (N + 1) (by omega) (0 :: S) rfl w3 (by (repeat (first | assumption | exact Ext.refl _ | apply Ext.drew | apply Ext.drewN | apply Ext.alloc | refine Ext.trans ?_ (by assumption))); first | done | fail) (Nat.le_refl _) (by simp) ?_; intro A5 c5 w5 ho5 hx5 hap5) | fail)
    go_ret
    rw [HLn.out, HLL.out]
    exact ⟨A5, c5, rfl, ho5.bs, X3.out.trans hx5⟩
  · have hZ : Z = false := by rw [hz, decide_eq_false h128, decide_eq_false h0, Bool.or_false]
    have HLL : Kp (L = S) := ⟨HZ.out.trans (by rw [hZ, if_neg (by decide)])⟩
    have HLn : Kp (L.length = N) := ⟨by rw [HLL.out]; exact HSL.out⟩
    have g1 : ¬ ((128 : Int) ≤ ((gb S 0).toNat : Int)) := by omega
    clear hz hZ HZ h0 h128
    generalize (gb S 0).toNat = z at *
    go_wp2_with fail
    go_ret
    rw [HLn.out, HLL.out]
    exact ⟨_, c3, rfl, HS3.out, X3.out⟩
end Go.Proofs.YtfipgmjaabggjaaDoor
namespace Go.Proofs.YtfipgmjaabggjaaDoor
open Go Go.RowKit
set_option maxRecDepth 4000

set_option maxHeartbeats 1000000 in
theorem Bytes_any {l : List Nat} {A : Option Addr} {n c : Nat} {w : World} (h : Rd vB w A n c l) (hd : Dg 256 l) (hn : n ≤ 1000000000000) :
    Calls Tryd.prog 13 #[.slice A n c] w (FreshN w (vl 256 l.reverse)) := by
  have hlen := h.len
  obtain ⟨r, hr⟩ : ∃ r, l.reverse = r := ⟨_, rfl⟩
  have hrl : r.length = n := by rw [← hr, List.length_reverse, hlen]
  have hdr : Dg 256 r := by rw [← hr]; exact hd.rev
  have hat : ∀ i, i < n → dg l (n - 1 - i) = dg r i := fun i hi => by rw [← hr, dg_rev l i (by omega), hlen]
  rw [hr]
  have HR := Kp.mk h
  have HD := Kp.mk hdr
  have HAT := Kp.mk hat
  clear h hd hr hdr hat
  go_enter Tryd.func13, Tryd.ntmps13
  go_wp2_with fail
  go_loopw [3, 4] (fun ov iv wr => ∃ j : Nat, 2 * j ≤ n + 1 ∧ iv = .int .i64 ((n : Int) - 1 - 2 * (j : Int)) ∧ (∃ A c, ov = .slice A j c) ∧ Rn wr w.heap.size ov j (jn 256 (r.take (2 * j))) ∧ Ext w wr) (fun _ i _ => (intOf i + 3).toNat)
  case atStart => exact ⟨0, by omega, by go_num, ⟨_, _, rfl⟩, Rw.nil _ _, Ext.refl _⟩
  case round =>
    obtain ⟨j, hj, rfl, ⟨Ao, co, rfl⟩, ho, hx⟩ := hrel
    by_cases hlt : 2 * j < n
    · obtain ⟨g, o, rfl⟩ := HR.out.some_ (by omega)
      obtain ⟨i, hi⟩ : ∃ i : Nat, n - 1 - 2 * j = i := ⟨_, rfl⟩
      have e0 : (n : Int) - 1 - 2 * (j : Int) = (i : Int) := by omega
      rw [e0]
      have k1 : wr.cell? ⟨g, o + i, none⟩ = some (.int .u8 (dg l i : Int)) := (HR.out.ext hx).dig i (by omega)
      have ha := HAT.out (2 * j) hlt
      rw [hi] at ha
      rw [ha] at k1
      have h1 := HD.out.at (by decide) (2 * j)
      have b0 : (i : Int) < (n : Int) := by omega
      have HRO := Kp.mk ho
      have HX := Kp.mk hx
      have HE := Kp.mk (And.intro hi e0)
      by_cases h2 : 2 * j + 1 < n
      · obtain ⟨k, hk⟩ : ∃ k, i = k + 1 := ⟨i - 1, by omega⟩
        have k2 : wr.cell? ⟨g, o + k, none⟩ = some (.int .u8 (dg l k : Int)) := (HR.out.ext hx).dig k (by omega)
        have ha2 := HAT.out (2 * j + 1) h2
        rw [show n - 1 - (2 * j + 1) = k by omega] at ha2
        rw [ha2] at k2
        have h3 := HD.out.at (by decide) (2 * j + 1)
        have HT := Kp.mk (jn_take2 256 r j (by omega))
        have HK := Kp.mk hk
        have b2 : (k : Int) < (n : Int) := by omega
        have e1 : (i : Int) - 1 = (k : Int) := by omega
        have g1 : (0 : Int) < (i : Int) := by omega
        have g2 : 0 < i := by omega
        clear hk
        clear ho hx hi e0 ha ha2
        generalize dg r (2 * j) = x at *
        generalize dg r (2 * j + 1) = y at *
        obtain ⟨z, hz⟩ : ∃ z : Nat, x + y * 256 = z := ⟨_, rfl⟩
        obtain ⟨v, hv⟩ : ∃ v : Nat, y * 256 = v := ⟨_, rfl⟩
        have e6 : (y : Int) * 256 = (v : Int) := by omega
        have e5 : (x : Int) + (v : Int) = (z : Int) := by omega
        have b6 : (v : Int) < 65536 := by omega
        have b5 : (z : Int) < 65536 := by omega
        have b7 : (x : Int) < 256 := by omega
        have b8 : (y : Int) < 256 := by omega
        rw [hz] at HT
        clear hz hv
        go_wp2_with (first | (at_builtin; refine wpList_append_I rfl (.tmp 29) (.tmp 31) rfl w.heap.size (.slice Ao j co) j _ rfl (HRO.out.ext (by (repeat (first | assumption | exact Ext.refl _ | apply Ext.drew | apply Ext.drewN | apply Ext.alloc | refine Ext.trans ?_ (by assumption))); first | done | fail)) _ 1 1 [z] rfl (lit1 _ _ _ rfl) (by omega) (j + 1) rfl _ HT.out.symm w (HX.out.trans (by (repeat (first | assumption | exact Ext.refl _ | apply Ext.drew | apply Ext.drewN | apply Ext.alloc | refine Ext.trans ?_ (by assumption))); first | done | fail)) (Nat.le_refl _) (HX.out.trans (by (repeat (first | assumption | exact Ext.refl _ | apply Ext.drew | apply Ext.drewN | apply Ext.alloc | refine Ext.trans ?_ (by assumption))); first | done | fail)).size ?_; intro A5 c5 w5 ho5 hx5 _) | fail)
        go_roundw
        case rel => have hi := HE.out; have hk := HK.out; exact ⟨j + 1, by omega, by go_num, ⟨_, _, rfl⟩, ho5, hx5⟩
        case measure => have hi := HE.out; have hk := HK.out; simp [intOf]; omega
      · have HT := Kp.mk (jn_take1 256 r j (by omega))
        obtain rfl : i = 0 := by omega
        rw [Nat.add_zero] at k1
        rw [show ((0 : Nat) : Int) = 0 from rfl] at b0 ⊢
        clear ho hx hi e0 ha
        generalize dg r (2 * j) = x at *
        have b7 : (x : Int) < 256 := by omega
        go_wp2_with (first | (at_builtin; refine wpList_append_I rfl (.tmp 29) (.tmp 31) rfl w.heap.size (.slice Ao j co) j _ rfl (HRO.out.ext (by (repeat (first | assumption | exact Ext.refl _ | apply Ext.drew | apply Ext.drewN | apply Ext.alloc | refine Ext.trans ?_ (by assumption))); first | done | fail)) _ 1 1 [x] rfl (lit1 _ _ _ (by first | rfl | omega)) (by omega) (j + 1) rfl _ HT.out.symm w (HX.out.trans (by (repeat (first | assumption | exact Ext.refl _ | apply Ext.drew | apply Ext.drewN | apply Ext.alloc | refine Ext.trans ?_ (by assumption))); first | done | fail)) (Nat.le_refl _) (HX.out.trans (by (repeat (first | assumption | exact Ext.refl _ | apply Ext.drew | apply Ext.drewN | apply Ext.alloc | refine Ext.trans ?_ (by assumption))); first | done | fail)).size ?_; intro A5 c5 w5 ho5 hx5 _) | fail)
        go_roundw
        case rel => have hi := HE.out; exact ⟨j + 1, by omega, by go_num, ⟨_, _, rfl⟩, ho5, hx5⟩
        case measure => simp [intOf]
    · rw [List.take_of_length_le (by omega)] at ho
      have b0 : decide ((0 : Int) ≤ (n : Int) - 1 - 2 * (j : Int)) = false := decide_eq_false (by omega)
      have C := Kp.mk (FreshN.of_trim (v := vl 256 r) ho (jn_dg (by decide) HD.out) (by omega) (jn_vl 256 r) hx)
      clear ho hx
      generalize (n : Int) - 1 - 2 * (j : Int) = y at *
      go_wp2_with fail
      refine C.out.mono ?_
      rintro e w2 ⟨A2, n2, c2, rfl, hr2, ho2, hx2⟩
      go_wp2_with fail
      go_ret
      exact ⟨A2, n2, c2, rfl, hr2, ho2, hx2⟩
end Go.Proofs.YtfipgmjaabggjaaDoor
