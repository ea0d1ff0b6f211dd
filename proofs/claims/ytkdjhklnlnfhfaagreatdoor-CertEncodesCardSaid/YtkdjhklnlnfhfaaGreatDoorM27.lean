/-
  nat: Read.
  prim.Big, prim.ReadBig; the reference's Big.
  prim.ReadBig; the reference's Big.
  prim: isOid; the reference's Oid.
-/
import Derived.Test.YtkdjhklnlnfhfaaGreatDoorM26
import Derived.Test.YtkdjhklnlnfhfaaGreatDoorM7
import Derived.Test.YtkdjhklnlnfhfaaGreatDoorM4
import Derived.Test.YtkdjhklnlnfhfaaGreatDoorM8
import Derived.Test.YtkdjhklnlnfhfaaGreatDoorM14
namespace Go.Proofs.YtkdjhklnlnfhfaaGreatDoor
open Go Go.RowKit
set_option maxRecDepth 4000

theorem Dg.dropW {B : Nat} {l : List Nat} (h : Dg B l) (p : Nat → Bool) : Dg B (l.dropWhile p) := fun d hd => h d (List.dropWhile_sublist p |>.mem hd)
set_option maxHeartbeats 2000000 in
theorem Read_any {l : List Nat} {A : Option Addr} {n c : Nat} {w : World} (h : Rd vB w A n c l) (hd : Dg 256 l) (hn : n ≤ 1000000) :
    Calls Tryz.prog 122 #[.slice A n c] w (ReadR w l) := by
  have C := Kp.mk (trim_left h (by omega))
  have hnl := h.len
  have hle : (l.dropWhile (· == 0)).length ≤ n := by rw [← hnl]; exact (List.dropWhile_sublist _).length_le
  have ht := drop_top l
  have hv := vl_rev_drop 256 l
  have hdd := (hd.dropW (· == 0)).rev
  have hat : ∀ i, i < (l.dropWhile (· == 0)).length → dg (l.dropWhile (· == 0)) ((l.dropWhile (· == 0)).length - 1 - i) = dg (l.dropWhile (· == 0)).reverse i := fun i hi => by rw [dg_rev _ i hi]
  have hrl : (l.dropWhile (· == 0)).reverse.length = (l.dropWhile (· == 0)).length := List.length_reverse
  have hvv := hv
  generalize (l.dropWhile (· == 0)).reverse = r at *
  generalize l.dropWhile (· == 0) = L at *
  have HAT := Kp.mk hat
  have HD := Kp.mk hdd
  have HT := Kp.mk ht
  clear h hd hv hat hdd ht hnl
  go_enter Tryz.func122, Tryz.ntmps122
  go_wp2_with fail
  refine C.out.mono ?_
  rintro e w1 ⟨A1, m, c1, rfl, h1, rfl⟩
  have hm := h1.len
  have HR := Kp.mk h1
  clear h1 C
  have hli := long_iff HD.out HT.out
  by_cases hlong : m ≤ 256
  · have hlt : vl 256 r < 256 ^ 256 := hli.1 (by omega)
    have HLT := Kp.mk hlt
    have bl : decide ((256 : Int) < (m : Int)) = false := decide_eq_false (by omega)
    obtain ⟨K, hK⟩ : ∃ K, K = (m + 3) / 4 := ⟨_, rfl⟩
    have q0 : ((m : Int) + 3) / 4 = (K : Int) := by omega
    have q1 : ((m : Int) + 4 - 1) / 4 = (K : Int) := by omega
    have hmk := run_makeL K (K : Int) rfl (by omega)
    have HST := Kp.mk (RdS.start r K)
    have HL0 := Kp.mk (Lb.new w1 (zl K))
    have HKK := Kp.mk hK
    have hKb : K ≤ 64 := by omega
    rw [show List.replicate K 0 = zl K from rfl] at HST
    clear hli hlt hlong hK
    generalize zl K = Z at *
    go_wp2_with fail
    go_loopw [20] (fun iv wr => ∃ (i : Nat) (S : List Nat), i ≤ m ∧ iv = .int .i64 (i : Int) ∧ RdS r K i S ∧ Lb wr w1.heap.size S ∧ Ext w1 wr) (fun iv _ => m - (intOf iv).toNat)
    case atStart => exact ⟨0, Z, by omega, rfl, HST.out, HL0.out, (by (repeat (first | assumption | exact Ext.refl _ | apply Ext.drew | apply Ext.drewN | apply Ext.alloc | refine Ext.trans ?_ (by assumption))); first | done | fail)⟩
    case round =>
      obtain ⟨i, S, hi, rfl, hs, hL, hx⟩ := hrel
      have hKK := HKK.out
      by_cases hlt : i < m
      · obtain ⟨g, o, rfl⟩ := HR.out.some_ (by omega)
        obtain ⟨j, hj⟩ : ∃ j, m - 1 - i = j := ⟨_, rfl⟩
        have kb := (HR.out.ext hx).dig j (by omega)
        unfold vB at kb
        have ha := HAT.out i (by omega)
        rw [hm, hj] at ha
        rw [ha] at kb
        obtain ⟨q, hq⟩ : ∃ q, i / 4 = q := ⟨_, rfl⟩
        obtain ⟨s, hs4⟩ : ∃ s, i % 4 = s := ⟨_, rfl⟩
        have hiq : i = 4 * q + s := by omega
        have hs3 : s < 4 := by omega
        have hqK : q < K := by omega
        have k3 := Lb.cell hL q (by rw [hs.len]; exact hqK)
        have k4 := Lb.free hL q
        have hlow := hs.low HD.out hiq (by omega) hqK
        have hy := HD.out.at (by decide) i
        have HNX := Kp.mk (hs.next HD.out hiq hs3 (by omega) hqK)
        have HSET := Kp.mk (fun z => Lb.set hL q z)
        have HX := Kp.mk hx
        generalize dg r i = y at *
        generalize dg S q = x at *
        obtain ⟨E, hE⟩ : ∃ E, 8 * s = E := ⟨_, rfl⟩
        rw [hE] at hlow HNX
        have hE24 : E ≤ 24 := by omega
        have hp24 : 2 ^ E ≤ 2 ^ 24 := Nat.pow_le_pow_right (by decide) hE24
        obtain ⟨p, hp⟩ : ∃ p, 2 ^ E = p := ⟨_, rfl⟩
        have hyp : y * p ≤ 255 * 16777216 := Nat.mul_le_mul (by omega) (by rw [← hp]; exact hp24)
        have eor : x ||| y * p = y * p + x := by rw [← hp]; exact or_low x y E hlow
        have c1 : (y : Int) * 2 ^ E = ((y * p : Nat) : Int) := by rw [← hp]; simp
        have c2 : ((2 : Int) ^ E) = (p : Int) := by rw [← hp]; simp
        rw [hp] at hlow HNX
        obtain ⟨Y, hY⟩ : ∃ Y, y * p = Y := ⟨_, rfl⟩
        rw [hY] at eor c1 hyp HNX
        have c3 : (y : Int) * (p : Int) = (Y : Int) := by rw [← hY]; simp
        have c4 : IntKind.u32.wrap (Y : Int) = (Y : Int) := by rw [IntKind.wrap_u32]; omega
        have c5 := or32 x Y (by omega) (by omega)
        rw [eor] at c5
        obtain ⟨T, hT⟩ : ∃ T, Y + x = T := ⟨_, rfl⟩
        rw [hT] at c5 HNX
        have d0 : (i : Int) < (m : Int) := by omega
        have d1 : (i : Int) / 4 = (q : Int) := by omega
        have d2 : (i : Int) % 4 = (s : Int) := by omega
        have d3 : (m : Int) - 1 - (i : Int) = (j : Int) := by omega
        have d4 : (s : Int) * 8 = (E : Int) := by omega
        have d5 : (q : Int) < (K : Int) := by omega
        have d6 : (j : Int) < (m : Int) := by omega
        have d7 : (i : Int) < 300 := by omega
        have d8 : (E : Int) < 32 := by omega
        have w1' : IntKind.i64.wrap ((m : Int) - 1) = (m : Int) - 1 := by rw [IntKind.wrap_i64]; omega
        have w2' : IntKind.i64.wrap ((m : Int) - 1 - (i : Int)) = (j : Int) := by rw [IntKind.wrap_i64]; omega
        have w3' : IntKind.i64.wrap ((s : Int) * 8) = (E : Int) := by rw [IntKind.wrap_i64]; omega
        have w4' : (i : Int).tdiv 4 = (q : Int) := by rw [Int.tdiv_eq_ediv_of_nonneg (by omega)]; exact d1
        have w5' : (i : Int).tmod 4 = (s : Int) := by rw [Int.tmod_eq_emod_of_nonneg (by omega)]; exact d2
        have wj' : IntKind.i64.wrap (j : Int) = (j : Int) := by rw [IntKind.wrap_i64]; omega
        have wE' : IntKind.i64.wrap (E : Int) = (E : Int) := by rw [IntKind.wrap_i64]; omega
        have wm' : IntKind.i64.wrap (m : Int) = (m : Int) := by rw [IntKind.wrap_i64]; omega
        have w6' : IntKind.i64.wrap (q : Int) = (q : Int) := by rw [IntKind.wrap_i64]; omega
        have w7' : IntKind.i64.wrap (s : Int) = (s : Int) := by rw [IntKind.wrap_i64]; omega
        clear hs hL hx ha hj hq hs4 hlow hE hp hY hT eor hp24 hKK hm hrl hle q0 q1 hvv hiq
        go_wp2_with fail
        go_region
        go_wp2_with fail
        go_roundw
        case rel => exact ⟨i + 1, _, by omega, by go_num, HNX.out, (HSET.out T).ext (Ext.refl _).drew, (HX.out.setCell (p := ⟨w1.heap.size, q, none⟩) (Nat.le_refl _) _).drew⟩
        case measure => simp [intOf]; omega
      · obtain rfl : i = m := by omega
        have hcn := RdS.cn (r := r) (K := K) (L := S) (by rw [hrl, hm]; exact hs) (by rw [hrl, hm]; exact hKK) HT.out HD.out
        have HF := Kp.mk (show ReadR w1 l (.returned (.tuple #[.slice (some ⟨w1.heap.size, 0, none⟩) K K, .nilIface])) wr from
          .inr ⟨by rw [← hvv]; exact HLT.out, _, _, _, rfl, by rw [← hvv, ← hcn]; exact Lb.own hL (Nat.le_refl _) hs.len (by unfold maxLen; omega), hx⟩)
        clear hs hL hx hcn hKK hm hrl hle q0 q1 hvv
        go_wp2_with fail
        go_ret2
        exact HF.out
  · have hge : 256 ^ 256 ≤ vl 256 r := Nat.le_of_not_lt fun h => hlong (by rw [← hm, ← hrl]; exact hli.2 h)
    have bl : decide ((256 : Int) < (m : Int)) = true := decide_eq_true (by omega)
    have HGE := Kp.mk hge
    clear hli hge
    go_wp2_with fail
    go_ret2
    exact .inl ⟨by rw [← hvv]; exact HGE.out, rfl, Ext.refl _⟩
theorem ReadR_eq (w : World) (l : List Nat) : ReadR w l = fun e w' => (256 ^ 256 ≤ vl 256 l.reverse ∧ Bad1 w 4 e w') ∨ (vl 256 l.reverse < 256 ^ 256 ∧ Ok1 w (vl 256 l.reverse) e w') := rfl
end Go.Proofs.YtkdjhklnlnfhfaaGreatDoor
namespace Go.Proofs.YtkdjhklnlnfhfaaGreatDoor
open Go Go.RowKit
set_option maxRecDepth 4000

theorem toB_cons (v k : Nat) : toB v (k + 1) = BitVec.ofNat 8 (v / 256 ^ k) :: toB v k := by
  unfold toB
  rw [List.range_succ_eq_map, List.map_cons, List.map_map]
  refine congr (congrArg List.cons ?_) ?_
  · rw [show k + 1 - 1 - 0 = k by omega]
  · refine List.map_congr_left fun j _ => ?_
    show BitVec.ofNat 8 (v / 256 ^ (k + 1 - 1 - (j + 1))) = BitVec.ofNat 8 (v / 256 ^ (k - 1 - j))
    rw [show k + 1 - 1 - (j + 1) = k - 1 - j by omega]
/-- the bytes without noughts ahead -/
def sml (v : Nat) : List (BitVec 8) := toB v (nb v)
theorem sml_len (v : Nat) : (sml v).length = nb v := toB_len _ _
theorem trim_toB (v : Nat) : ∀ k, nb v ≤ k → ((toB v k).map BitVec.toNat).dropWhile (· == 0) = (sml v).map BitVec.toNat
  | 0, h => by
    have e : nb v = 0 := by omega
    unfold sml
    rw [e]
    rfl
  | k + 1, h => by
    by_cases hk : nb v ≤ k
    · have h1 := (nb_iff v k).1 hk
      rw [toB_cons, Nat.div_eq_of_lt h1, List.map_cons, List.dropWhile_cons_of_pos (by rfl)]
      exact trim_toB v k hk
    · have e : nb v = k + 1 := by omega
      have h1 := (nb_iff v (k + 1)).1 h
      have h2 : 256 ^ k ≤ v := Nat.le_of_not_lt fun h => hk ((nb_iff v k).2 h)
      have h3 : v / 256 ^ k < 256 := by rw [Nat.div_lt_iff_lt_mul (Nat.pow_pos (by decide)), Nat.mul_comm, ← Nat.pow_succ]; exact h1
      have h4 : 0 < v / 256 ^ k := Nat.div_pos h2 (Nat.pow_pos (by decide))
      unfold sml
      rw [e, toB_cons, List.map_cons, List.dropWhile_cons_of_neg (by
        rw [BitVec.toNat_ofNat, Nat.mod_eq_of_lt (by omega), beq_iff_eq]
        omega)]
/-- is a 0 ahead needed? -/
def bigZ (v : Nat) : Bool := decide (nb v = 0) || decide (128 ≤ (gb (sml v) 0).toNat)
def bigL (v : Nat) : List (BitVec 8) := if bigZ v then 0 :: sml v else sml v
theorem Rd.bs8 {w : World} {A : Option Addr} {n c : Nat} {l : List (BitVec 8)} (h : Rd vB w A n c (l.map BitVec.toNat)) : Bs w A n c l := by
  have hl : l.length = n := by have := h.len; rwa [List.length_map] at this
  refine ⟨hl, h.cap, h.nul, fun hn => ?_⟩
  obtain ⟨g, o, e, hc⟩ := h.at_ hn
  refine ⟨g, o, e, fun j hj => ?_⟩
  rw [hc j (gb l j).toNat (by rw [List.getElem?_map, List.getElem?_eq_getElem (by omega)]; simp [gb, show j < l.length by omega])]
  rfl
theorem lng_nb {v : Nat} (h : ¬ lng v) : nb v ≤ 256 := Nat.le_of_not_lt fun e => h ((nb_lng v).1 e)
set_option maxHeartbeats 4000000 in
theorem Big_any {A : Option Addr} {n c v : Nat} {w : World} (h : Nv w A n c v) : Calls Tryz.prog 131 #[.slice A n c] w fun e w' =>
    (lng v ∧ Bad1 w 4 e w') ∨ (¬ lng v ∧ FreshE w (bigL v).length (bigL v) e w') := by
  obtain ⟨a, ha, rfl⟩ := h
  generalize hv : vl BB a = v
  by_cases hl : lng v
  · as_aux_lemma =>
    have HW := Kp.mk (Write_long ha (by rw [hv]; exact hl) 256)
    have HL := Kp.mk hl
    clear hl ha hv
    go_enter Tryz.func131, Tryz.ntmps131
    go_wp2_with (first | (go_at_call 124; refine HW.out.mono ?_; rintro e w1 ⟨rfl, x1⟩) | fail)
    go_ret2
    exact .inl ⟨HL.out, rfl, x1⟩
  · as_aux_lemma =>
    have hk := lng_nb hl
    have hw := Write_ok ha (by rw [hv]; exact hl) 256 (by rw [hv]; exact hk) (Nat.le_refl _)
    rw [hv] at hw
    have HW := Kp.mk hw
    have HL := Kp.mk hl
    have ht := trim_toB v 256 hk
    have HT := Kp.mk ht
    have HZ := Kp.mk (show bigL v = if bigZ v then 0 :: sml v else sml v from rfl)
    have hz : bigZ v = (decide (nb v = 0) || decide (128 ≤ (gb (sml v) 0).toNat)) := rfl
    have hsl := sml_len v
    generalize bigL v = L at *
    generalize bigZ v = Z at *
    generalize sml v = S at *
    generalize nb v = N at *
    clear hw hl ha hv ht
    have HK := Kp.mk hk
    have HSL := Kp.mk hsl
    clear hk hsl
    go_enter Tryz.func131, Tryz.ntmps131
    go_upto_region 4 with (first | (go_at_call 124; refine HW.out.mono ?_; rintro e w1 ⟨A1, c1, rfl, o1, x1⟩) | fail)
    have hr := Rd.of_sl o1.bs.s
    have X1 := Kp.mk x1
    have C := Kp.mk (trim_left hr (by decide))
    clear hr o1 x1
    go_upto_region 5 with (first | (go_at_call 168; refine C.out.mono ?_; rintro e w2 ⟨A2, n2, c2, rfl, r2, rfl⟩) | fail)
    rw [HT.out] at r2
    have hs2 := r2.bs8
    obtain rfl : N = n2 := HSL.out.symm.trans hs2.len
    have HS := Kp.mk hs2
    clear hs2 r2
    by_cases h0 : N = 0
    · have hZ : Z = true := by rw [hz, decide_eq_true h0, Bool.true_or]
      have HLL : Kp (L = 0 :: S) := ⟨HZ.out.trans (by rw [hZ, if_pos rfl])⟩
      have b0 : ((N : Int) == 0) = true := beq_iff_eq.2 (by omega)
      have hL : L.length = N + 1 := by rw [HLL.out]; simp [HSL.out]
      clear hz hZ HZ h0
      go_wp2_with (first | (at_builtin; refine wpList_append_bs rfl (.tmp 24) (.tmp 25) rfl w2.heap.size _ 1 [0] rfl (Own.new w2 w2.heap.size 1 [0] rfl (Nat.le_refl _) (by decide)) A2 N c2 S rfl (HS.out.ext (by (repeat (first | assumption | exact Ext.refl _ | apply Ext.drew | apply Ext.drewN | apply Ext.alloc | refine Ext.trans ?_ (by assumption))); first | done | fail)) (by have := HK.out; omega) (N + 1) (by omega) (0 :: S) rfl w2 (by (repeat (first | assumption | exact Ext.refl _ | apply Ext.drew | apply Ext.drewN | apply Ext.alloc | refine Ext.trans ?_ (by assumption))); first | done | fail) (Nat.le_refl _) (by simp) ?_; intro A5 c5 w5 ho5 hx5 hap5) | fail)
      go_ret2
      refine .inr ⟨HL.out, ?_⟩
      try rw [hL]
      rw [HLL.out]
      exact ⟨A5, c5, rfl, ho5.bs, ho5.lower X1.out.size, X1.out.trans hx5⟩
    have b0 : ((N : Int) == 0) = false := beq_eq_false_iff_ne.2 (by omega)
    have hbz := belowZero_any HS.out (by omega)
    by_cases h128 : 128 ≤ (gb S 0).toNat
    · have hZ : Z = true := by rw [hz, decide_eq_true h128, Bool.or_true]
      have HLL : Kp (L = 0 :: S) := ⟨HZ.out.trans (by rw [hZ, if_pos rfl])⟩
      have hL : L.length = N + 1 := by rw [HLL.out]; simp [HSL.out]
      rw [decide_eq_true h128] at hbz
      have HB := Kp.mk hbz
      clear hz hZ HZ h0 h128 hbz
      go_wp2_with (first | (go_at_call 177; refine HB.out.mono ?_; rintro e w4 ⟨rfl, rfl⟩) | (at_builtin; refine wpList_append_bs rfl (.tmp 24) (.tmp 25) rfl w4.heap.size _ 1 [0] rfl (Own.new w4 w4.heap.size 1 [0] rfl (Nat.le_refl _) (by decide)) A2 N c2 S rfl (HS.out.ext (by (repeat (first | assumption | exact Ext.refl _ | apply Ext.drew | apply Ext.drewN | apply Ext.alloc | refine Ext.trans ?_ (by assumption))); first | done | fail)) (by have := HK.out; omega) (N + 1) (by omega) (0 :: S) rfl w4 (by (repeat (first | assumption | exact Ext.refl _ | apply Ext.drew | apply Ext.drewN | apply Ext.alloc | refine Ext.trans ?_ (by assumption))); first | done | fail) (Nat.le_refl _) (by simp) ?_; intro A5 c5 w5 ho5 hx5 hap5) | fail)
      go_ret2
      refine .inr ⟨HL.out, ?_⟩
      try rw [hL]
      rw [HLL.out]
      exact ⟨A5, c5, rfl, ho5.bs, ho5.lower X1.out.size, X1.out.trans hx5⟩
    · have hZ : Z = false := by rw [hz, decide_eq_false h128, decide_eq_false h0, Bool.or_false]
      have HLL : Kp (L = S) := ⟨HZ.out.trans (by rw [hZ, if_neg (by decide)])⟩
      have hL : L.length = N := by rw [HLL.out]; exact HSL.out
      rw [decide_eq_false h128] at hbz
      have HB := Kp.mk hbz
      have HC := Kp.mk (Clone_any HS.out (by have := HK.out; omega))
      clear hz hZ HZ h0 h128 hbz
      go_wp2_with (first | (go_at_call 177; refine HB.out.mono ?_; rintro e w4 ⟨rfl, rfl⟩) | (go_at_call 152; refine HC.out.mono ?_; rintro e w5 ⟨A5, c5, rfl, hs5, ho5, hx5⟩) | fail)
      go_ret2
      refine .inr ⟨HL.out, ?_⟩
      try rw [hL]
      rw [HLL.out]
      exact ⟨A5, c5, rfl, hs5, ho5.lower X1.out.size, X1.out.trans hx5⟩
end Go.Proofs.YtkdjhklnlnfhfaaGreatDoor
namespace Go.Proofs.YtkdjhklnlnfhfaaGreatDoor
open Go Go.RowKit
set_option maxRecDepth 4000

theorem tcB_nil : tcB [] = false := rfl
/-- may the body be a long number's? -/
def bigB (b : List (BitVec 8)) : Bool := tcB b && !decide (128 ≤ (gb b 0).toNat)
set_option maxHeartbeats 2000000 in
theorem ReadBig_any {b : List (BitVec 8)} {A : Option Addr} {n c : Nat} {w : World} (h : Bs w A n c b) (hn : n ≤ 1000000) : Calls Tryz.prog 159 #[.slice A n c] w fun e w' =>
    (bigB b = false ∧ Bad1 w 2 e w') ∨ (bigB b = true ∧ ReadR w (b.map BitVec.toNat) e w') := by
  have hN := isNumber_any h
  have hB : bigB b = (tcB b && !decide (128 ≤ (gb b 0).toNat)) := rfl
  cases ht : tcB b with
  | false =>
    rw [ht] at hN hB
    have HN := Kp.mk hN
    have HB := Kp.mk hB
    clear hN hB ht h
    generalize bigB b = Z at *
    go_enter Tryz.func159, Tryz.ntmps159
    go_wp2_with (first | (go_at_call 197; refine HN.out.mono ?_; rintro e w1 ⟨rfl, rfl⟩) | fail)
    go_ret2
    exact .inl ⟨by rw [HB.out]; rfl, rfl, Ext.refl _⟩
  | true =>
    have h0 : 0 < n := by
      rcases Nat.eq_zero_or_pos n with e | e
      · have : b = [] := List.eq_nil_of_length_eq_zero (by rw [h.len, e])
        rw [this, tcB_nil] at ht
        cases ht
      · exact e
    have hZ := belowZero_any h h0
    rw [ht] at hN hB
    have HN := Kp.mk hN
    have HB := Kp.mk hB
    have HR := Kp.mk (Rd.of_sl h.s)
    have HD := Kp.mk (Dg.of_bytes b)
    clear hN hB ht h
    by_cases h128 : 128 ≤ (gb b 0).toNat
    · rw [decide_eq_true h128] at hZ HB
      have HZ := Kp.mk hZ
      clear hZ h128
      generalize bigB b = Z at *
      go_enter Tryz.func159, Tryz.ntmps159
      go_wp2_with (first | (go_at_call 197; refine HN.out.mono ?_; rintro e w1 ⟨rfl, rfl⟩) | (go_at_call 177; refine HZ.out.mono ?_; rintro e w2 ⟨rfl, rfl⟩) | fail)
      go_ret2
      exact .inl ⟨by rw [HB.out]; rfl, rfl, Ext.refl _⟩
    · rw [decide_eq_false h128] at hZ HB
      have HZ := Kp.mk hZ
      have HRd := Kp.mk (Read_any HR.out HD.out hn)
      rw [ReadR_eq] at HRd ⊢
      clear hZ h128 HR HD
      generalize bigB b = Z at *
      generalize vl 256 (List.reverse (List.map BitVec.toNat b)) = V at *
      go_enter Tryz.func159, Tryz.ntmps159
      go_wp2_with (first | (go_at_call 197; refine HN.out.mono ?_; rintro e w1 ⟨rfl, rfl⟩) | (go_at_call 177; refine HZ.out.mono ?_; rintro e w2 ⟨rfl, rfl⟩) | fail)
      refine HRd.out.mono ?_
      rintro e w3 (⟨q1, rfl, x1⟩ | ⟨q1, A3, n3, c3, rfl, r3, x3⟩)
      · have X1 := Kp.mk x1
        have Q1 := Kp.mk q1
        clear x1 q1
        go_wp2_with fail
        go_ret2
        exact .inr ⟨by rw [HB.out]; rfl, .inl ⟨Q1.out, rfl, X1.out⟩⟩
      · have X3 := Kp.mk x3
        have Q1 := Kp.mk q1
        have R3 := Kp.mk r3
        clear x3 q1 r3
        go_wp2_with fail
        go_ret2
        exact .inr ⟨by rw [HB.out]; rfl, .inr ⟨Q1.out, A3, n3, c3, rfl, R3.out, X3.out⟩⟩
set_option maxHeartbeats 2000000 in
theorem refBig_any {A : Option Addr} {n c v : Nat} {w : World} (h : Nv w A n c v) (hl : ¬ lng v) : Calls Tryz.prog 36 #[.slice A n c] w fun e w' =>
    ∃ A' c', e = .returned (.slice A' (bigL v).length c') ∧ Bs w' A' (bigL v).length c' (bigL v) ∧ Ext w w' := by
  have HO := Kp.mk (OfV h)
  have hk := lng_nb hl
  have hS := fun (W : World) (A2 : Option Addr) (n2 c2 : Nat) (r : Rd vI W A2 n2 c2 (dgs 65536 v)) (hn : n2 ≤ 1000000000000) => Size_any r hn
  have hW := fun (W : World) (A2 : Option Addr) (n2 c2 : Nat) (r : Rd vI W A2 n2 c2 (dgs 65536 v)) => refWrite_any r (Nat.le_refl _) hk
  rw [sz_nb] at hS
  have hlen : ∀ (W : World) (A2 : Option Addr) (n2 c2 : Nat), Rd vI W A2 n2 c2 (dgs 65536 v) → n2 ≤ 256 := fun W A2 n2 c2 r => by
    have h1 := r.len
    have h2 := sz_nb v
    unfold sz at h2
    split at h2 <;> omega
  have HS := Kp.mk hS
  have HW := Kp.mk hW
  have HLn := Kp.mk hlen
  have HZ := Kp.mk (show bigL v = if bigZ v then 0 :: sml v else sml v from rfl)
  have hz : bigZ v = (decide (nb v = 0) || decide (128 ≤ (gb (sml v) 0).toNat)) := rfl
  have hsl := sml_len v
  have hto : toB v (nb v) = sml v := rfl
  unfold WriteB at HW
  rw [hto] at HW
  unfold FreshN at HO
  clear hS hW hlen hto h hl
  generalize bigL v = L at *
  generalize bigZ v = Z at *
  generalize sml v = S at *
  generalize nb v = N at *
  generalize dgs 65536 v = DG at *
  have HK := Kp.mk hk
  have HSL := Kp.mk hsl
  clear hk hsl
  go_enter Tryz.func36, Tryz.ntmps36
  go_upto_region 2 with (first | (go_at_call 33; refine HO.out.mono ?_; rintro e w1 ⟨A1, n1, c1, rfl, r1, _, x1⟩) | fail)
  have hn1 := HLn.out _ _ _ _ r1
  have HS1 := Kp.mk (HS.out _ _ _ _ r1 (by omega))
  have HW1 := Kp.mk (HW.out _ _ _ _ r1)
  have X1 := Kp.mk x1
  clear r1 x1 hn1
  go_upto_region 3 with (first | (go_at_call 35; refine HS1.out.mono ?_; rintro e w2 ⟨rfl, rfl⟩) | (go_at_call 92; refine HW1.out.mono ?_; rintro e w3 ⟨A3, c3, rfl, o3, x3⟩) | fail)
  have X3 := Kp.mk (X1.out.trans x3)
  have HS3 := Kp.mk o3.bs
  clear x3 o3
  by_cases h0 : N = 0
  · have hZ : Z = true := by rw [hz, decide_eq_true h0, Bool.true_or]
    have HLL : Kp (L = 0 :: S) := ⟨HZ.out.trans (by rw [hZ, if_pos rfl])⟩
    have b0 : ((N : Int) == 0) = true := beq_iff_eq.2 (by omega)
    have HLn : Kp (L.length = N + 1) := ⟨by rw [HLL.out]; simp [HSL.out]⟩
    clear hz hZ HZ h0
    go_wp2_with (first | (at_builtin; refine wpList_append_bs rfl (.tmp 24) (.tmp 25) rfl w3.heap.size _ 1 [0] rfl (Own.new w3 w3.heap.size 1 [0] rfl (Nat.le_refl _) (by decide)) A3 N c3 S rfl (HS3.out.ext (by (repeat (first | assumption | exact Ext.refl _ | apply Ext.drew | apply Ext.drewN | apply Ext.alloc | refine Ext.trans ?_ (by assumption))); first | done | fail)) (by have := HK.out; omega) (N + 1) (by omega) (0 :: S) rfl w3 (by (repeat (first | assumption | exact Ext.refl _ | apply Ext.drew | apply Ext.drewN | apply Ext.alloc | refine Ext.trans ?_ (by assumption))); first | done | fail) (Nat.le_refl _) (by simp) ?_; intro A5 c5 w5 ho5 hx5 hap5) | fail)
    go_ret
    rw [HLn.out, HLL.out]
    exact ⟨A5, c5, rfl, ho5.bs, X3.out.trans hx5⟩
  have b0 : ((N : Int) == 0) = false := beq_eq_false_iff_ne.2 (by omega)
  obtain ⟨g, o, rfl, hc⟩ := HS3.out.s.2.2.2 (by omega)
  have c0 := hc 0 (by omega)
  rw [Nat.add_zero] at c0
  unfold ub at c0
  have b1 : (0 : Int) < (N : Int) := by omega
  clear hc
  by_cases h128 : 128 ≤ (gb S 0).toNat
  · have hZ : Z = true := by rw [hz, decide_eq_true h128, Bool.or_true]
    have HLL : Kp (L = 0 :: S) := ⟨HZ.out.trans (by rw [hZ, if_pos rfl])⟩
    have HLn : Kp (L.length = N + 1) := ⟨by rw [HLL.out]; simp [HSL.out]⟩
    have g1 : (128 : Int) ≤ ((gb S 0).toNat : Int) := by omega
    clear hz hZ HZ h0 h128
    generalize (gb S 0).toNat = z at *
    go_wp2_with (first | (at_builtin; refine wpList_append_bs rfl (.tmp 24) (.tmp 25) rfl w3.heap.size _ 1 [0] rfl (Own.new w3 w3.heap.size 1 [0] rfl (Nat.le_refl _) (by decide)) (some ⟨g, o, none⟩) N c3 S rfl (HS3.out.ext (by (repeat (first | assumption | exact Ext.refl _ | apply Ext.drew | apply Ext.drewN | apply Ext.alloc | refine Ext.trans ?_ (by assumption))); first | done | fail)) (by have := HK.out; omega) (N + 1) (by omega) (0 :: S) rfl w3 (by (repeat (first | assumption | exact Ext.refl _ | apply Ext.drew | apply Ext.drewN | apply Ext.alloc | refine Ext.trans ?_ (by assumption))); first | done | fail) (Nat.le_refl _) (by simp) ?_; intro A5 c5 w5 ho5 hx5 hap5) | fail)
    go_ret
    rw [HLn.out, HLL.out]
    exact ⟨A5, c5, rfl, ho5.bs, X3.out.trans hx5⟩
  · have hZ : Z = false := by rw [hz, decide_eq_false h128, decide_eq_false h0, Bool.or_false]
    have HLL : Kp (L = S) := ⟨HZ.out.trans (by rw [hZ, if_neg (by decide)])⟩
    have HLn : Kp (L.length = N) := ⟨by rw [HLL.out]; exact HSL.out⟩
    have g1 : ¬ ((128 : Int) ≤ ((gb S 0).toNat : Int)) := by omega
    clear hz hZ HZ h0 h128
    generalize (gb S 0).toNat = z at *
    go_wp2_with fail
    go_ret
    rw [HLn.out, HLL.out]
    exact ⟨_, c3, rfl, HS3.out, X3.out⟩
end Go.Proofs.YtkdjhklnlnfhfaaGreatDoor
namespace Go.Proofs.YtkdjhklnlnfhfaaGreatDoor
open Go Go.RowKit
set_option maxRecDepth 4000

/-- is a list an identifier? -/
def oidK (l : List Nat) : Bool := decide (2 ≤ l.length) && (decide (l.length ≤ 16) && (decide (dg l 0 ≤ 2) && (if dg l 0 < 2 then decide (dg l 1 < 40) else decide (dg l 1 ≤ 4294967215))))
theorem oidK_iff {l : List Nat} (h : Dg 4294967296 l) : oidK l = true ↔ OidP l := by
  unfold oidK OidP
  constructor
  · intro h1
    simp only [Bool.and_eq_true, decide_eq_true_eq] at h1
    obtain ⟨h2, h3, h4, h5⟩ := h1
    match l, h2 with
    | a :: b :: r, _ =>
      refine ⟨a, b, r, rfl, h3, h4, ?_, ?_, fun n hn => h n (by simp [hn])⟩
      · intro ha
        rw [if_pos (show dg (a :: b :: r) 0 < 2 from ha), decide_eq_true_eq] at h5
        exact h5
      · by_cases ha : a < 2
        · rw [if_pos (show dg (a :: b :: r) 0 < 2 from ha), decide_eq_true_eq] at h5
          have : b < 40 := h5
          omega
        · rw [if_neg (show ¬ dg (a :: b :: r) 0 < 2 from ha), decide_eq_true_eq] at h5
          exact h5
  · rintro ⟨a, b, r, rfl, h3, h4, h5, h6, h7⟩
    have e0 : dg (a :: b :: r) 0 = a := rfl
    have e1 : dg (a :: b :: r) 1 = b := rfl
    rw [e0, e1]
    simp only [Bool.and_eq_true, decide_eq_true_eq]
    refine ⟨by simp, h3, h4, ?_⟩
    split
    · rename_i ha; exact decide_eq_true (h5 ha)
    · exact decide_eq_true h6
set_option maxHeartbeats 2000000 in
theorem isOid_any {l : List Nat} {A : Option Addr} {n c : Nat} {w : World} (h : Rd vL w A n c l) : Calls Tryz.prog 184 #[.slice A n c] w fun e w' => e = .returned (.bool (oidK l)) ∧ w' = w := by
  have hl := h.len
  by_cases h2 : n < 2
  · have e : oidK l = false := by unfold oidK; rw [decide_eq_false (by omega), Bool.false_and]
    rw [e]
    have b1 : decide ((n : Int) < 2) = true := decide_eq_true (by omega)
    clear h hl e h2
    go_enter Tryz.func184, Tryz.ntmps184
    go_wp2
    go_ret
    exact ⟨rfl, rfl⟩
  · have b1 : decide ((n : Int) < 2) = false := decide_eq_false (by omega)
    by_cases h3 : 16 < n
    · have e : oidK l = false := by unfold oidK; rw [decide_eq_false (p := l.length ≤ 16) (by omega), Bool.false_and, Bool.and_false]
      rw [e]
      have b2 : decide ((16 : Int) < (n : Int)) = true := decide_eq_true (by omega)
      clear h hl e h2 h3
      go_enter Tryz.func184, Tryz.ntmps184
      go_wp2
      go_ret
      exact ⟨rfl, rfl⟩
    · have b2 : decide ((16 : Int) < (n : Int)) = false := decide_eq_false (by omega)
      have b0 : (0 : Int) < (n : Int) := by omega
      have b4 : (1 : Int) < (n : Int) := by omega
      obtain ⟨g, o, rfl⟩ := h.some_ (by omega)
      have c0 := h.dig 0 (by omega)
      have c1 := h.dig 1 (by omega)
      unfold vL at c0 c1
      rw [Nat.add_zero] at c0
      have e : oidK l = (decide (dg l 0 ≤ 2) && (if dg l 0 < 2 then decide (dg l 1 < 40) else decide (dg l 1 ≤ 4294967215))) := by
        unfold oidK
        rw [decide_eq_true (p := 2 ≤ l.length) (by omega), decide_eq_true (p := l.length ≤ 16) (by omega), Bool.true_and, Bool.true_and]
      rw [e]
      clear h hl e h2 h3
      generalize dg l 0 = x at *
      generalize dg l 1 = y at *
      by_cases hx : 2 < x
      · rw [decide_eq_false (p := x ≤ 2) (by omega), Bool.false_and]
        have b3 : decide ((2 : Int) < (x : Int)) = true := decide_eq_true (by omega)
        clear hx
        go_enter Tryz.func184, Tryz.ntmps184
        go_wp2
        go_ret
        exact ⟨rfl, rfl⟩
      · rw [decide_eq_true (p := x ≤ 2) (by omega), Bool.true_and]
        have b3 : decide ((2 : Int) < (x : Int)) = false := decide_eq_false (by omega)
        by_cases hx2 : x < 2
        · have b5 : decide ((x : Int) < 2) = true := decide_eq_true (by omega)
          rw [if_pos hx2]
          have b6 : decide (y < 40) = decide ((y : Int) < 40) := by rw [Bool.eq_iff_iff]; simp; omega
          rw [b6]
          clear hx hx2 b6
          go_enter Tryz.func184, Tryz.ntmps184
          go_wp2
          go_ret
          exact ⟨rfl, rfl⟩
        · have b5 : decide ((x : Int) < 2) = false := decide_eq_false (by omega)
          rw [if_neg hx2]
          have b6 : decide (y ≤ 4294967215) = decide ((y : Int) ≤ 4294967215) := by rw [Bool.eq_iff_iff]; simp; omega
          rw [b6]
          clear hx hx2 b6
          go_enter Tryz.func184, Tryz.ntmps184
          go_wp2
          go_ret
          exact ⟨rfl, rfl⟩
set_option maxHeartbeats 2000000 in
theorem refOid_any {l : List Nat} {A : Option Addr} {n c : Nat} {w : World} (h : Rd vL w A n c l) : Calls Tryz.prog 96 #[.slice A n c] w fun e w' => e = .returned (.bool (oidK l)) ∧ w' = w := by
  have hl := h.len
  by_cases h2 : n < 2
  · have e : oidK l = false := by unfold oidK; rw [decide_eq_false (by omega), Bool.false_and]
    rw [e]
    have b1 : decide ((n : Int) < 2) = true := decide_eq_true (by omega)
    clear h hl e h2
    go_enter Tryz.func96, Tryz.ntmps96
    go_wp2
    go_ret
    exact ⟨rfl, rfl⟩
  · have b1 : decide ((n : Int) < 2) = false := decide_eq_false (by omega)
    by_cases h3 : 16 < n
    · have e : oidK l = false := by unfold oidK; rw [decide_eq_false (p := l.length ≤ 16) (by omega), Bool.false_and, Bool.and_false]
      rw [e]
      have b2 : decide ((16 : Int) < (n : Int)) = true := decide_eq_true (by omega)
      clear h hl e h2 h3
      go_enter Tryz.func96, Tryz.ntmps96
      go_wp2
      go_ret
      exact ⟨rfl, rfl⟩
    · have b2 : decide ((16 : Int) < (n : Int)) = false := decide_eq_false (by omega)
      have b0 : (0 : Int) < (n : Int) := by omega
      have b4 : (1 : Int) < (n : Int) := by omega
      obtain ⟨g, o, rfl⟩ := h.some_ (by omega)
      have c0 := h.dig 0 (by omega)
      have c1 := h.dig 1 (by omega)
      unfold vL at c0 c1
      rw [Nat.add_zero] at c0
      have e : oidK l = (decide (dg l 0 ≤ 2) && (if dg l 0 < 2 then decide (dg l 1 < 40) else decide (dg l 1 ≤ 4294967215))) := by
        unfold oidK
        rw [decide_eq_true (p := 2 ≤ l.length) (by omega), decide_eq_true (p := l.length ≤ 16) (by omega), Bool.true_and, Bool.true_and]
      rw [e]
      clear h hl e h2 h3
      generalize dg l 0 = x at *
      generalize dg l 1 = y at *
      by_cases hx : 2 < x
      · rw [decide_eq_false (p := x ≤ 2) (by omega), Bool.false_and]
        have b3 : decide ((2 : Int) < (x : Int)) = true := decide_eq_true (by omega)
        clear hx
        go_enter Tryz.func96, Tryz.ntmps96
        go_wp2
        go_ret
        exact ⟨rfl, rfl⟩
      · rw [decide_eq_true (p := x ≤ 2) (by omega), Bool.true_and]
        have b3 : decide ((2 : Int) < (x : Int)) = false := decide_eq_false (by omega)
        by_cases hx2 : x < 2
        · have b5 : decide ((x : Int) < 2) = true := decide_eq_true (by omega)
          rw [if_pos hx2]
          have b6 : decide (y < 40) = decide ((y : Int) < 40) := by rw [Bool.eq_iff_iff]; simp; omega
          rw [b6]
          clear hx hx2 b6
          go_enter Tryz.func96, Tryz.ntmps96
          go_wp2
          go_ret
          exact ⟨rfl, rfl⟩
        · have b5 : decide ((x : Int) < 2) = false := decide_eq_false (by omega)
          rw [if_neg hx2]
          have b6 : decide (y ≤ 4294967215) = decide ((y : Int) ≤ 4294967215) := by rw [Bool.eq_iff_iff]; simp; omega
          rw [b6]
          clear hx hx2 b6
          go_enter Tryz.func96, Tryz.ntmps96
          go_wp2
          go_ret
          exact ⟨rfl, rfl⟩
end Go.Proofs.YtkdjhklnlnfhfaaGreatDoor
