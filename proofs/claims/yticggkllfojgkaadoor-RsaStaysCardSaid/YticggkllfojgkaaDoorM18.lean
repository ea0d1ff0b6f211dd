/-
  nat: Read.
  rsa: laidOut, laidToHide, raised, textOf.
  rsa: textOf, Hide, Show.
  rsa: Show, Hide.
-/
import Derived.Test.YticggkllfojgkaaDoorM17
import Derived.Test.YticggkllfojgkaaDoorM14
namespace Go.Proofs.YticggkllfojgkaaDoor
open Go Go.RowKit
set_option maxRecDepth 4000

theorem Dg.dropW {B : Nat} {l : List Nat} (h : Dg B l) (p : Nat → Bool) : Dg B (l.dropWhile p) := fun d hd => h d (List.dropWhile_sublist p |>.mem hd)
set_option maxHeartbeats 2000000 in
theorem Read_any {l : List Nat} {A : Option Addr} {n c : Nat} {w : World} (h : Rd vB w A n c l) (hd : Dg 256 l) (hn : n ≤ 1000000) :
    Calls Tryd.prog 46 #[.slice A n c] w (ReadR w l) := by
  have C := Kp.mk (trim_left h (by omega))
  have hnl := h.len
  have hle : (l.dropWhile (· == 0)).length ≤ n := by rw [← hnl]; exact (List.dropWhile_sublist _).length_le
  have ht := drop_top l
  have hv := vl_rev_drop 256 l
  have hdd := (hd.dropW (· == 0)).rev
  have hat : ∀ i, i < (l.dropWhile (· == 0)).length → dg (l.dropWhile (· == 0)) ((l.dropWhile (· == 0)).length - 1 - i) = dg (l.dropWhile (· == 0)).reverse i := fun i hi => by rw [dg_rev _ i hi]
  have hrl : (l.dropWhile (· == 0)).reverse.length = (l.dropWhile (· == 0)).length := List.length_reverse
  have hvv := hv
  generalize (l.dropWhile (· == 0)).reverse = r at *
  generalize l.dropWhile (· == 0) = L at *
  have HAT := Kp.mk hat
  have HD := Kp.mk hdd
  have HT := Kp.mk ht
  clear h hd hv hat hdd ht hnl
  go_enter Tryd.func46, Tryd.ntmps46
  go_wp2_with fail
  refine C.out.mono ?_
  rintro e w1 ⟨A1, m, c1, rfl, h1, rfl⟩
  have hm := h1.len
  have HR := Kp.mk h1
  clear h1 C
  have hli := long_iff HD.out HT.out
  by_cases hlong : m ≤ 256
  · have hlt : vl 256 r < 256 ^ 256 := hli.1 (by omega)
    have HLT := Kp.mk hlt
    have bl : decide ((256 : Int) < (m : Int)) = false := decide_eq_false (by omega)
    obtain ⟨K, hK⟩ : ∃ K, K = (m + 3) / 4 := ⟨_, rfl⟩
    have q0 : ((m : Int) + 3) / 4 = (K : Int) := by omega
    have q1 : ((m : Int) + 4 - 1) / 4 = (K : Int) := by omega
    have hmk := run_makeL K (K : Int) rfl (by omega)
    have HST := Kp.mk (RdS.start r K)
    have HL0 := Kp.mk (Lb.new w1 (zl K))
    have HKK := Kp.mk hK
    have hKb : K ≤ 64 := by omega
    rw [show List.replicate K 0 = zl K from rfl] at HST
    clear hli hlt hlong hK
    generalize zl K = Z at *
    go_wp2_with fail
    go_loopw [20] (fun iv wr => ∃ (i : Nat) (S : List Nat), i ≤ m ∧ iv = .int .i64 (i : Int) ∧ RdS r K i S ∧ Lb wr w1.heap.size S ∧ Ext w1 wr) (fun iv _ => m - (intOf iv).toNat)
    case atStart => exact ⟨0, Z, by omega, rfl, HST.out, HL0.out, (by (repeat (first | assumption | exact Ext.refl _ | apply Ext.drew | apply Ext.drewN | apply Ext.alloc | refine Ext.trans ?_ (by assumption))); first | done | fail)⟩
    case round =>
      obtain ⟨i, S, hi, rfl, hs, hL, hx⟩ := hrel
      have hKK := HKK.out
      by_cases hlt : i < m
      · obtain ⟨g, o, rfl⟩ := HR.out.some_ (by omega)
        obtain ⟨j, hj⟩ : ∃ j, m - 1 - i = j := ⟨_, rfl⟩
        have kb := (HR.out.ext hx).dig j (by omega)
        unfold vB at kb
        have ha := HAT.out i (by omega)
        rw [hm, hj] at ha
        rw [ha] at kb
        obtain ⟨q, hq⟩ : ∃ q, i / 4 = q := ⟨_, rfl⟩
        obtain ⟨s, hs4⟩ : ∃ s, i % 4 = s := ⟨_, rfl⟩
        have hiq : i = 4 * q + s := by omega
        have hs3 : s < 4 := by omega
        have hqK : q < K := by omega
        have k3 := Lb.cell hL q (by rw [hs.len]; exact hqK)
        have k4 := Lb.free hL q
        have hlow := hs.low HD.out hiq (by omega) hqK
        have hy := HD.out.at (by decide) i
        have HNX := Kp.mk (hs.next HD.out hiq hs3 (by omega) hqK)
        have HSET := Kp.mk (fun z => Lb.set hL q z)
        have HX := Kp.mk hx
        generalize dg r i = y at *
        generalize dg S q = x at *
        obtain ⟨E, hE⟩ : ∃ E, 8 * s = E := ⟨_, rfl⟩
        rw [hE] at hlow HNX
        have hE24 : E ≤ 24 := by omega
        have hp24 : 2 ^ E ≤ 2 ^ 24 := Nat.pow_le_pow_right (by decide) hE24
        obtain ⟨p, hp⟩ : ∃ p, 2 ^ E = p := ⟨_, rfl⟩
        have hyp : y * p ≤ 255 * 16777216 := Nat.mul_le_mul (by omega) (by rw [← hp]; exact hp24)
        have eor : x ||| y * p = y * p + x := by rw [← hp]; exact or_low x y E hlow
        have c1 : (y : Int) * 2 ^ E = ((y * p : Nat) : Int) := by rw [← hp]; simp
        have c2 : ((2 : Int) ^ E) = (p : Int) := by rw [← hp]; simp
        rw [hp] at hlow HNX
        obtain ⟨Y, hY⟩ : ∃ Y, y * p = Y := ⟨_, rfl⟩
        rw [hY] at eor c1 hyp HNX
        have c3 : (y : Int) * (p : Int) = (Y : Int) := by rw [← hY]; simp
        have c4 : IntKind.u32.wrap (Y : Int) = (Y : Int) := by rw [IntKind.wrap_u32]; omega
        have c5 := or32 x Y (by omega) (by omega)
        rw [eor] at c5
        obtain ⟨T, hT⟩ : ∃ T, Y + x = T := ⟨_, rfl⟩
        rw [hT] at c5 HNX
        have d0 : (i : Int) < (m : Int) := by omega
        have d1 : (i : Int) / 4 = (q : Int) := by omega
        have d2 : (i : Int) % 4 = (s : Int) := by omega
        have d3 : (m : Int) - 1 - (i : Int) = (j : Int) := by omega
        have d4 : (s : Int) * 8 = (E : Int) := by omega
        have d5 : (q : Int) < (K : Int) := by omega
        have d6 : (j : Int) < (m : Int) := by omega
        have d7 : (i : Int) < 300 := by omega
        have d8 : (E : Int) < 32 := by omega
        have w1' : IntKind.i64.wrap ((m : Int) - 1) = (m : Int) - 1 := by rw [IntKind.wrap_i64]; omega
        have w2' : IntKind.i64.wrap ((m : Int) - 1 - (i : Int)) = (j : Int) := by rw [IntKind.wrap_i64]; omega
        have w3' : IntKind.i64.wrap ((s : Int) * 8) = (E : Int) := by rw [IntKind.wrap_i64]; omega
        have w4' : (i : Int).tdiv 4 = (q : Int) := by rw [Int.tdiv_eq_ediv_of_nonneg (by omega)]; exact d1
        have w5' : (i : Int).tmod 4 = (s : Int) := by rw [Int.tmod_eq_emod_of_nonneg (by omega)]; exact d2
        have wj' : IntKind.i64.wrap (j : Int) = (j : Int) := by rw [IntKind.wrap_i64]; omega
        have wE' : IntKind.i64.wrap (E : Int) = (E : Int) := by rw [IntKind.wrap_i64]; omega
        have wm' : IntKind.i64.wrap (m : Int) = (m : Int) := by rw [IntKind.wrap_i64]; omega
        have w6' : IntKind.i64.wrap (q : Int) = (q : Int) := by rw [IntKind.wrap_i64]; omega
        have w7' : IntKind.i64.wrap (s : Int) = (s : Int) := by rw [IntKind.wrap_i64]; omega
        clear hs hL hx ha hj hq hs4 hlow hE hp hY hT eor hp24 hKK hm hrl hle q0 q1 hvv hiq
        go_wp2_with fail
        go_region
        go_wp2_with fail
        go_roundw
        case rel => exact ⟨i + 1, _, by omega, by go_num, HNX.out, (HSET.out T).ext (Ext.refl _).drew, (HX.out.setCell (p := ⟨w1.heap.size, q, none⟩) (Nat.le_refl _) _).drew⟩
        case measure => simp [intOf]; omega
      · obtain rfl : i = m := by omega
        have hcn := RdS.cn (r := r) (K := K) (L := S) (by rw [hrl, hm]; exact hs) (by rw [hrl, hm]; exact hKK) HT.out HD.out
        have HF := Kp.mk (show ReadR w1 l (.returned (.tuple #[.slice (some ⟨w1.heap.size, 0, none⟩) K K, .nilIface])) wr from
          .inr ⟨by rw [← hvv]; exact HLT.out, _, _, _, rfl, by rw [← hvv, ← hcn]; exact Lb.own hL (Nat.le_refl _) hs.len (by unfold maxLen; omega), hx⟩)
        clear hs hL hx hcn hKK hm hrl hle q0 q1 hvv
        go_wp2_with fail
        go_ret2
        exact HF.out
  · have hge : 256 ^ 256 ≤ vl 256 r := Nat.le_of_not_lt fun h => hlong (by rw [← hm, ← hrl]; exact hli.2 h)
    have bl : decide ((256 : Int) < (m : Int)) = true := decide_eq_true (by omega)
    have HGE := Kp.mk hge
    clear hli hge
    go_wp2_with fail
    go_ret2
    exact .inl ⟨by rw [← hvv]; exact HGE.out, rfl, Ext.refl _⟩
theorem ReadR_eq (w : World) (l : List Nat) : ReadR w l = fun e w' => (256 ^ 256 ≤ vl 256 l.reverse ∧ Bad1 w 4 e w') ∨ (vl 256 l.reverse < 256 ^ 256 ∧ Ok1 w (vl 256 l.reverse) e w') := rfl
end Go.Proofs.YticggkllfojgkaaDoor
namespace Go.Proofs.YticggkllfojgkaaDoor
open Go Go.RowKit
set_option maxRecDepth 4000

theorem lit_bytes (w : World) (l : List (BitVec 8)) (cs : Array Value) (n : Nat) (hn : l.length = n) (hc : cs = bv l) (g : Nat) (hg : g = w.heap.size) : Bs (w.alloc (.cells cs 5)) (some ⟨g, 0, none⟩) n n l := by
  subst hc
  exact const_bs w g l n n (0, 0) hg hn (Nat.le_refl _)
section
variable {A B : Option Addr} {n c m d : Nat} {w : World} {l1 l2 : List (BitVec 8)}
set_option maxHeartbeats 1000000 in
theorem laidOut_any (k : BitVec 8) (z : Int) (hz : z = ub k) (h1 : Bs w A n c l1) (h2 : Bs w B m d l2) (hn : n + m ≤ 1000000) (N : Nat) (hN : n + m + 3 = N) :
    Calls Tryd.prog 49 #[.int .u8 z, .slice A n c, .slice B m d] w (Fresh w N ([0, k] ++ l1 ++ [0] ++ l2)) := by
  subst hz hN
  have w1 : Bs (w.alloc (.cells #[.int .u8 0, .int .u8 (ub k)] 5)) (some ⟨w.heap.size, 0, none⟩) 2 2 [0, k] := lit_bytes w [0, k] _ 2 rfl rfl _ rfl
  have w2 : Bs ((w.alloc (.cells #[.int .u8 0, .int .u8 (ub k)] 5)).alloc (.cells #[.int .u8 0] 5)) (some ⟨w.heap.size + 1, 0, none⟩) 1 1 [0] := lit_bytes _ [0] _ 1 rfl rfl _ (by simp)
  have hB := Blk.new ((w.alloc (.cells #[.int .u8 0, .int .u8 (ub k)] 5)).alloc (.cells #[.int .u8 0] 5)) 26 #[.slice (some ⟨w.heap.size, 0, none⟩) 2 2, .slice A n c, .slice (some ⟨w.heap.size + 1, 0, none⟩) 1 1, .slice B m d]
  have hsz : ((w.alloc (.cells #[.int .u8 0, .int .u8 (ub k)] 5)).alloc (.cells #[.int .u8 0] 5)).heap.size = w.heap.size + 1 + 1 := by simp
  rw [hsz] at hB
  have hx : Ext w (((w.alloc (.cells #[.int .u8 0, .int .u8 (ub k)] 5)).alloc (.cells #[.int .u8 0] 5)).alloc (.cells #[.slice (some ⟨w.heap.size, 0, none⟩) 2 2, .slice A n c, .slice (some ⟨w.heap.size + 1, 0, none⟩) 1 1, .slice B m d] 26)) := (by (repeat (first | assumption | exact Ext.refl _ | apply Ext.drew | apply Ext.drewN | apply Ext.alloc | refine Ext.trans ?_ (by assumption))); first | done | fail)
  have C := ConcatP (ps := [⟨some ⟨w.heap.size, 0, none⟩, 2, 2, [0, k]⟩, ⟨A, n, c, l1⟩, ⟨some ⟨w.heap.size + 1, 0, none⟩, 1, 1, [0]⟩, ⟨B, m, d, l2⟩]) (k := 4) rfl (fun j p hj => by
    match j, hj with
    | 0, hj => cases hj; exact (w1.ext (by (repeat (first | assumption | exact Ext.refl _ | apply Ext.drew | apply Ext.drewN | apply Ext.alloc | refine Ext.trans ?_ (by assumption))); first | done | fail))
    | 1, hj => cases hj; exact (h1.ext hx)
    | 2, hj => cases hj; exact (w2.ext (by (repeat (first | assumption | exact Ext.refl _ | apply Ext.drew | apply Ext.drewN | apply Ext.alloc | refine Ext.trans ?_ (by assumption))); first | done | fail))
    | 3, hj => cases hj; exact (h2.ext hx)
    | j + 4, hj => simp at hj) hB (by simp [pN]; omega) (by simp [pN]; omega) (by decide)
  rw [show pN [⟨some ⟨w.heap.size, 0, none⟩, 2, 2, [0, k]⟩, ⟨A, n, c, l1⟩, ⟨some ⟨w.heap.size + 1, 0, none⟩, 1, 1, [0]⟩, ⟨B, m, d, l2⟩] = n + m + 3 by simp [pN]; omega,
    show pL [⟨some ⟨w.heap.size, 0, none⟩, 2, 2, [0, k]⟩, ⟨A, n, c, l1⟩, ⟨some ⟨w.heap.size + 1, 0, none⟩, 1, 1, [0]⟩, ⟨B, m, d, l2⟩] = [0, k] ++ l1 ++ [0] ++ l2 by simp [pL]] at C
  have HC := Kp.mk C
  have HX := Kp.mk hx
  clear C hx hB w1 w2 h1 h2
  go_enter Tryd.func49, Tryd.ntmps49
  go_wp2_with fail
  refine HC.out.mono ?_
  rintro e w4 ⟨A4, c4, rfl, s4, o4, x4⟩
  have HF := Kp.mk (fresh_mk s4 o4 HX.out x4)
  clear s4 o4 x4
  go_wp2_with fail
  go_ret
  exact HF.out
theorem laidToHide_any (h1 : Bs w A n c l1) (h2 : Bs w B m d l2) (hn : n + m ≤ 1000000) (N : Nat) (hN : n + m + 3 = N) : Calls Tryd.prog 29 #[.slice A n c, .slice B m d] w (Fresh w N (hdL l1 l2)) := by
  have C := Kp.mk (laidOut_any 2 2 rfl h1 h2 hn N hN)
  rw [show [0, 2] ++ l1 ++ [0] ++ l2 = hdL l1 l2 from rfl] at C
  clear h1 h2
  go_enter Tryd.func29, Tryd.ntmps29
  go_wp2_with fail
  refine C.out.mono ?_
  rintro e w4 ⟨A4, c4, rfl, s4, o4, x4⟩
  go_wp2_with fail
  go_ret
  exact ⟨A4, c4, rfl, s4, o4, x4⟩
end
/-- bytes and no error; none and an error -/
def BadB (w : World) (k : Int) (e : Ending) (w' : World) : Prop := e = .returned (.tuple #[.slice none 0 0, err k]) ∧ Ext w w'
theorem WriteV {A : Option Addr} {n c v k : Nat} {w : World} (h : Nv w A n c v) (h1 : ¬ lng v) (hk : nb v ≤ k) (hk2 : k ≤ 256) : Calls Tryd.prog 48 #[.slice A n c, .int .i64 (k : Int)] w (WriteR w v k) := by
  obtain ⟨a, ha, rfl⟩ := h
  exact Write_ok ha h1 k hk hk2
section
variable {A B D : Option Addr} {n c m d k f vt vn : Nat} {w : World} {l : List (BitVec 8)}
theorem nb_mod {v vn : Nat} (h : v < vn) : nb v ≤ nb vn := (nb_iff v _).2 (Nat.lt_trans h ((nb_iff vn _).1 (Nat.le_refl _)))
set_option maxHeartbeats 2000000 in
theorem raised_some (hl : Bs w A n c l) (ht : Nv w B m d vt) (hv : Nv w D k f vn) (lt : ¬ lng vt) (h128 : nb vn ≤ 128) (h0 : vn ≠ 0) {r : List (BitVec 8)} (h : rs l vt vn = some r) :
    Calls Tryd.prog 28 #[.slice A n c, .slice B m d, .slice D k f] w (FreshE w (nb vn) r) := by
  obtain ⟨h1, h2, h3⟩ := rs_some h
  have hlen := hl.len
  obtain ⟨N, hN⟩ : ∃ N, nb vn = N := ⟨_, rfl⟩
  have hbn : bnum l < 256 ^ 256 := Nat.lt_of_lt_of_le (bnum_lt l) (Nat.pow_le_pow_right (by decide) (by omega))
  have ln : ¬ lng vn := sh32 (nb_bb h128)
  have lb : ¬ lng (bnum l) := sh32 (Nat.lt_trans h2 (nb_bb h128))
  have hmod : bnum l ^ vt % vn < vn := Nat.mod_lt _ (Nat.pos_of_ne_zero h0)
  have lp : ¬ lng (bnum l ^ vt % vn) := sh32 (Nat.lt_trans hmod (nb_bb h128))
  have hnp := nb_mod hmod
  have CR := Kp.mk (Read_any (Rd.of_sl hl.s) (Dg.of_bytes l) (by omega))
  rw [ReadR_eq] at CR
  rw [show vl 256 (l.map BitVec.toNat).reverse = bnum l from rfl] at CR
  have Z := Kp.mk (cmpI_lt h2)
  obtain rfl : n = N := by omega
  rw [hN] at hnp h3 h128 ⊢
  have HS := Kp.mk hN
  have HT := Kp.mk ht
  have HV := Kp.mk hv
  have HLT := Kp.mk lt
  have HLN := Kp.mk ln
  have HLB := Kp.mk lb
  have HLP := Kp.mk lp
  have HNP := Kp.mk hnp
  have H0 := Kp.mk h0
  have H3 := Kp.mk h3
  have HBN := Kp.mk hbn
  clear h h1 h2 h3 hl ht hv lt ln lb hmod lp hnp h0 hN hbn
  go_enter Tryd.func28, Tryd.ntmps28
  go_wp2_with fail
  refine (sizeOf_any HV.out).mono ?_
  rintro e w1 ⟨rfl, hw⟩
  subst hw
  rw [HS.out]
  go_wp2_with fail
  refine CR.out.mono ?_
  rintro e w2 (⟨h, -⟩ | ⟨_, A2, n2, c2, rfl, r2, x2⟩)
  · exact absurd HBN.out (Nat.not_lt.2 h)
  have N2 := Kp.mk (Nv.of r2 HLB.out)
  clear r2
  go_wp2_with fail
  refine (CmpV (N2.out.ext (by (repeat (first | assumption | exact Ext.refl _ | apply Ext.drew | apply Ext.drewN | apply Ext.alloc | refine Ext.trans ?_ (by assumption))); first | done | fail)) (HV.out.ext (by (repeat (first | assumption | exact Ext.refl _ | apply Ext.drew | apply Ext.drewN | apply Ext.alloc | refine Ext.trans ?_ (by assumption))); first | done | fail)) _ Z.out).mono ?_
  rintro e w3 ⟨rfl, x3⟩
  go_wp2_with fail
  refine (ExpV (N2.out.ext (by (repeat (first | assumption | exact Ext.refl _ | apply Ext.drew | apply Ext.drewN | apply Ext.alloc | refine Ext.trans ?_ (by assumption))); first | done | fail)) (HT.out.ext (by (repeat (first | assumption | exact Ext.refl _ | apply Ext.drew | apply Ext.drewN | apply Ext.alloc | refine Ext.trans ?_ (by assumption))); first | done | fail)) (HV.out.ext (by (repeat (first | assumption | exact Ext.refl _ | apply Ext.drew | apply Ext.drewN | apply Ext.alloc | refine Ext.trans ?_ (by assumption))); first | done | fail)) HLB.out HLT.out HLN.out H0.out).mono ?_
  rintro e w4 ⟨A4, n4, c4, rfl, r4, x4⟩
  have N4 := Kp.mk (Nv.of r4 HLP.out)
  clear r4
  go_wp2_with fail
  refine (WriteV (k := n) N4.out HLP.out HNP.out (by omega)).mono ?_
  rintro e w5 ⟨A5, c5, rfl, o5, x5⟩
  rw [← H3.out] at o5
  have HO := Kp.mk (o5.lower (show w1.heap.size ≤ w4.heap.size from (show Ext w1 w4 from (by (repeat (first | assumption | exact Ext.refl _ | apply Ext.drew | apply Ext.drewN | apply Ext.alloc | refine Ext.trans ?_ (by assumption))); first | done | fail)).size))
  have HX := Kp.mk (show Ext w1 w5 from (by (repeat (first | assumption | exact Ext.refl _ | apply Ext.drew | apply Ext.drewN | apply Ext.alloc | refine Ext.trans ?_ (by assumption))); first | done | fail))
  clear o5 x2 x3 x4 x5
  go_wp2_with fail
  go_ret2
  exact ⟨A5, c5, rfl, HO.out.bs, HO.out, HX.out⟩
theorem raised_none (hl : Bs w A n c l) (ht : Nv w B m d vt) (hv : Nv w D k f vn) (h128 : nb vn ≤ 128) (h : rs l vt vn = none) :
    Calls Tryd.prog 28 #[.slice A n c, .slice B m d, .slice D k f] w (BadB w 1) := by
  have hlen := hl.len
  obtain ⟨N, hN⟩ : ∃ N, nb vn = N := ⟨_, rfl⟩
  have HV := Kp.mk hv
  have HS := Kp.mk hN
  by_cases he : n = N
  · subst he
    have hge : vn ≤ bnum l := by
      unfold rs at h
      split at h
      · cases h
      · next h1 =>
        rcases Nat.lt_or_ge (bnum l) vn with h2 | h2
        · exact absurd ⟨by omega, h2⟩ h1
        · exact h2
    have hbn : bnum l < 256 ^ 256 := Nat.lt_of_lt_of_le (bnum_lt l) (Nat.pow_le_pow_right (by decide) (by omega))
    have lb : ¬ lng (bnum l) := sh32 (nb_bb ((nb_iff _ _).2 (Nat.lt_of_lt_of_le (bnum_lt l) (Nat.pow_le_pow_right (by decide) (by omega)))))
    have CR := Kp.mk (Read_any (Rd.of_sl hl.s) (Dg.of_bytes l) (by omega))
    rw [ReadR_eq] at CR
    rw [show vl 256 (l.map BitVec.toNat).reverse = bnum l from rfl] at CR
    obtain ⟨z, hz, z1⟩ := cmpI_up hge
    have Z := Kp.mk hz
    have HBN := Kp.mk hbn
    have HLB := Kp.mk lb
    clear h hl ht hv hN hge hbn lb hz
    go_enter Tryd.func28, Tryd.ntmps28
    go_wp2_with fail
    refine (sizeOf_any HV.out).mono ?_
    rintro e w1 ⟨rfl, hw⟩
    subst hw
    rw [HS.out]
    go_wp2_with fail
    refine CR.out.mono ?_
    rintro e w2 (⟨h, -⟩ | ⟨_, A2, n2, c2, rfl, r2, x2⟩)
    · exact absurd HBN.out (Nat.not_lt.2 h)
    have N2 := Kp.mk (Nv.of r2 HLB.out)
    clear r2
    go_wp2_with fail
    refine (CmpV (N2.out.ext (by (repeat (first | assumption | exact Ext.refl _ | apply Ext.drew | apply Ext.drewN | apply Ext.alloc | refine Ext.trans ?_ (by assumption))); first | done | fail)) (HV.out.ext (by (repeat (first | assumption | exact Ext.refl _ | apply Ext.drew | apply Ext.drewN | apply Ext.alloc | refine Ext.trans ?_ (by assumption))); first | done | fail)) _ Z.out).mono ?_
    rintro e w3 ⟨rfl, x3⟩
    have HX := Kp.mk (show Ext w1 w3 from (by (repeat (first | assumption | exact Ext.refl _ | apply Ext.drew | apply Ext.drewN | apply Ext.alloc | refine Ext.trans ?_ (by assumption))); first | done | fail))
    clear x2 x3
    go_wp2_with fail
    go_ret2
    exact ⟨rfl, HX.out⟩
  · have hne : ¬ (n : Int) = (N : Int) := by omega
    clear h hl ht hv hN
    go_enter Tryd.func28, Tryd.ntmps28
    go_wp2_with fail
    refine (sizeOf_any HV.out).mono ?_
    rintro e w1 ⟨rfl, hw⟩
    subst hw
    rw [HS.out]
    go_wp2_with fail
    go_ret2
    exact ⟨rfl, Ext.refl _⟩
end
end Go.Proofs.YticggkllfojgkaaDoor
namespace Go.Proofs.YticggkllfojgkaaDoor
open Go Go.RowKit
set_option maxRecDepth 4000

/-- the text of what was laid out to be hidden -/
def shownL (l : List (BitVec 8)) : Option (List (BitVec 8)) := if l.take 2 = [0, 2] ∧ fz (l.drop 2) < (l.drop 2).length ∧ 8 ≤ fz (l.drop 2) then some ((l.drop 2).drop (fz (l.drop 2) + 1)) else none
def TextR (w : World) (t : List (BitVec 8)) (e : Ending) (w' : World) : Prop := ∃ A n c, e = .returned (.tuple #[.slice A n c, .nilIface]) ∧ n ≤ 200 ∧ Bs w' A n c t ∧ Ext w w'
theorem box2s {w : World} {g t : Nat} {u v : Value} (h : Blk w g t #[u, v]) : (∀ w', Ext w w' → w'.cell? ⟨g, 0, none⟩ = some u) ∧ (∀ w', Ext w w' → w'.cell? ⟨g, 1, none⟩ = some v) :=
  ⟨fun _ hx => (box2 h hx).1, fun _ hx => (box2 h hx).2⟩
theorem box3t {w : World} {g t : Nat} {u v y : Value} (h : Blk w g t #[u, v, y]) : (∀ w', Ext w w' → w'.cell? ⟨g, 0, none⟩ = some u) ∧ (∀ w', Ext w w' → w'.cell? ⟨g, 1, none⟩ = some v) ∧ (∀ w', Ext w w' → w'.cell? ⟨g, 2, none⟩ = some y) :=
  ⟨fun _ hx => (box3 h hx).1, fun _ hx => (box3 h hx).2.1, fun _ hx => (box3 h hx).2.2⟩
theorem box_fwd {w w1 : World} {p : Addr} {v : Value} (h : ∀ w', Ext w w' → w'.cell? p = some v) (hx : Ext w w1) : ∀ w', Ext w1 w' → w'.cell? p = some v := fun w' h' => h w' (hx.trans h')
section
variable {A B D : Option Addr} {n c m d k f vn ve vd : Nat} {w : World} {l l1 l2 : List (BitVec 8)}
theorem textOf_some (hl : Bs w A n c l) (hn : n ≤ 200) {t : List (BitVec 8)} (h : shownL l = some t) : Calls Tryd.prog 36 #[.slice A n c] w (TextR w t) := by
  unfold shownL at h
  split at h
  · next hc =>
    obtain ⟨h1, h2, h3⟩ := hc
    injection h with ht
    have hx : Ext w (w.alloc (.cells #[.int .u8 0, .int .u8 2] 5)) := (by (repeat (first | assumption | exact Ext.refl _ | apply Ext.drew | apply Ext.drewN | apply Ext.alloc | refine Ext.trans ?_ (by assumption))); first | done | fail)
    have C := Kp.mk (CutPrefix_any (hl.ext hx) (lit_bytes w [0, 2] _ 2 rfl rfl _ rfl) (by omega) (by omega) h1)
    have hlen := hl.len
    have hz : fzI (l.drop 2) = (fz (l.drop 2) : Int) := if_pos h2
    rw [List.length_drop, hlen] at h2
    have HZ := Kp.mk hz
    have HX := Kp.mk hx
    have HT := Kp.mk ht
    obtain ⟨F, hF⟩ : ∃ F, fz (l.drop 2) = F := ⟨_, rfl⟩
    rw [hF] at h2 h3 HZ HT
    have d1 : decide ((F : Int) < 8) = false := decide_eq_false (by omega)
    have d2 : decide (F < 8) = false := decide_eq_false (by omega)
    clear hl h1 hz hF ht hx hlen
    go_enter Tryd.func36, Tryd.ntmps36
    go_wp2_with fail
    refine C.out.mono ?_
    rintro e w1 ⟨A1, c1, rfl, s1, hw⟩
    subst hw
    have hcap := s1.cap
    have C2 := Kp.mk (IndexByte_any s1)
    rw [HZ.out] at C2
    have hdr := s1.drop (F + 1) (by omega)
    rw [HT.out] at hdr
    have hs := fun W => run_from (P := Tryd.prog) A1 (n - 2) c1 26 5 Tryd.underlying26 szB (F + 1) ((F : Int) + 1) (by omega) (by omega) W
    obtain ⟨A', hA'⟩ : ∃ A', (if c1 = F + 1 then A1 else Option.map (fun x => x.add (F + 1)) A1) = A' := ⟨_, rfl⟩
    rw [hA'] at hdr
    simp only [hA'] at hs
    have HD := Kp.mk hdr
    have w1' : IntKind.i64.wrap ((F : Int) + 1) = (F : Int) + 1 := by rw [IntKind.wrap_i64]; omega
    clear hA' hdr s1
    obtain ⟨M, hM⟩ : ∃ M, n - 2 = M := ⟨_, rfl⟩
    rw [hM] at C2 HD hs hcap ⊢
    go_wp2_with fail
    refine C2.out.mono ?_
    rintro e w2 ⟨rfl, hw⟩
    subst hw
    go_wp2_with fail
    go_ret2
    exact ⟨_, _, _, rfl, by omega, HD.out, HX.out⟩
  · cases h
theorem textOf_none (hl : Bs w A n c l) (hn : n ≤ 200) (h : shownL l = none) : Calls Tryd.prog 36 #[.slice A n c] w (BadB w 7) := by
  have hx : Ext w (w.alloc (.cells #[.int .u8 0, .int .u8 2] 5)) := (by (repeat (first | assumption | exact Ext.refl _ | apply Ext.drew | apply Ext.drewN | apply Ext.alloc | refine Ext.trans ?_ (by assumption))); first | done | fail)
  have HX := Kp.mk hx
  by_cases h1 : l.take 2 = [0, 2]
  · have C := Kp.mk (CutPrefix_any (hl.ext hx) (lit_bytes w [0, 2] _ 2 rfl rfl _ rfl) (by omega) (by omega) h1)
    have hz : decide (fzI (l.drop 2) < 8) = true := decide_eq_true (by
      unfold fzI
      split
      · next h2 =>
        rcases Nat.lt_or_ge (fz (l.drop 2)) 8 with h3 | h3
        · omega
        · unfold shownL at h
          rw [if_pos ⟨h1, h2, h3⟩] at h
          cases h
      · decide)
    obtain ⟨F, hF⟩ : ∃ F, fzI (l.drop 2) = F := ⟨_, rfl⟩
    have HF := Kp.mk hF
    rw [hF] at hz
    have hz' : F < 8 := of_decide_eq_true hz
    clear hl hx h h1 hF
    go_enter Tryd.func36, Tryd.ntmps36
    go_wp2_with fail
    refine C.out.mono ?_
    rintro e w1 ⟨A1, c1, rfl, s1, hw⟩
    subst hw
    have C2 := Kp.mk (IndexByte_any s1)
    rw [HF.out] at C2
    clear s1
    go_wp2_with fail
    refine C2.out.mono ?_
    rintro e w2 ⟨rfl, hw⟩
    subst hw
    go_wp2_with fail
    go_ret2
    exact ⟨rfl, HX.out⟩
  · have C := Kp.mk (CutPrefix_not (hl.ext hx) (lit_bytes w [0, 2] _ 2 rfl rfl _ rfl) (by omega) (by omega) h1)
    clear hl hx h h1
    go_enter Tryd.func36, Tryd.ntmps36
    go_wp2_with fail
    refine C.out.mono ?_
    rintro e w1 ⟨rfl, hw⟩
    subst hw
    go_wp2_with fail
    go_ret2
    exact ⟨rfl, HX.out⟩
set_option maxHeartbeats 2000000 in
theorem Show_arg (hn : Nv w A n c vn) (he : Nv w B m d ve) (hd : Nv w D k f vd) {E : Option Addr} {p q : Nat} (h : ¬ SecOk vn ve vd) : Calls Tryd.prog 14 #[.agg #[.slice A n c, .slice B m d, .slice D k f], .slice E p q] w (BadB w 1) := by
  have HN := Kp.mk hn
  have HE := Kp.mk he
  have HD := Kp.mk hd
  have H := Kp.mk h
  have HB := Kp.mk (Blk.new w 30 #[.slice A n c, .slice B m d, .slice D k f])
  clear hn he hd h
  go_enter Tryd.func14, Tryd.ntmps14
  go_wp2_with (first | ((with_reducible refine at_load_to 8 2 ?_); refine wpList_load_row rfl 30 _ rfl w.heap.size rfl 30 _ (0, 0) _ HB.out.h Tryd.underlying30 rfl szS ?_) | fail)
  refine (secretMay_any (HN.out.ext (by (repeat (first | assumption | exact Ext.refl _ | apply Ext.drew | apply Ext.drewN | apply Ext.alloc | refine Ext.trans ?_ (by assumption))); first | done | fail)) (HE.out.ext (by (repeat (first | assumption | exact Ext.refl _ | apply Ext.drew | apply Ext.drewN | apply Ext.alloc | refine Ext.trans ?_ (by assumption))); first | done | fail)) (HD.out.ext (by (repeat (first | assumption | exact Ext.refl _ | apply Ext.drew | apply Ext.drewN | apply Ext.alloc | refine Ext.trans ?_ (by assumption))); first | done | fail)) false (by simp [H.out])).mono ?_
  rintro e w1 ⟨rfl, x1⟩
  have HX := Kp.mk (show Ext w w1 from (by (repeat (first | assumption | exact Ext.refl _ | apply Ext.drew | apply Ext.drewN | apply Ext.alloc | refine Ext.trans ?_ (by assumption))); first | done | fail))
  clear x1
  go_wp2_with fail
  go_ret2
  exact ⟨rfl, HX.out⟩
end
end Go.Proofs.YticggkllfojgkaaDoor
namespace Go.Proofs.YticggkllfojgkaaDoor
open Go Go.RowKit
set_option maxRecDepth 4000

section
variable {A B D E F : Option Addr} {n c m d k f p q y z vn ve vd : Nat} {w : World} {l l1 l2 : List (BitVec 8)}
set_option maxHeartbeats 2000000 in
theorem Show_wrong (hn : Nv w A n c vn) (he : Nv w B m d ve) (hd : Nv w D k f vd) (hl : Bs w E p q l) (h : SecOk vn ve vd) (hr : rs l vd vn = none) : Calls Tryd.prog 14 #[.agg #[.slice A n c, .slice B m d, .slice D k f], .slice E p q] w (BadB w 7) := by
  have HN := Kp.mk hn
  have HE := Kp.mk he
  have HD := Kp.mk hd
  have HL := Kp.mk hl
  have H := Kp.mk h
  have HB := Kp.mk (Blk.new w 30 #[.slice A n c, .slice B m d, .slice D k f])
  have HR := Kp.mk hr
  clear hr
  clear hn he hd h hl
  go_enter Tryd.func14, Tryd.ntmps14
  go_wp2_with (first | ((with_reducible refine at_load_to 8 2 ?_); refine wpList_load_row rfl 30 _ rfl w.heap.size rfl 30 _ (0, 0) _ HB.out.h Tryd.underlying30 rfl szS ?_) | fail)
  refine (secretMay_any (HN.out.ext (by (repeat (first | assumption | exact Ext.refl _ | apply Ext.drew | apply Ext.drewN | apply Ext.alloc | refine Ext.trans ?_ (by assumption))); first | done | fail)) (HE.out.ext (by (repeat (first | assumption | exact Ext.refl _ | apply Ext.drew | apply Ext.drewN | apply Ext.alloc | refine Ext.trans ?_ (by assumption))); first | done | fail)) (HD.out.ext (by (repeat (first | assumption | exact Ext.refl _ | apply Ext.drew | apply Ext.drewN | apply Ext.alloc | refine Ext.trans ?_ (by assumption))); first | done | fail)) true (by simp [H.out])).mono ?_
  rintro e w1 ⟨rfl, x1⟩
  obtain ⟨c0, c1, c2⟩ := box3 HB.out x1
  go_wp2_with fail
  refine (raised_none (HL.out.ext (by (repeat (first | assumption | exact Ext.refl _ | apply Ext.drew | apply Ext.drewN | apply Ext.alloc | refine Ext.trans ?_ (by assumption))); first | done | fail)) (HD.out.ext (by (repeat (first | assumption | exact Ext.refl _ | apply Ext.drew | apply Ext.drewN | apply Ext.alloc | refine Ext.trans ?_ (by assumption))); first | done | fail)) (HN.out.ext (by (repeat (first | assumption | exact Ext.refl _ | apply Ext.drew | apply Ext.drewN | apply Ext.alloc | refine Ext.trans ?_ (by assumption))); first | done | fail)) H.out.1.2.1 HR.out).mono ?_
  rintro e w2 ⟨rfl, x2⟩
  have HX := Kp.mk (show Ext w w2 from (by (repeat (first | assumption | exact Ext.refl _ | apply Ext.drew | apply Ext.drewN | apply Ext.alloc | refine Ext.trans ?_ (by assumption))); first | done | fail))
  clear x1 x2
  go_wp2_with fail
  go_ret2
  exact ⟨rfl, HX.out⟩
set_option maxHeartbeats 2000000 in
theorem Show_pad (hn : Nv w A n c vn) (he : Nv w B m d ve) (hd : Nv w D k f vd) (hl : Bs w E p q l) (h : SecOk vn ve vd) {r : List (BitVec 8)} (hr : rs l vd vn = some r) (ht : shownL r = none) : Calls Tryd.prog 14 #[.agg #[.slice A n c, .slice B m d, .slice D k f], .slice E p q] w (BadB w 7) := by
  have HN := Kp.mk hn
  have HE := Kp.mk he
  have HD := Kp.mk hd
  have HL := Kp.mk hl
  have H := Kp.mk h
  have HB := Kp.mk (Blk.new w 30 #[.slice A n c, .slice B m d, .slice D k f])
  have HR := Kp.mk hr
  have HT := Kp.mk ht
  clear hr ht
  clear hn he hd h hl
  go_enter Tryd.func14, Tryd.ntmps14
  go_wp2_with (first | ((with_reducible refine at_load_to 8 2 ?_); refine wpList_load_row rfl 30 _ rfl w.heap.size rfl 30 _ (0, 0) _ HB.out.h Tryd.underlying30 rfl szS ?_) | fail)
  refine (secretMay_any (HN.out.ext (by (repeat (first | assumption | exact Ext.refl _ | apply Ext.drew | apply Ext.drewN | apply Ext.alloc | refine Ext.trans ?_ (by assumption))); first | done | fail)) (HE.out.ext (by (repeat (first | assumption | exact Ext.refl _ | apply Ext.drew | apply Ext.drewN | apply Ext.alloc | refine Ext.trans ?_ (by assumption))); first | done | fail)) (HD.out.ext (by (repeat (first | assumption | exact Ext.refl _ | apply Ext.drew | apply Ext.drewN | apply Ext.alloc | refine Ext.trans ?_ (by assumption))); first | done | fail)) true (by simp [H.out])).mono ?_
  rintro e w1 ⟨rfl, x1⟩
  obtain ⟨c0, c1, c2⟩ := box3 HB.out x1
  go_wp2_with fail
  refine (raised_some (HL.out.ext (by (repeat (first | assumption | exact Ext.refl _ | apply Ext.drew | apply Ext.drewN | apply Ext.alloc | refine Ext.trans ?_ (by assumption))); first | done | fail)) (HD.out.ext (by (repeat (first | assumption | exact Ext.refl _ | apply Ext.drew | apply Ext.drewN | apply Ext.alloc | refine Ext.trans ?_ (by assumption))); first | done | fail)) (HN.out.ext (by (repeat (first | assumption | exact Ext.refl _ | apply Ext.drew | apply Ext.drewN | apply Ext.alloc | refine Ext.trans ?_ (by assumption))); first | done | fail)) (sh32 (SecOk.d H.out)) H.out.1.2.1 H.out.1.n0 HR.out).mono ?_
  rintro e w2 ⟨A2, c2', rfl, s2, _, x2⟩
  have S2 := Kp.mk s2
  have hN : nb vn ≤ 200 := by have := H.out.1.2.1; omega
  obtain ⟨N, hNN⟩ : ∃ N, nb vn = N := ⟨_, rfl⟩
  rw [hNN] at S2 hN ⊢
  clear s2 hNN
  have HX := Kp.mk (show Ext w w2 from (by (repeat (first | assumption | exact Ext.refl _ | apply Ext.drew | apply Ext.drewN | apply Ext.alloc | refine Ext.trans ?_ (by assumption))); first | done | fail))
  clear x1 x2
  go_wp2_with fail
  refine (textOf_none S2.out hN HT.out).mono ?_
  rintro e w3 ⟨rfl, x3⟩
  have HX3 := Kp.mk (HX.out.trans x3)
  clear x3
  go_wp2_with fail
  go_ret2
  exact ⟨rfl, HX3.out⟩
set_option maxHeartbeats 2000000 in
theorem Show_ok (hn : Nv w A n c vn) (he : Nv w B m d ve) (hd : Nv w D k f vd) (hl : Bs w E p q l) (h : SecOk vn ve vd) {r t : List (BitVec 8)} (hr : rs l vd vn = some r) (ht : shownL r = some t) : Calls Tryd.prog 14 #[.agg #[.slice A n c, .slice B m d, .slice D k f], .slice E p q] w (TextR w t) := by
  have HN := Kp.mk hn
  have HE := Kp.mk he
  have HD := Kp.mk hd
  have HL := Kp.mk hl
  have H := Kp.mk h
  have HB := Kp.mk (Blk.new w 30 #[.slice A n c, .slice B m d, .slice D k f])
  have HR := Kp.mk hr
  have HT := Kp.mk ht
  clear hr ht
  clear hn he hd h hl
  go_enter Tryd.func14, Tryd.ntmps14
  go_wp2_with (first | ((with_reducible refine at_load_to 8 2 ?_); refine wpList_load_row rfl 30 _ rfl w.heap.size rfl 30 _ (0, 0) _ HB.out.h Tryd.underlying30 rfl szS ?_) | fail)
  refine (secretMay_any (HN.out.ext (by (repeat (first | assumption | exact Ext.refl _ | apply Ext.drew | apply Ext.drewN | apply Ext.alloc | refine Ext.trans ?_ (by assumption))); first | done | fail)) (HE.out.ext (by (repeat (first | assumption | exact Ext.refl _ | apply Ext.drew | apply Ext.drewN | apply Ext.alloc | refine Ext.trans ?_ (by assumption))); first | done | fail)) (HD.out.ext (by (repeat (first | assumption | exact Ext.refl _ | apply Ext.drew | apply Ext.drewN | apply Ext.alloc | refine Ext.trans ?_ (by assumption))); first | done | fail)) true (by simp [H.out])).mono ?_
  rintro e w1 ⟨rfl, x1⟩
  obtain ⟨c0, c1, c2⟩ := box3 HB.out x1
  go_wp2_with fail
  refine (raised_some (HL.out.ext (by (repeat (first | assumption | exact Ext.refl _ | apply Ext.drew | apply Ext.drewN | apply Ext.alloc | refine Ext.trans ?_ (by assumption))); first | done | fail)) (HD.out.ext (by (repeat (first | assumption | exact Ext.refl _ | apply Ext.drew | apply Ext.drewN | apply Ext.alloc | refine Ext.trans ?_ (by assumption))); first | done | fail)) (HN.out.ext (by (repeat (first | assumption | exact Ext.refl _ | apply Ext.drew | apply Ext.drewN | apply Ext.alloc | refine Ext.trans ?_ (by assumption))); first | done | fail)) (sh32 (SecOk.d H.out)) H.out.1.2.1 H.out.1.n0 HR.out).mono ?_
  rintro e w2 ⟨A2, c2', rfl, s2, _, x2⟩
  have S2 := Kp.mk s2
  have hN : nb vn ≤ 200 := by have := H.out.1.2.1; omega
  obtain ⟨N, hNN⟩ : ∃ N, nb vn = N := ⟨_, rfl⟩
  rw [hNN] at S2 hN ⊢
  clear s2 hNN
  have HX := Kp.mk (show Ext w w2 from (by (repeat (first | assumption | exact Ext.refl _ | apply Ext.drew | apply Ext.drewN | apply Ext.alloc | refine Ext.trans ?_ (by assumption))); first | done | fail))
  clear x1 x2
  go_wp2_with fail
  refine (textOf_some S2.out hN HT.out).mono ?_
  rintro e w3 ⟨A3, n3, c3, rfl, h3, s3, x3⟩
  have S3 := Kp.mk (And.intro h3 s3)
  have HX3 := Kp.mk (HX.out.trans x3)
  clear x3 s3 h3
  go_wp2_with fail
  go_ret2
  exact ⟨_, _, _, rfl, S3.out.1, S3.out.2, HX3.out⟩
/-- is what is to be hidden amiss? -/
theorem fz_all (l : List (BitVec 8)) : fz l = l.length ↔ ∀ j, j < l.length → gb l j ≠ 0 := by
  constructor
  · intro h j hj
    exact fz_ahead l j (by omega)
  · intro h
    rcases Nat.lt_or_ge (fz l) l.length with h1 | h1
    · exact absurd (fz_at l h1) (h _ h1)
    · have := fz_le l
      omega
set_option maxHeartbeats 2000000 in
theorem Hide_arg (hn : Nv w A n c vn) (he : Nv w B m d ve) (ht : Bs w E p q l1) (hf : Bs w F y z l2) (hp : p ≤ 1000000) (hy : y ≤ 1000000) (h : ¬ PubOk vn ve)  : Calls Tryd.prog 9 #[.agg #[.slice A n c, .slice B m d], .slice E p q, .slice F y z] w (BadB w 1) := by
  have HN := Kp.mk hn
  have HE := Kp.mk he
  have HT := Kp.mk ht
  have HF := Kp.mk hf
  have H := Kp.mk h
  have HB := Kp.mk (Blk.new w 25 #[.slice A n c, .slice B m d])
  skip
  clear hn he h ht hf
  go_enter Tryd.func9, Tryd.ntmps9
  go_wp2_with (first | ((with_reducible refine at_load_to 9 3 ?_); refine wpList_load_row rfl 25 _ rfl w.heap.size rfl 25 _ (0, 0) _ HB.out.h Tryd.underlying25 rfl szP2 ?_) | fail)
  refine (publicMay_any (HN.out.ext (by (repeat (first | assumption | exact Ext.refl _ | apply Ext.drew | apply Ext.drewN | apply Ext.alloc | refine Ext.trans ?_ (by assumption))); first | done | fail)) (HE.out.ext (by (repeat (first | assumption | exact Ext.refl _ | apply Ext.drew | apply Ext.drewN | apply Ext.alloc | refine Ext.trans ?_ (by assumption))); first | done | fail)) false (by simp [H.out])).mono ?_
  rintro e w1 ⟨rfl, x1⟩
  obtain ⟨c0, c1⟩ := box2 HB.out x1
  have HX := Kp.mk (show Ext w w1 from (by (repeat (first | assumption | exact Ext.refl _ | apply Ext.drew | apply Ext.drewN | apply Ext.alloc | refine Ext.trans ?_ (by assumption))); first | done | fail))
  clear x1
  go_wp2_with fail
  go_ret2
  exact ⟨rfl, HX.out⟩
set_option maxHeartbeats 2000000 in
theorem Hide_long (hn : Nv w A n c vn) (he : Nv w B m d ve) (ht : Bs w E p q l1) (hf : Bs w F y z l2) (hp : p ≤ 1000000) (hy : y ≤ 1000000) (h : PubOk vn ve) (hlong : nb vn < p + 11) : Calls Tryd.prog 9 #[.agg #[.slice A n c, .slice B m d], .slice E p q, .slice F y z] w (BadB w 4) := by
  have HN := Kp.mk hn
  have HE := Kp.mk he
  have HT := Kp.mk ht
  have HF := Kp.mk hf
  have H := Kp.mk h
  have HB := Kp.mk (Blk.new w 25 #[.slice A n c, .slice B m d])
  obtain ⟨N, hN⟩ : ∃ N, nb vn = N := ⟨_, rfl⟩
  have HS := Kp.mk hN
  have hlo := h.1
  have hhi := h.2.1
  rw [hN] at hlo hhi
  rw [hN] at hlong
  have w1' : IntKind.i64.wrap ((N : Int) - 3) = (N : Int) - 3 := by rw [IntKind.wrap_i64]; omega
  have w2' : IntKind.i64.wrap ((N : Int) - 3 - (p : Int)) = (N : Int) - 3 - (p : Int) := by rw [IntKind.wrap_i64]; omega
  have d1 : (N : Int) - 3 - (p : Int) < 8 := by omega
  clear hN hlo hhi hlong
  clear hn he h ht hf
  go_enter Tryd.func9, Tryd.ntmps9
  go_wp2_with (first | ((with_reducible refine at_load_to 9 3 ?_); refine wpList_load_row rfl 25 _ rfl w.heap.size rfl 25 _ (0, 0) _ HB.out.h Tryd.underlying25 rfl szP2 ?_) | fail)
  refine (publicMay_any (HN.out.ext (by (repeat (first | assumption | exact Ext.refl _ | apply Ext.drew | apply Ext.drewN | apply Ext.alloc | refine Ext.trans ?_ (by assumption))); first | done | fail)) (HE.out.ext (by (repeat (first | assumption | exact Ext.refl _ | apply Ext.drew | apply Ext.drewN | apply Ext.alloc | refine Ext.trans ?_ (by assumption))); first | done | fail)) true (by simp [H.out])).mono ?_
  rintro e w1 ⟨rfl, x1⟩
  obtain ⟨c0, c1⟩ := box2 HB.out x1
  go_wp2_with fail
  refine (sizeOf_any (HN.out.ext (by (repeat (first | assumption | exact Ext.refl _ | apply Ext.drew | apply Ext.drewN | apply Ext.alloc | refine Ext.trans ?_ (by assumption))); first | done | fail))).mono ?_
  rintro e w2 ⟨rfl, hw⟩
  subst hw
  rw [HS.out]
  have HX := Kp.mk (show Ext w w2 from (by (repeat (first | assumption | exact Ext.refl _ | apply Ext.drew | apply Ext.drewN | apply Ext.alloc | refine Ext.trans ?_ (by assumption))); first | done | fail))
  clear x1
  go_wp2_with fail
  go_ret2
  exact ⟨rfl, HX.out⟩
set_option maxHeartbeats 2000000 in
theorem Hide_fill (hn : Nv w A n c vn) (he : Nv w B m d ve) (ht : Bs w E p q l1) (hf : Bs w F y z l2) (hp : p ≤ 1000000) (hy : y ≤ 1000000) (h : PubOk vn ve) (hs : p + 11 ≤ nb vn) (hbad : y ≠ nb vn - 3 - p ∨ fz l2 < l2.length) : Calls Tryd.prog 9 #[.agg #[.slice A n c, .slice B m d], .slice E p q, .slice F y z] w (BadB w 1) := by
  have HN := Kp.mk hn
  have HE := Kp.mk he
  have HT := Kp.mk ht
  have HF := Kp.mk hf
  have H := Kp.mk h
  have HB := Kp.mk (Blk.new w 25 #[.slice A n c, .slice B m d])
  obtain ⟨N, hN⟩ : ∃ N, nb vn = N := ⟨_, rfl⟩
  have HS := Kp.mk hN
  have hlo := h.1
  have hhi := h.2.1
  rw [hN] at hlo hhi
  rw [hN] at hs hbad
  have w1' : IntKind.i64.wrap ((N : Int) - 3) = (N : Int) - 3 := by rw [IntKind.wrap_i64]; omega
  have w2' : IntKind.i64.wrap ((N : Int) - 3 - (p : Int)) = (N : Int) - 3 - (p : Int) := by rw [IntKind.wrap_i64]; omega
  obtain ⟨G, hG⟩ : ∃ G, N - 3 - p = G := ⟨_, rfl⟩
  rw [hG] at hbad
  have d1 : (N : Int) - 3 - (p : Int) = (G : Int) := by omega
  have d2 : decide ((G : Int) < 8) = false := decide_eq_false (by omega)
  have d3 : decide (G < 8) = false := decide_eq_false (by omega)
  have d5 : (G : Int) < 200 := by omega
  have w3' : IntKind.i64.wrap (G : Int) = (G : Int) := by rw [IntKind.wrap_i64]; omega
  clear hN hlo hhi hs hG
  clear hn he h ht hf
  go_enter Tryd.func9, Tryd.ntmps9
  go_wp2_with (first | ((with_reducible refine at_load_to 9 3 ?_); refine wpList_load_row rfl 25 _ rfl w.heap.size rfl 25 _ (0, 0) _ HB.out.h Tryd.underlying25 rfl szP2 ?_) | fail)
  refine (publicMay_any (HN.out.ext (by (repeat (first | assumption | exact Ext.refl _ | apply Ext.drew | apply Ext.drewN | apply Ext.alloc | refine Ext.trans ?_ (by assumption))); first | done | fail)) (HE.out.ext (by (repeat (first | assumption | exact Ext.refl _ | apply Ext.drew | apply Ext.drewN | apply Ext.alloc | refine Ext.trans ?_ (by assumption))); first | done | fail)) true (by simp [H.out])).mono ?_
  rintro e w1 ⟨rfl, x1⟩
  obtain ⟨c0, c1⟩ := box2 HB.out x1
  go_wp2_with fail
  refine (sizeOf_any (HN.out.ext (by (repeat (first | assumption | exact Ext.refl _ | apply Ext.drew | apply Ext.drewN | apply Ext.alloc | refine Ext.trans ?_ (by assumption))); first | done | fail))).mono ?_
  rintro e w2 ⟨rfl, hw⟩
  subst hw
  rw [HS.out]
  by_cases hq : y = G
  · subst hq
    have hlt : fz l2 < l2.length := by rcases hbad with h | h; exact absurd rfl h; exact h
    have C := Kp.mk (IndexByte_any (HF.out.ext (show Ext w w2 from (by (repeat (first | assumption | exact Ext.refl _ | apply Ext.drew | apply Ext.drewN | apply Ext.alloc | refine Ext.trans ?_ (by assumption))); first | done | fail))))
    rw [show fzI l2 = (fz l2 : Int) from if_pos hlt] at C
    generalize fz l2 = J at C
    clear hbad hlt
    go_wp2_with fail
    refine C.out.mono ?_
    rintro e w3 ⟨rfl, hw⟩
    subst hw
    have HX := Kp.mk (show Ext w w3 from (by (repeat (first | assumption | exact Ext.refl _ | apply Ext.drew | apply Ext.drewN | apply Ext.alloc | refine Ext.trans ?_ (by assumption))); first | done | fail))
    clear x1
    have d4 : (0 : Int) ≤ (J : Int) := by omega
    go_wp2_with fail
    go_ret2
    exact ⟨rfl, HX.out⟩
  · have d4 : ¬ (y : Int) = (G : Int) := by omega
    clear hbad hq
    have HX := Kp.mk (show Ext w w2 from (by (repeat (first | assumption | exact Ext.refl _ | apply Ext.drew | apply Ext.drewN | apply Ext.alloc | refine Ext.trans ?_ (by assumption))); first | done | fail))
    clear x1
    go_wp2_with fail
    go_ret2
    exact ⟨rfl, HX.out⟩
set_option maxHeartbeats 2000000 in
theorem Hide_ok (hn : Nv w A n c vn) (he : Nv w B m d ve) (ht : Bs w E p q l1) (hf : Bs w F y z l2) (hp : p ≤ 1000000) (hy : y ≤ 1000000) (h : PubOk vn ve) (hs : p + 11 ≤ nb vn) (hy2 : y = nb vn - 3 - p) (hz : fz l2 = l2.length) {r : List (BitVec 8)} (hr : rs (hdL l2 l1) ve vn = some r) : Calls Tryd.prog 9 #[.agg #[.slice A n c, .slice B m d], .slice E p q, .slice F y z] w (FreshE w (nb vn) r) := by
  have HN := Kp.mk hn
  have HE := Kp.mk he
  have HT := Kp.mk ht
  have HF := Kp.mk hf
  have H := Kp.mk h
  have HB := Kp.mk (Blk.new w 25 #[.slice A n c, .slice B m d])
  obtain ⟨N, hN⟩ : ∃ N, nb vn = N := ⟨_, rfl⟩
  have HS := Kp.mk hN
  have hlo := h.1
  have hhi := h.2.1
  rw [hN] at hlo hhi
  rw [hN] at hs hy2 ⊢
  have w1' : IntKind.i64.wrap ((N : Int) - 3) = (N : Int) - 3 := by rw [IntKind.wrap_i64]; omega
  have w2' : IntKind.i64.wrap ((N : Int) - 3 - (p : Int)) = (N : Int) - 3 - (p : Int) := by rw [IntKind.wrap_i64]; omega
  have d1 : (N : Int) - 3 - (p : Int) = (y : Int) := by omega
  have d2 : decide ((y : Int) < 8) = false := decide_eq_false (by omega)
  have d3 : decide (y < 8) = false := decide_eq_false (by omega)
  have d5 : (y : Int) < 200 := by omega
  have w3' : IntKind.i64.wrap (y : Int) = (y : Int) := by rw [IntKind.wrap_i64]; omega
  have hyp : y + p ≤ 1000000 := by omega
  have HQ := Kp.mk (show y + p + 3 = N by omega)
  have HZ := Kp.mk (show fzI l2 = -1 from if_neg (by omega))
  have HR := Kp.mk hr
  clear hN hlo hhi hs hz hr hy2
  clear hn he h ht hf
  go_enter Tryd.func9, Tryd.ntmps9
  go_wp2_with (first | ((with_reducible refine at_load_to 9 3 ?_); refine wpList_load_row rfl 25 _ rfl w.heap.size rfl 25 _ (0, 0) _ HB.out.h Tryd.underlying25 rfl szP2 ?_) | fail)
  refine (publicMay_any (HN.out.ext (by (repeat (first | assumption | exact Ext.refl _ | apply Ext.drew | apply Ext.drewN | apply Ext.alloc | refine Ext.trans ?_ (by assumption))); first | done | fail)) (HE.out.ext (by (repeat (first | assumption | exact Ext.refl _ | apply Ext.drew | apply Ext.drewN | apply Ext.alloc | refine Ext.trans ?_ (by assumption))); first | done | fail)) true (by simp [H.out])).mono ?_
  rintro e w1 ⟨rfl, x1⟩
  obtain ⟨c0, c1⟩ := box2 HB.out x1
  go_wp2_with fail
  refine (sizeOf_any (HN.out.ext (by (repeat (first | assumption | exact Ext.refl _ | apply Ext.drew | apply Ext.drewN | apply Ext.alloc | refine Ext.trans ?_ (by assumption))); first | done | fail))).mono ?_
  rintro e w2 ⟨rfl, hw⟩
  subst hw
  rw [HS.out]
  have C := Kp.mk (IndexByte_any (HF.out.ext (show Ext w w2 from (by (repeat (first | assumption | exact Ext.refl _ | apply Ext.drew | apply Ext.drewN | apply Ext.alloc | refine Ext.trans ?_ (by assumption))); first | done | fail))))
  rw [HZ.out] at C
  go_wp2_with fail
  refine C.out.mono ?_
  rintro e w3 ⟨rfl, hw⟩
  subst hw
  clear C c0 c1
  obtain ⟨m0, m1⟩ := box2s (HB.out.ext x1)
  have HX := Kp.mk (show Ext w w3 from (by (repeat (first | assumption | exact Ext.refl _ | apply Ext.drew | apply Ext.drewN | apply Ext.alloc | refine Ext.trans ?_ (by assumption))); first | done | fail))
  have NN3 := Kp.mk (HN.out.ext HX.out)
  have NE3 := Kp.mk (HE.out.ext HX.out)
  have C := Kp.mk (laidToHide_any ((HF.out.ext HX.out).ext (Ext.refl w3).drew) ((HT.out.ext HX.out).ext (Ext.refl w3).drew) hyp N HQ.out)
  clear x1
  go_wp2_with fail
  refine wp_region_held_drew (S := fun w' => Ext w3 w') (by kernel_rfl) (Ext.refl w3).drew (fun hHeld => ?_)
  refine wpAnyH_take (i := 0) (oi := ⟨some 33, _, _, _, _, _⟩) (v := ?_) rfl (by kernel_rfl) (by kernel_rfl) (by kernel_rfl) (fun _ _ _ h => h) (Or.inl ⟨by rfl, ?_⟩) (by assumption) ?_
  rotate_left
  · (intro w hSw; (try dsimp only at hSw); go_simp; try with_reducible rfl)
  try simp only [Act.put, List.setIfInBounds_toArray, List.set_cons_zero, List.set_cons_succ]
  refine wpAnyH_take (i := 1) (oi := ⟨some 34, _, _, _, _, _⟩) (v := ?_) rfl (by kernel_rfl) (by kernel_rfl) (by kernel_rfl) (fun _ _ _ h => h) (Or.inl ⟨by rfl, ?_⟩) (by assumption) ?_
  rotate_left
  · (intro w hSw; (try dsimp only at hSw); go_simp; try with_reducible rfl)
  try simp only [Act.put, List.setIfInBounds_toArray, List.set_cons_zero, List.set_cons_succ]
  refine wpAnyH_take (i := 3) (oi := ⟨some 36, _, _, _, _, _⟩) (v := ?_) rfl (by kernel_rfl) (by kernel_rfl) (by kernel_rfl) (fun _ _ _ h => h) (Or.inl ⟨by rfl, ?_⟩) (by assumption) ?_
  rotate_left
  · (intro w hSw; (try dsimp only at hSw); go_simp; try with_reducible rfl)
  try simp only [Act.put, List.setIfInBounds_toArray, List.set_cons_zero, List.set_cons_succ]
  refine wpAnyH_take (i := 4) (oi := ⟨some 37, _, _, _, _, _⟩) (v := ?_) rfl (by kernel_rfl) (by kernel_rfl) (by kernel_rfl) (fun _ _ _ h => h) (Or.inl ⟨by rfl, ?_⟩) (by assumption) ?_
  rotate_left
  · (intro w hSw; (try dsimp only at hSw); go_simp; try with_reducible rfl)
  try simp only [Act.put, List.setIfInBounds_toArray, List.set_cons_zero, List.set_cons_succ]
  refine wpAnyH_take (i := 5) (oi := ⟨some 38, _, _, _, _, _⟩) (v := ?_) rfl (by kernel_rfl) (by kernel_rfl) (by kernel_rfl) (fun _ _ _ h => h) (Or.inl ⟨by rfl, ?_⟩) (by assumption) ?_
  rotate_left
  · (intro w hSw; (try dsimp only at hSw); go_simp; try with_reducible rfl)
  try simp only [Act.put, List.setIfInBounds_toArray, List.set_cons_zero, List.set_cons_succ]
  refine wpAnyH_take (i := 6) (oi := ⟨some 39, _, _, _, _, _⟩) (v := ?_) rfl (by kernel_rfl) (by kernel_rfl) (by kernel_rfl) (fun _ _ _ h => h) (Or.inl ⟨by rfl, ?_⟩) (by assumption) ?_
  rotate_left
  · (intro w hSw; (try dsimp only at hSw); go_simp; try with_reducible rfl)
  try simp only [Act.put, List.setIfInBounds_toArray, List.set_cons_zero, List.set_cons_succ]
  refine next_one 2 (by kernel_rfl) rfl (by rfl) fun K' HK' => ?_
  go_simp
  refine C.out.mono ?_
  rintro e w4 ⟨A4, c4, rfl, s4, _, x4⟩
  have x34 := Ext.trans hHeld x4
  have hS2 := Ext.trans hHeld x4
  refine held_go HK' hS2 (fun _ => ?_)
  clear HK'
  refine held_more (S' := fun w' => Ext w4 w') (fun _ h => Ext.trans hS2 h) _ _ _ _ ?_
  clear hHeld hS2
  have hHeld : Ext w4 w4 := Ext.refl _
  try simp only [Act.put, List.setIfInBounds_toArray, List.set_cons_zero, List.set_cons_succ]
  refine next_one 7 (by kernel_rfl) rfl (by rfl) fun K' HK' => ?_
  go_simp
  have CR := raised_some s4 (NE3.out.ext x34) (NN3.out.ext x34) (sh32 (PubOk.e H.out)) H.out.2.1 H.out.n0 HR.out
  rw [HS.out] at CR
  refine CR.mono ?_
  rintro e w5 ⟨A5, c5, rfl, s5, o5, x5⟩
  have HO := Kp.mk (o5.lower (HX.out.trans x34).size)
  have HS5 := Kp.mk s5
  have HX5 := Kp.mk ((HX.out.trans x34).trans x5)
  have hS2 := Ext.trans hHeld x5
  refine held_go HK' hS2 (fun _ => ?_)
  clear HK'
  refine held_more (S' := fun w' => Ext w5 w') (fun _ h => Ext.trans hS2 h) _ _ _ _ ?_
  clear hHeld hS2
  have hHeld : Ext w5 w5 := Ext.refl _
  try simp only [Act.put, List.setIfInBounds_toArray, List.set_cons_zero, List.set_cons_succ]
  refine wpAnyH_take (i := 8) (oi := ⟨some 41, _, _, _, _, _⟩) (v := ?_) rfl (by kernel_rfl) (by kernel_rfl) (by kernel_rfl) (fun _ _ _ h => h) (Or.inl ⟨by rfl, ?_⟩) (by assumption) ?_
  rotate_left
  · (intro w hSw; (try dsimp only at hSw); go_simp; try with_reducible rfl)
  try simp only [Act.put, List.setIfInBounds_toArray, List.set_cons_zero, List.set_cons_succ]
  refine wpAnyH_take (i := 9) (oi := ⟨some 42, _, _, _, _, _⟩) (v := ?_) rfl (by kernel_rfl) (by kernel_rfl) (by kernel_rfl) (fun _ _ _ h => h) (Or.inl ⟨by rfl, ?_⟩) (by assumption) ?_
  rotate_left
  · (intro w hSw; (try dsimp only at hSw); go_simp; try with_reducible rfl)
  try simp only [Act.put, List.setIfInBounds_toArray, List.set_cons_zero, List.set_cons_succ]
  refine wpAnyH_take (i := 10) (oi := ⟨some 6, _, _, _, _, _⟩) (v := ?_) rfl (by kernel_rfl) (by kernel_rfl) (by kernel_rfl) (fun _ _ _ h => h) (Or.inl ⟨by rfl, ?_⟩) (by assumption) ?_
  rotate_left
  · (intro w hSw; (try dsimp only at hSw); go_simp; try with_reducible rfl)
  try simp only [Act.put, List.setIfInBounds_toArray, List.set_cons_zero, List.set_cons_succ]
  refine wpAnyH_take (i := 11) (oi := ⟨some 7, _, _, _, _, _⟩) (v := ?_) rfl (by kernel_rfl) (by kernel_rfl) (by kernel_rfl) (fun _ _ _ h => h) (Or.inl ⟨by rfl, ?_⟩) (by assumption) ?_
  rotate_left
  · (intro w hSw; (try dsimp only at hSw); go_simp; try with_reducible rfl)
  try simp only [Act.put, List.setIfInBounds_toArray, List.set_cons_zero, List.set_cons_succ]
  refine wpAnyH_done (by kernel_rfl) ?_ _
  clear m0 m1 s4 s5 o5 CR
  go_wp2_with fail
  go_ret2
  exact ⟨A5, c5, rfl, HS5.out, HO.out, HX5.out⟩
end
end Go.Proofs.YticggkllfojgkaaDoor
