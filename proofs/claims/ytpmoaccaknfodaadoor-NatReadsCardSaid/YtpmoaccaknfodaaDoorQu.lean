/-
  nat: Read.
-/
import Derived.Test.YtpmoaccaknfodaaDoorQs
namespace Go.Proofs.YtpmoaccaknfodaaDoor
open Go Go.RowKit

theorem Dg.dropW {B : Nat} {l : List Nat} (h : Dg B l) (p : Nat → Bool) : Dg B (l.dropWhile p) := fun d hd => h d (List.dropWhile_sublist p |>.mem hd)
set_option maxHeartbeats 2000000 in
theorem Read_any {l : List Nat} {A : Option Addr} {n c : Nat} {w : World} (h : Rd vB w A n c l) (hd : Dg 256 l) (hn : n ≤ 1000000) :
    Calls Tryd.prog 5 #[.slice A n c] w (ReadR w l) := by
  have C := Kp.mk (trim_left h (by omega))
  have hnl := h.len
  have hle : (l.dropWhile (· == 0)).length ≤ n := by rw [← hnl]; exact (List.dropWhile_sublist _).length_le
  have ht := drop_top l
  have hv := vl_rev_drop 256 l
  have hdd := (hd.dropW (· == 0)).rev
  have hat : ∀ i, i < (l.dropWhile (· == 0)).length → dg (l.dropWhile (· == 0)) ((l.dropWhile (· == 0)).length - 1 - i) = dg (l.dropWhile (· == 0)).reverse i := fun i hi => by rw [dg_rev _ i hi]
  have hrl : (l.dropWhile (· == 0)).reverse.length = (l.dropWhile (· == 0)).length := List.length_reverse
  have hvv := hv
  generalize (l.dropWhile (· == 0)).reverse = r at *
  generalize l.dropWhile (· == 0) = L at *
  have HAT := Kp.mk hat
  have HD := Kp.mk hdd
  have HT := Kp.mk ht
  clear h hd hv hat hdd ht hnl
  go_enter Tryd.func5, Tryd.ntmps5
  go_wp2_with fail
  refine C.out.mono ?_
  rintro e w1 ⟨A1, m, c1, rfl, h1, rfl⟩
  have hm := h1.len
  have HR := Kp.mk h1
  clear h1 C
  have hli := long_iff HD.out HT.out
  by_cases hlong : m ≤ 256
  · have hlt : vl 256 r < 256 ^ 256 := hli.1 (by omega)
    have HLT := Kp.mk hlt
    have bl : decide ((256 : Int) < (m : Int)) = false := decide_eq_false (by omega)
    obtain ⟨K, hK⟩ : ∃ K, K = (m + 3) / 4 := ⟨_, rfl⟩
    have q0 : ((m : Int) + 3) / 4 = (K : Int) := by omega
    have q1 : ((m : Int) + 4 - 1) / 4 = (K : Int) := by omega
    have hmk := run_makeL K (K : Int) rfl (by omega)
    have HST := Kp.mk (RdS.start r K)
    have HL0 := Kp.mk (Lb.new w1 (zl K))
    have HKK := Kp.mk hK
    have hKb : K ≤ 64 := by omega
    rw [show List.replicate K 0 = zl K from rfl] at HST
    clear hli hlt hlong hK
    generalize zl K = Z at *
    go_wp2_with fail
    go_loopw [20] (fun iv wr => ∃ (i : Nat) (S : List Nat), i ≤ m ∧ iv = .int .i64 (i : Int) ∧ RdS r K i S ∧ Lb wr w1.heap.size S ∧ Ext w1 wr) (fun iv _ => m - (intOf iv).toNat)
    case atStart => exact ⟨0, Z, by omega, rfl, HST.out, HL0.out, (by (repeat (first | assumption | exact Ext.refl _ | apply Ext.drew | apply Ext.drewN | apply Ext.alloc | refine Ext.trans ?_ (by assumption))); first | done | fail)⟩
    case round =>
      obtain ⟨i, S, hi, rfl, hs, hL, hx⟩ := hrel
      have hKK := HKK.out
      by_cases hlt : i < m
      · obtain ⟨g, o, rfl⟩ := HR.out.some_ (by omega)
        obtain ⟨j, hj⟩ : ∃ j, m - 1 - i = j := ⟨_, rfl⟩
        have kb := (HR.out.ext hx).dig j (by omega)
        unfold vB at kb
        have ha := HAT.out i (by omega)
        rw [hm, hj] at ha
        rw [ha] at kb
        obtain ⟨q, hq⟩ : ∃ q, i / 4 = q := ⟨_, rfl⟩
        obtain ⟨s, hs4⟩ : ∃ s, i % 4 = s := ⟨_, rfl⟩
        have hiq : i = 4 * q + s := by omega
        have hs3 : s < 4 := by omega
        have hqK : q < K := by omega
        have k3 := Lb.cell hL q (by rw [hs.len]; exact hqK)
        have k4 := Lb.free hL q
        have hlow := hs.low HD.out hiq (by omega) hqK
        have hy := HD.out.at (by decide) i
        have HNX := Kp.mk (hs.next HD.out hiq hs3 (by omega) hqK)
        have HSET := Kp.mk (fun z => Lb.set hL q z)
        have HX := Kp.mk hx
        generalize dg r i = y at *
        generalize dg S q = x at *
        obtain ⟨E, hE⟩ : ∃ E, 8 * s = E := ⟨_, rfl⟩
        rw [hE] at hlow HNX
        have hE24 : E ≤ 24 := by omega
        have hp24 : 2 ^ E ≤ 2 ^ 24 := Nat.pow_le_pow_right (by decide) hE24
        obtain ⟨p, hp⟩ : ∃ p, 2 ^ E = p := ⟨_, rfl⟩
        have hyp : y * p ≤ 255 * 16777216 := Nat.mul_le_mul (by omega) (by rw [← hp]; exact hp24)
        have eor : x ||| y * p = y * p + x := by rw [← hp]; exact or_low x y E hlow
        have c1 : (y : Int) * 2 ^ E = ((y * p : Nat) : Int) := by rw [← hp]; simp
        have c2 : ((2 : Int) ^ E) = (p : Int) := by rw [← hp]; simp
        rw [hp] at hlow HNX
        obtain ⟨Y, hY⟩ : ∃ Y, y * p = Y := ⟨_, rfl⟩
        rw [hY] at eor c1 hyp HNX
        have c3 : (y : Int) * (p : Int) = (Y : Int) := by rw [← hY]; simp
        have c4 : IntKind.u32.wrap (Y : Int) = (Y : Int) := by rw [IntKind.wrap_u32]; omega
        have c5 := or32 x Y (by omega) (by omega)
        rw [eor] at c5
        obtain ⟨T, hT⟩ : ∃ T, Y + x = T := ⟨_, rfl⟩
        rw [hT] at c5 HNX
        have d0 : (i : Int) < (m : Int) := by omega
        have d1 : (i : Int) / 4 = (q : Int) := by omega
        have d2 : (i : Int) % 4 = (s : Int) := by omega
        have d3 : (m : Int) - 1 - (i : Int) = (j : Int) := by omega
        have d4 : (s : Int) * 8 = (E : Int) := by omega
        have d5 : (q : Int) < (K : Int) := by omega
        have d6 : (j : Int) < (m : Int) := by omega
        have d7 : (i : Int) < 300 := by omega
        have d8 : (E : Int) < 32 := by omega
        have w1' : IntKind.i64.wrap ((m : Int) - 1) = (m : Int) - 1 := by rw [IntKind.wrap_i64]; omega
        have w2' : IntKind.i64.wrap ((m : Int) - 1 - (i : Int)) = (j : Int) := by rw [IntKind.wrap_i64]; omega
        have w3' : IntKind.i64.wrap ((s : Int) * 8) = (E : Int) := by rw [IntKind.wrap_i64]; omega
        have w4' : (i : Int).tdiv 4 = (q : Int) := by rw [Int.tdiv_eq_ediv_of_nonneg (by omega)]; exact d1
        have w5' : (i : Int).tmod 4 = (s : Int) := by rw [Int.tmod_eq_emod_of_nonneg (by omega)]; exact d2
        have wj' : IntKind.i64.wrap (j : Int) = (j : Int) := by rw [IntKind.wrap_i64]; omega
        have wE' : IntKind.i64.wrap (E : Int) = (E : Int) := by rw [IntKind.wrap_i64]; omega
        have wm' : IntKind.i64.wrap (m : Int) = (m : Int) := by rw [IntKind.wrap_i64]; omega
        have w6' : IntKind.i64.wrap (q : Int) = (q : Int) := by rw [IntKind.wrap_i64]; omega
        have w7' : IntKind.i64.wrap (s : Int) = (s : Int) := by rw [IntKind.wrap_i64]; omega
        clear hs hL hx ha hj hq hs4 hlow hE hp hY hT eor hp24 hKK hm hrl hle q0 q1 hvv hiq
        go_wp2_with fail
        go_region
        go_wp2_with fail
        go_roundw
        case rel => exact ⟨i + 1, _, by omega, by go_num, HNX.out, (HSET.out T).ext (Ext.refl _).drew, (HX.out.setCell (p := ⟨w1.heap.size, q, none⟩) (Nat.le_refl _) _).drew⟩
        case measure => simp [intOf]; omega
      · obtain rfl : i = m := by omega
        have hcn := RdS.cn (r := r) (K := K) (L := S) (by rw [hrl, hm]; exact hs) (by rw [hrl, hm]; exact hKK) HT.out HD.out
        have HF := Kp.mk (show ReadR w1 l (.returned (.tuple #[.slice (some ⟨w1.heap.size, 0, none⟩) K K, .nilIface])) wr from
          .inr ⟨by rw [← hvv]; exact HLT.out, _, _, _, rfl, by rw [← hvv, ← hcn]; exact Lb.own hL (Nat.le_refl _) hs.len (by unfold maxLen; omega), hx⟩)
        clear hs hL hx hcn hKK hm hrl hle q0 q1 hvv
        go_wp2_with fail
        go_ret2
        exact HF.out
  · have hge : 256 ^ 256 ≤ vl 256 r := Nat.le_of_not_lt fun h => hlong (by rw [← hm, ← hrl]; exact hli.2 h)
    have bl : decide ((256 : Int) < (m : Int)) = true := decide_eq_true (by omega)
    have HGE := Kp.mk hge
    clear hli hge
    go_wp2_with fail
    go_ret2
    exact .inl ⟨by rw [← hvv]; exact HGE.out, rfl, Ext.refl _⟩
theorem ReadR_eq (w : World) (l : List Nat) : ReadR w l = fun e w' => (256 ^ 256 ≤ vl 256 l.reverse ∧ Bad1 w 4 e w') ∨ (vl 256 l.reverse < 256 ^ 256 ∧ Ok1 w (vl 256 l.reverse) e w') := rfl
end Go.Proofs.YtpmoaccaknfodaaDoor
