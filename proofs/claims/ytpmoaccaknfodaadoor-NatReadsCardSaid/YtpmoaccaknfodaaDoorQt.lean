/-
  The reference's Bytes.
-/
import Derived.Test.YtpmoaccaknfodaaDoorQr
namespace Go.Proofs.YtpmoaccaknfodaaDoor
open Go Go.RowKit

set_option maxHeartbeats 1000000 in
theorem Bytes_any {l : List Nat} {A : Option Addr} {n c : Nat} {w : World} (h : Rd vB w A n c l) (hd : Dg 256 l) (hn : n ≤ 1000000000000) :
    Calls Tryd.prog 6 #[.slice A n c] w (FreshN w (vl 256 l.reverse)) := by
  have hlen := h.len
  obtain ⟨r, hr⟩ : ∃ r, l.reverse = r := ⟨_, rfl⟩
  have hrl : r.length = n := by rw [← hr, List.length_reverse, hlen]
  have hdr : Dg 256 r := by rw [← hr]; exact hd.rev
  have hat : ∀ i, i < n → dg l (n - 1 - i) = dg r i := fun i hi => by rw [← hr, dg_rev l i (by omega), hlen]
  rw [hr]
  have HR := Kp.mk h
  have HD := Kp.mk hdr
  have HAT := Kp.mk hat
  clear h hd hr hdr hat
  go_enter Tryd.func6, Tryd.ntmps6
  go_wp2_with fail
  go_loopw [3, 4] (fun ov iv wr => ∃ j : Nat, 2 * j ≤ n + 1 ∧ iv = .int .i64 ((n : Int) - 1 - 2 * (j : Int)) ∧ (∃ A c, ov = .slice A j c) ∧ Rn wr w.heap.size ov j (jn 256 (r.take (2 * j))) ∧ Ext w wr) (fun _ i _ => (intOf i + 3).toNat)
  case atStart => exact ⟨0, by omega, by go_num, ⟨_, _, rfl⟩, Rw.nil _ _, Ext.refl _⟩
  case round =>
    obtain ⟨j, hj, rfl, ⟨Ao, co, rfl⟩, ho, hx⟩ := hrel
    by_cases hlt : 2 * j < n
    · obtain ⟨g, o, rfl⟩ := HR.out.some_ (by omega)
      obtain ⟨i, hi⟩ : ∃ i : Nat, n - 1 - 2 * j = i := ⟨_, rfl⟩
      have e0 : (n : Int) - 1 - 2 * (j : Int) = (i : Int) := by omega
      rw [e0]
      have k1 : wr.cell? ⟨g, o + i, none⟩ = some (.int .u8 (dg l i : Int)) := (HR.out.ext hx).dig i (by omega)
      have ha := HAT.out (2 * j) hlt
      rw [hi] at ha
      rw [ha] at k1
      have h1 := HD.out.at (by decide) (2 * j)
      have b0 : (i : Int) < (n : Int) := by omega
      have HRO := Kp.mk ho
      have HX := Kp.mk hx
      have HE := Kp.mk (And.intro hi e0)
      by_cases h2 : 2 * j + 1 < n
      · obtain ⟨k, hk⟩ : ∃ k, i = k + 1 := ⟨i - 1, by omega⟩
        have k2 : wr.cell? ⟨g, o + k, none⟩ = some (.int .u8 (dg l k : Int)) := (HR.out.ext hx).dig k (by omega)
        have ha2 := HAT.out (2 * j + 1) h2
        rw [show n - 1 - (2 * j + 1) = k by omega] at ha2
        rw [ha2] at k2
        have h3 := HD.out.at (by decide) (2 * j + 1)
        have HT := Kp.mk (jn_take2 256 r j (by omega))
        have HK := Kp.mk hk
        have b2 : (k : Int) < (n : Int) := by omega
        have e1 : (i : Int) - 1 = (k : Int) := by omega
        have g1 : (0 : Int) < (i : Int) := by omega
        have g2 : 0 < i := by omega
        clear hk
        clear ho hx hi e0 ha ha2
        generalize dg r (2 * j) = x at *
        generalize dg r (2 * j + 1) = y at *
        obtain ⟨z, hz⟩ : ∃ z : Nat, x + y * 256 = z := ⟨_, rfl⟩
        obtain ⟨v, hv⟩ : ∃ v : Nat, y * 256 = v := ⟨_, rfl⟩
        have e6 : (y : Int) * 256 = (v : Int) := by omega
        have e5 : (x : Int) + (v : Int) = (z : Int) := by omega
        have b6 : (v : Int) < 65536 := by omega
        have b5 : (z : Int) < 65536 := by omega
        have b7 : (x : Int) < 256 := by omega
        have b8 : (y : Int) < 256 := by omega
        rw [hz] at HT
        clear hz hv
        go_wp2_with (first | (at_builtin; refine wpList_append_I rfl (.tmp 29) (.tmp 31) rfl w.heap.size (.slice Ao j co) j _ rfl (HRO.out.ext (by (repeat (first | assumption | exact Ext.refl _ | apply Ext.drew | apply Ext.drewN | apply Ext.alloc | refine Ext.trans ?_ (by assumption))); first | done | fail)) _ 1 1 [z] rfl (lit1 _ _ _ rfl) (by omega) (j + 1) rfl _ HT.out.symm w (HX.out.trans (by (repeat (first | assumption | exact Ext.refl _ | apply Ext.drew | apply Ext.drewN | apply Ext.alloc | refine Ext.trans ?_ (by assumption))); first | done | fail)) (Nat.le_refl _) (HX.out.trans (by (repeat (first | assumption | exact Ext.refl _ | apply Ext.drew | apply Ext.drewN | apply Ext.alloc | refine Ext.trans ?_ (by assumption))); first | done | fail)).size ?_; intro A5 c5 w5 ho5 hx5 _) | fail)
        go_roundw
        case rel => have hi := HE.out; have hk := HK.out; exact ⟨j + 1, by omega, by go_num, ⟨_, _, rfl⟩, ho5, hx5⟩
        case measure => have hi := HE.out; have hk := HK.out; simp [intOf]; omega
      · have HT := Kp.mk (jn_take1 256 r j (by omega))
        obtain rfl : i = 0 := by omega
        rw [Nat.add_zero] at k1
        rw [show ((0 : Nat) : Int) = 0 from rfl] at b0 ⊢
        clear ho hx hi e0 ha
        generalize dg r (2 * j) = x at *
        have b7 : (x : Int) < 256 := by omega
        go_wp2_with (first | (at_builtin; refine wpList_append_I rfl (.tmp 29) (.tmp 31) rfl w.heap.size (.slice Ao j co) j _ rfl (HRO.out.ext (by (repeat (first | assumption | exact Ext.refl _ | apply Ext.drew | apply Ext.drewN | apply Ext.alloc | refine Ext.trans ?_ (by assumption))); first | done | fail)) _ 1 1 [x] rfl (lit1 _ _ _ (by first | rfl | omega)) (by omega) (j + 1) rfl _ HT.out.symm w (HX.out.trans (by (repeat (first | assumption | exact Ext.refl _ | apply Ext.drew | apply Ext.drewN | apply Ext.alloc | refine Ext.trans ?_ (by assumption))); first | done | fail)) (Nat.le_refl _) (HX.out.trans (by (repeat (first | assumption | exact Ext.refl _ | apply Ext.drew | apply Ext.drewN | apply Ext.alloc | refine Ext.trans ?_ (by assumption))); first | done | fail)).size ?_; intro A5 c5 w5 ho5 hx5 _) | fail)
        go_roundw
        case rel => have hi := HE.out; exact ⟨j + 1, by omega, by go_num, ⟨_, _, rfl⟩, ho5, hx5⟩
        case measure => simp [intOf]
    · rw [List.take_of_length_le (by omega)] at ho
      have b0 : decide ((0 : Int) ≤ (n : Int) - 1 - 2 * (j : Int)) = false := decide_eq_false (by omega)
      have C := Kp.mk (FreshN.of_trim (v := vl 256 r) ho (jn_dg (by decide) HD.out) (by omega) (jn_vl 256 r) hx)
      clear ho hx
      generalize (n : Int) - 1 - 2 * (j : Int) = y at *
      go_wp2_with fail
      refine C.out.mono ?_
      rintro e w2 ⟨A2, n2, c2, rfl, hr2, ho2, hx2⟩
      go_wp2_with fail
      go_ret
      exact ⟨A2, n2, c2, rfl, hr2, ho2, hx2⟩
end Go.Proofs.YtpmoaccaknfodaaDoor
