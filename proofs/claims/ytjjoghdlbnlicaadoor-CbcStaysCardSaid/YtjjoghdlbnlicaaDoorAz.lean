/-
  The walks of keysOf, encrypted, decrypted.
-/
import Derived.Test.YtjjoghdlbnlicaaDoorAy
namespace Go.Proofs.YtjjoghdlbnlicaaDoor
open Go Go.RowKit

/-- the rounds' keys in one block -/
def kF (key : List (BitVec 8)) (j : Nat) : BitVec 8 := gb (ks key (j / 16)) (j % 16)
def kf (key : List (BitVec 8)) (n : Nat) : List (BitVec 8) := fl 176 (kF key) (zb 176) (16 * (n + 1))
def kA (key : List (BitVec 8)) : List (BitVec 8) := li 176 (kF key)
theorem kf_len (key : List (BitVec 8)) (n : Nat) : (kf key n).length = 176 := fl_len _ _ _ _
theorem kA_len (key : List (BitVec 8)) : (kA key).length = 176 := li_len _ _
theorem kf_end (key : List (BitVec 8)) : kf key 10 = kA key := fl_end 176 (kF key) (zb 176)
theorem kF_at (key : List (BitVec 8)) (m j : Nat) (hj : j < 16) : kF key (16 * m + j) = gb (ks key m) j := by
  unfold kF
  rw [show (16 * m + j) / 16 = m by omega, show (16 * m + j) % 16 = j by omega]
theorem kf_piece (key : List (BitVec 8)) (n m j : Nat) (hj : j < 16) (hm : m ≤ n) (hn : n ≤ 10) : gb (kf key n) (16 * m + j) = gb (ks key m) j := by
  unfold kf
  rw [fl_gb _ _ _ _ _ (by omega), if_pos (by omega), kF_at _ _ _ hj]
theorem kA_piece (key : List (BitVec 8)) (m j : Nat) (hj : j < 16) (hm : m ≤ 10) : gb (kA key) (16 * m + j) = gb (ks key m) j := by
  rw [← kf_end, kf_piece key 10 m j hj hm (Nat.le_refl _)]
theorem kf_next (key : List (BitVec 8)) (h : key.length = 16) (n : Nat) (hn : n < 10) : puts (kf key n) (16 * (n + 1)) (ks key (n + 1)) = kf key (n + 1) := by
  have hk := ks_len key h (n + 1)
  apply ext_gb
  · rw [puts_len, kf_len, kf_len]
  · intro i hi
    rw [puts_len, kf_len] at hi
    rw [puts_gb _ _ _ _ (by rw [kf_len, hk]; omega), hk]
    unfold kf
    rw [fl_gb _ _ _ _ _ hi, fl_gb _ _ _ _ _ hi]
    by_cases h1 : 16 * (n + 1) ≤ i ∧ i < 16 * (n + 1) + 16
    · rw [if_pos h1, if_pos (by omega)]
      obtain ⟨d, rfl⟩ : ∃ d, i = 16 * (n + 1) + d := ⟨i - 16 * (n + 1), by omega⟩
      rw [Nat.add_sub_cancel_left, kF_at _ _ _ (by omega)]
    · rw [if_neg h1]
      by_cases h2 : i < 16 * (n + 1)
      · rw [if_pos h2, if_pos (by omega)]
      · rw [if_neg h2, if_neg (by omega)]
abbrev ka : TypeId := 52
theorem szK (l : List (BitVec 8)) (h : l.length = 176) : (Tryd.prog.info? 52).map (·.size) = some (bv l).size := by rw [bv_size, h]; kernel_rfl
theorem built_keys : ∀ (key : List (BitVec 8)), key.length = 16 → Tryd.prog.built 52 [(0, .agg (bv key))] = some (bv (kf key 0))
  | [a0, a1, a2, a3, a4, a5, a6, a7, a8, a9, a10, a11, a12, a13, a14, a15], _ => by kernel_rfl
theorem build_keys (key : List (BitVec 8)) (h : key.length = 16) (w : World) : (Instr.build 52 #[(0, .agg (bv key))]).run Tryd.prog w = .ok (.agg (bv (kf key 0))) w := by
  exact run_build w _ _ _ (built_keys key h)

set_option maxHeartbeats 2000000 in
theorem keysOf_any (key : List (BitVec 8)) (w : World) (hk : key.length = 16) (hw : Lay3 w) :
    Calls Tryd.prog 26 #[.agg (bv key)] w fun e w' => e = .returned (.agg (bv (kA key))) ∧ Ext w w' := by
  have hz := zeroK
  go_enter Tryd.func26, Tryd.ntmps26
  have h0 : Blk ((w.alloc (.cells (bv key) sq)).alloc (.cells (bv (zb 176)) ka)) w.heap.size sq (bv key) := ⟨(by (repeat (first | (with_reducible apply Has.drew) | exact Has.new _ _ _ _ (by first | (simp; done) | fail) | (with_reducible apply Has.alloc))); first | done | fail)⟩
  have hR' : Blk (((w.alloc (.cells (bv key) sq)).alloc (.cells (bv (zb 176)) ka)).alloc (.cells (bv (zb 176)) ka)) (w.heap.size + 1) ka (bv (zb 176)) := ⟨(by (repeat (first | (with_reducible apply Has.drew) | exact Has.new _ _ _ _ (by first | (simp; done) | fail) | (with_reducible apply Has.alloc))); first | done | fail)⟩
  have hZ : Blk (((w.alloc (.cells (bv key) sq)).alloc (.cells (bv (zb 176)) ka)).alloc (.cells (bv (zb 176)) ka)) (w.heap.size + 1 + 1) ka (bv (zb 176)) := ⟨(by (repeat (first | (with_reducible apply Has.drew) | exact Has.new _ _ _ _ (by first | (simp; done) | fail) | (with_reducible apply Has.alloc))); first | done | fail)⟩
  have hx' : Ext w (((w.alloc (.cells (bv key) sq)).alloc (.cells (bv (zb 176)) ka)).alloc (.cells (bv (zb 176)) ka)) := (by (repeat (first | assumption | exact Ext.refl _ | apply Ext.drew | apply Ext.drewN | apply Ext.alloc | refine Ext.trans ?_ (by assumption))); first | done | fail)
  go_wp2_with (first | (refine wpList_load_row rfl sq _ rfl w.heap.size rfl sq _ (0, 0) _ h0.h Tryd.underlying50 rfl (szQ _ hk) ?_) | (refine wpList_build1 rfl ka 0 _ rfl (.agg (bv key)) rfl _ (build_keys key hk _) ?_) | (refine wpList_store_row rfl ka _ _ rfl (w.heap.size + 1 + 1) (bv (kf key 0)) rfl rfl ka _ hZ.h (szK _ (kf_len _ _)) (by rw [bv_size, bv_size, kf_len, zb_len]) (bv_one _) ?_) | fail)
  have hx := hx'.setRow (show w.heap.size ≤ w.heap.size + 1 + 1 by omega) (bv (kf key 0))
  have hR := hR'.rowfar (show w.heap.size + 1 ≠ w.heap.size + 1 + 1 by omega) (bv (kf key 0))
  have hB := hZ.row (bv (kf key 0))
  change Code.wp _ _ _ _ (World.setRow (((w.alloc (.cells (bv key) sq)).alloc (.cells (bv (zb 176)) ka)).alloc (.cells (bv (zb 176)) ka)) (w.heap.size + 1 + 1) (bv (kf key 0)))
  clear h0 hR' hZ hx' hz
  generalize World.setRow (((w.alloc (.cells (bv key) sq)).alloc (.cells (bv (zb 176)) ka)).alloc (.cells (bv (zb 176)) ka)) (w.heap.size + 1 + 1) (bv (kf key 0)) = w0 at *
  obtain ⟨g, hg⟩ : ∃ g, g = w.heap.size := ⟨_, rfl⟩
  rw [← hg] at hB hR ⊢
  have HG := Kp.mk hg
  have HK := Kp.mk hk
  have HW := Kp.mk hw
  clear hg hk hw
  go_loopw [4, 5] (fun nv iv wr => ∃ n : Nat, n ≤ 10 ∧ nv = .int .u8 (ub (num n)) ∧ iv = .int .i64 ((n : Int) + 1) ∧ Blk wr (g + 1) ka (bv (zb 176)) ∧ Blk wr (g + 1 + 1) ka (bv (kf key n)) ∧ Ext w wr) (fun _ i _ => 11 - (intOf i).toNat)
  case atStart => exact ⟨0, by omega, rfl, rfl, hR, hB, hx⟩
  case round =>
    clear hR hB hx
    obtain ⟨n, hn, rfl, rfl, hR, hB, hx⟩ := hrel
    by_cases hlt : n < 10
    · have b1 : (n : Int) + 1 < 11 := by omega
      have hkl := ks_len key HK.out n
      have hrg : Rge wr (g + 1 + 1) (n * 16) (ks key n) := ⟨hB.piece _ _ (fun j hj => by rw [Nat.mul_comm]; exact kf_piece key n n j (by omega) (Nat.le_refl _) (by omega)) (by rw [kf_len, hkl]; omega)⟩
      have HKF : Kp (puts (kf key n) ((n + 1) * 16) (nk (ks key n) (num n)) = kf key (n + 1)) := ⟨by rw [Nat.mul_comm]; exact kf_next key HK.out n hlt⟩
      have HB := Kp.mk hB
      have HR := Kp.mk hR
      have HX := Kp.mk hx
      clear hB hR
      go_wp2_with (first | (go_at_call 39; refine (nextKey_any (ks key n) (num n) wr hkl (HW.out.ext hx)).mono ?_; rintro e w5 ⟨rfl, hx5⟩; have hB5 := HB.out.ext hx5; have hth : Thr w5 (g + 1 + 1) ((n + 1) * 16) (nk (ks key n) (num n)).length := ⟨hB5.there _ _ (by rw [nk_len, kf_len]; omega)⟩) | (go_at_call 40; refine (twice_any _ _).mono ?_; rintro e w6 ⟨rfl, rfl⟩) | (with_reducible refine at_load 15 ?_; refine wpList_load_rge rfl sq (.tmp 15) rfl (g + 1 + 1) (n * 16) (ks key n) hrg rfl _ Tryd.underlying50 rfl (szQ _ hkl) ?_) | (with_reducible refine at_store 19 18 ?_; refine wpList_store_thr rfl sq (.tmp 19) (.tmp 18) rfl (g + 1 + 1) ((n + 1) * 16) (nk (ks key n) (num n)) hth rfl rfl (szQ _ (nk_len _ _)) ?_) | fail)
      go_roundw
      case rel =>
        refine ⟨n + 1, by omega, rfl, by go_num, (HR.out.ext hx5).setCells_far (show g + 1 ≠ g + 1 + 1 by omega) _ _, ?_, Ext.setCells (show w.heap.size ≤ g + 1 + 1 by have := HG.out; omega) _ _ (HX.out.trans hx5)⟩
        rw [← HKF.out]
        exact hB5.setCells _ _
      case measure => simp [intOf]; omega
    · obtain rfl : n = 10 := by omega
      rw [kf_end] at hB
      go_wp2_with (first | (refine wpList_load_row rfl ka _ rfl (g + 1 + 1) rfl ka _ (0, 0) _ hB.h Tryd.underlying52 rfl (szK _ (kA_len _)) ?_) | (refine wpList_store_row rfl ka _ _ rfl (g + 1) (bv (kA key)) rfl rfl ka _ hR.h (szK _ (kA_len _)) (by rw [bv_size, bv_size, kA_len, zb_len]) (bv_one _) ?_) | fail)
      refine bodyPost_ret (v := .agg (bv (kA key))) ?_ rfl ⟨rfl, hx.setRow (show w.heap.size ≤ g + 1 by have := HG.out; omega) _⟩
      exact results_cell_row rfl _ _ (g + 1) ka _ (0, 0) _ rfl (hR.row _).h Tryd.underlying52 rfl (szK _ (kA_len _))
end Go.Proofs.YtjjoghdlbnlicaaDoor
