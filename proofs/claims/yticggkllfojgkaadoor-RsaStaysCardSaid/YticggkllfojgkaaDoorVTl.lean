/-
  The library's bytes.Repeat of one byte, up to 128 times.
-/
import Derived.Test.YticggkllfojgkaaDoorM16
namespace Go.Proofs.YticggkllfojgkaaDoor
open Go Go.RowKit
set_option maxRecDepth 4000

set_option maxRecDepth 100000 in
theorem and_mask (n : Nat) (hn : n < 129) : bits .and .u64 (n : Int) 4294967295 = (n : Int) := (by decide : ∀ n : Nat, n < 129 → bits .and .u64 (n : Int) 4294967295 = (n : Int)) n hn
set_option maxHeartbeats 1000000 in
theorem Mul64_many (n : Nat) (hn : n < 129) (w : World) : Calls Tryd.prog 97 #[.int .u64 1, .int .u64 (n : Int)] w fun e w' => e = .returned (.tuple #[.int .u64 0, .int .u64 (n : Int)]) ∧ w = w' := by
  have a1 := and_mask n hn
  have a2 : (n : Int) / 4294967296 = 0 := by omega
  have a3 : (n : Int) / 2 ^ 32 = 0 := by omega
  have a4 : IntKind.u64.wrap (n : Int) = (n : Int) := by rw [IntKind.wrap_u64]; omega
  have a5 : (n : Int) < 129 := by omega
  have b1 : bits .and .u64 1 4294967295 = 1 := by decide
  have b2 : bits .and .u64 0 4294967295 = 0 := by decide
  have b3 : (1 : Int) * (n : Int) = (n : Int) := Int.one_mul _
  have b4 : IntKind.u64.wrap 0 = 0 := by decide
  go_enter Tryd.func97, Tryd.ntmps97
  go_wp2
  go_ret2
  refine ⟨?_, rfl⟩
  simp [b1, b2, a1, a2, a4, b4]
set_option maxHeartbeats 1000000 in
theorem Mul_many (n : Nat) (hn : n < 129) (w : World) : Calls Tryd.prog 72 #[.int .u64 1, .int .u64 (n : Int)] w fun e w' => e = .returned (.tuple #[.int .u64 0, .int .u64 (n : Int)]) ∧ w = w' := by
  go_enter Tryd.func72, Tryd.ntmps72
  go_wp2_with (go_at_call 97; refine (Mul64_many n hn w).mono ?_; rintro e w1 ⟨rfl, rfl⟩)
  go_ret2
  exact ⟨rfl, rfl⟩
set_option maxHeartbeats 4000000 in
theorem Repeat_many {A : Option Addr} {c : Nat} {x : BitVec 8} {w : World} (n : Nat) (h1 : 1 ≤ n) (hn : n < 129) (hb : Bs w A 1 c [x]) :
    Calls Tryd.prog 55 #[.slice A 1 c, .int .i64 (n : Int)] w fun e w' => ∃ A' c', e = .returned (.slice A' n c') ∧ Bs w' A' n c' (List.replicate n x) ∧ Ext w w' := by
  obtain ⟨cs, hrun, hle, _⟩ := Lib.run_makeNoZero (P := Tryd.prog) w #[3] 26 5 Tryd.underlying26 n (by omega)
  have hcall : (callFunc 73 #[.int .i64 (n : Int)]).run Tryd.prog w = .ok (.value (.slice (some ⟨w.heap.size, 0, none⟩) n cs.size)) ((w.alloc (.cells cs 5)).drewN 2) := by
    rw [run_callFunc_extern Tryd.func73 (by kernel_rfl) (by kernel_rfl) (by kernel_rfl) (e := Extern.BytealgMakeNoZero.makeNoZero #[3] #[26]) (by kernel_rfl), hrun]
    rfl
  clear hrun
  have hcut := run_cut3 w.heap.size n cs.size hle
  have b0 : (n : Int) ≠ 0 := by omega
  have b1 : 0 ≤ (n : Int) := by omega
  have b2 : (n : Int) ≤ 128 := by omega
  have hx0 : Ext w ((w.alloc (.cells cs 5)).drewN 2) := (by (repeat (first | assumption | exact Ext.refl _ | apply Ext.drew | apply Ext.drewN | apply Ext.alloc | refine Ext.trans ?_ (by assumption))); first | done | fail)
  have hG0 : ((w.alloc (.cells cs 5)).drewN 2).heap[w.heap.size]? = some (.cells cs.toList.toArray 5 (0, 0)) := heap_alloc_new w _
  generalize (w.alloc (.cells cs 5)).drewN 2 = w0 at *
  obtain ⟨g, hg⟩ : ∃ g, g = w.heap.size := ⟨_, rfl⟩
  rw [← hg] at hcall hcut hG0
  have hf1 : ([x].map vb).length = Nat.min 1 n := by show 1 = min 1 n; omega
  have hf2 : 0 + ([x].map vb).length ≤ cs.toList.length := by simp; omega
  have HG := Kp.mk hG0
  have HF1 := Kp.mk hf1
  have HF2 := Kp.mk hf2
  have HB := Kp.mk hb
  have HX := Kp.mk hx0
  have Hg := Kp.mk hg
  clear hG0 hf1 hf2 hb hx0 hg
  go_enter Tryd.func55, Tryd.ntmps55
  go_wp2_with (first | (go_at_call 72; refine (Mul_many n hn w).mono ?_; rintro e w1 ⟨rfl, rfl⟩) | (with_reducible refine at_call_to 60 ?_; refine wpList_copy_splice (o := ⟨some 60, _, _, _, _, _⟩) rfl (.tmp 58) (.tmp 59) 26 26 rfl 5 Tryd.underlying26 szB (some ⟨g, 0, none⟩) A n n 1 c rfl rfl g 0 cs.toList 5 HG.out ([x].map vb) HF1.out (fun hp => ⟨rfl, (HB.out.ext HX.out).news hp⟩) HF2.out (one_vb' [x]) w.heap.size w HX.out.b (by rw [Hg.out]; exact Nat.le_refl _) ?_; intro w2 hG2 hb2) | fail)
  have hR : Rep w2 g n 1 x := ⟨_, hG2.out, by rw [length_splice _ _ _ HF2.out]; simpa using hle, rfl⟩
  have hX2 : Ext w w2 := ⟨hb2⟩
  clear hcut hcall HG HF1 HF2 HB HX hG2 hb2 hle
  go_loopw [10] (fun v wr => ∃ k : Nat, 1 ≤ k ∧ k ≤ n ∧ v = .int .i64 k ∧ Rep wr g n k x ∧ Ext w wr) (fun v _ => n - (intOf v).toNat)
  case atStart => exact ⟨1, Nat.le_refl _, h1, rfl, hR, hX2⟩
  case round =>
    clear hR hX2
    obtain ⟨k, hk1, hkn, rfl, hR, hX⟩ := hrel
    by_cases hlt : k < n
    · have c1 : (k : Int) < n := by omega
      have c2 : (k : Int) ≤ n := by omega
      have c3 : min (k : Int) (n : Int) = (k : Int) := by omega
      have hs1 := fun W => run_from (P := Tryd.prog) (some ⟨g, 0, none⟩) n n 26 5 Tryd.underlying26 szB k (k : Int) rfl (by omega) W
      have hs2 := fun W => run_upto (P := Tryd.prog) (some ⟨g, 0, none⟩) n n 26 5 Tryd.underlying26 szB k (k : Int) rfl (by omega) W
      simp only [if_neg (show ¬ n = k by omega), Option.map_some, add_z] at hs1
      obtain ⟨cur, hG, hC, hT⟩ := hR.h
      obtain ⟨m, hm⟩ : ∃ m, m = Nat.min k (n - k) := ⟨_, rfl⟩
      have hm1 : 1 ≤ m := by have : m = min k (n - k) := hm; omega
      have hm2 : k + m ≤ n := by have : m = min k (n - k) := hm; omega
      have hmk : m ≤ k := by have : m = min k (n - k) := hm; omega
      have HG : Kp (wr.drew.heap[g]? = some (.cells cur.toArray 5 (0, 0))) := ⟨hG⟩
      have HR : Kp (Rep wr.drew g n k x) := ⟨⟨hR.h⟩⟩
      have HC := Kp.mk hC
      have HT := Kp.mk hT
      have HX : Kp (Below w.heap.size w wr.drew) := ⟨hX.b.drew⟩
      have HL : Kp ((List.replicate m (vb x)).length = Nat.min k (n - k)) := ⟨by rw [List.length_replicate]; exact hm⟩
      have HF : Kp (k + (List.replicate m (vb x)).length ≤ cur.length) := ⟨by rw [List.length_replicate]; omega⟩
      have HO : Kp (∀ v ∈ List.replicate m (vb x), v.oneCell' = true) := ⟨fun v hv => by rw [(List.mem_replicate.1 hv).2]; rfl⟩
      have HM := Kp.mk hm
      have hw : IntKind.i64.wrap ((k : Int) + (m : Int)) = ((k + m : Nat) : Int) := by rw [IntKind.wrap_i64]; omega
      clear hR hX hG hC hT hm
      go_wp2_with fail
      refine wp_region_held_drew (S := fun w' => Ext w w') (by kernel_rfl) ⟨HX.out⟩ (fun hHeld => ?_)
      refine wpAnyH_take (i := 0) (oi := ⟨some 67, _, _, _, _, _⟩) (v := ?_) rfl (by kernel_rfl) (by kernel_rfl) (by kernel_rfl) (fun _ _ _ h => h) (Or.inl ⟨by rfl, ?_⟩) (by assumption) ?_
      rotate_left
      · (intro w hSw; (try dsimp only at hSw); go_simp; try with_reducible rfl)
      try simp only [Act.put, List.setIfInBounds_toArray, List.set_cons_zero, List.set_cons_succ]
      refine wpAnyH_take (i := 1) (oi := ⟨some 68, _, _, _, _, _⟩) (v := ?_) rfl (by kernel_rfl) (by kernel_rfl) (by kernel_rfl) (fun _ _ _ h => h) (Or.inl ⟨by rfl, ?_⟩) (by assumption) ?_
      rotate_left
      · (intro w hSw; (try dsimp only at hSw); go_simp; try with_reducible rfl)
      try simp only [Act.put, List.setIfInBounds_toArray, List.set_cons_zero, List.set_cons_succ]
      refine wpAnyH_take (i := 2) (oi := ⟨some 69, _, _, _, _, _⟩) (v := ?_) rfl (by kernel_rfl) (by kernel_rfl) (by kernel_rfl) (fun _ _ _ h => h) (Or.inl ⟨by rfl, ?_⟩) (by assumption) ?_
      rotate_left
      · (intro w hSw; (try dsimp only at hSw); go_simp; try with_reducible rfl)
      try simp only [Act.put, List.setIfInBounds_toArray, List.set_cons_zero, List.set_cons_succ]
      refine wpAnyH_take (i := 3) (oi := ⟨some 70, _, _, _, _, _⟩) (v := ?_) rfl (by kernel_rfl) (by kernel_rfl) (by kernel_rfl) (fun _ _ _ h => h) (Or.inl ⟨by rfl, ?_⟩) (by assumption) ?_
      rotate_left
      · (intro w hSw; (try dsimp only at hSw); go_simp; try with_reducible rfl)
      try simp only [Act.put, List.setIfInBounds_toArray, List.set_cons_zero, List.set_cons_succ]
      refine wpAnyH_take (i := 4) (oi := ⟨some 71, _, _, _, _, _⟩) (v := ?_) rfl (by kernel_rfl) (by kernel_rfl) (by kernel_rfl) (fun _ _ _ h => h) (Or.inl ⟨by rfl, ?_⟩) (by assumption) ?_
      rotate_left
      · (intro w hSw; (try dsimp only at hSw); go_simp; try with_reducible rfl)
      try simp only [Act.put, List.setIfInBounds_toArray, List.set_cons_zero, List.set_cons_succ]
      refine wpAnyH_take (i := 5) (oi := ⟨some 72, _, _, _, _, _⟩) (v := ?_) rfl (by kernel_rfl) (by kernel_rfl) (by kernel_rfl) (fun _ _ _ h => h) (Or.inl ⟨by rfl, ?_⟩) (by assumption) ?_
      rotate_left
      · (intro w hSw; (try dsimp only at hSw); go_simp; try with_reducible rfl)
      try simp only [Act.put, List.setIfInBounds_toArray, List.set_cons_zero, List.set_cons_succ]
      refine wpAnyH_take (i := 6) (oi := ⟨some 73, _, _, _, _, _⟩) (v := ?_) rfl (by kernel_rfl) (by kernel_rfl) (by kernel_rfl) (fun _ _ _ h => h) (Or.inl ⟨by rfl, ?_⟩) (by assumption) ?_
      rotate_left
      · (intro w hSw; (try dsimp only at hSw); go_simp; try with_reducible rfl)
      try simp only [Act.put, List.setIfInBounds_toArray, List.set_cons_zero, List.set_cons_succ]
      refine next_one 7 (by kernel_rfl) rfl (by rfl) fun K' HK' => ?_
      refine wp_copy_splice (o := ⟨some 74, _, _, _, _, _⟩) rfl (.tmp 70) (.tmp 73) 26 26 rfl 5 Tryd.underlying26 szB (some ⟨g, k, none⟩) (some ⟨g, 0, none⟩) (n - k) (n - k) k n rfl rfl g k cur 5 HG.out (List.replicate m (vb x)) HL.out (fun _ => ⟨rfl, _, rfl, HR.out.src m hmk⟩) HF.out HO.out w.heap.size w HX.out (by rw [Hg.out]; exact Nat.le_refl _) ?_
      intro w4 hg4 hb4
      rw [List.length_replicate]
      clear hHeld
      refine held_go HK' ⟨hb4⟩ (fun hHeld => ?_)
      clear HK'
      try simp only [Act.put, List.setIfInBounds_toArray, List.set_cons_zero, List.set_cons_succ]
      refine wpAnyH_take (i := 8) (oi := ⟨some 75, _, _, _, _, _⟩) (v := ?_) rfl (by kernel_rfl) (by kernel_rfl) (by kernel_rfl) (fun _ _ _ h => h) (Or.inl ⟨by rfl, ?_⟩) (by assumption) ?_
      rotate_left
      · (intro w hSw; (try dsimp only at hSw); go_simp; try with_reducible rfl)
      try simp only [Act.put, List.setIfInBounds_toArray, List.set_cons_zero, List.set_cons_succ]
      refine wpAnyH_take (i := 9) (oi := ⟨some 10, _, _, _, _, _⟩) (v := ?_) rfl (by kernel_rfl) (by kernel_rfl) (by kernel_rfl) (fun _ _ _ h => h) (Or.inl ⟨by rfl, ?_⟩) (by assumption) ?_
      rotate_left
      · (intro w hSw; (try dsimp only at hSw); go_simp; try with_reducible rfl)
      try simp only [Act.put, List.setIfInBounds_toArray, List.set_cons_zero, List.set_cons_succ]
      refine wpAnyH_done (by kernel_rfl) ?_ _
      go_wp2_with fail
      go_roundw
      case rel => exact ⟨k + m, by omega, hm2, rfl, Rep.copied hg4.out HC.out HT.out hm2, ⟨hb4⟩⟩
      case measure => simp [intOf]; omega
    · obtain rfl : k = n := by omega
      go_wp2_with fail
      go_ret
      exact ⟨_, _, rfl, hR.bs _ (Nat.le_refl _), hX⟩
theorem Repeat_upto {A : Option Addr} {c : Nat} {x : BitVec 8} {w : World} (n : Nat) (z : Int) (hz : z = (n : Int)) (h1 : 1 ≤ n) (hn : n < 129) (hb : Bs w A 1 c [x]) :
    Calls Tryd.prog 55 #[.slice A 1 c, .int .i64 z] w fun e w' => ∃ A' c', e = .returned (.slice A' n c') ∧ Bs w' A' n c' (List.replicate n x) ∧ Ext w w' := by
  subst hz
  exact Repeat_many n h1 hn hb
end Go.Proofs.YticggkllfojgkaaDoor
