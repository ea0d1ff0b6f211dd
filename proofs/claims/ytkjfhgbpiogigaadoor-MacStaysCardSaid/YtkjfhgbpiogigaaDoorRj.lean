/-
  The walks of the reference's Constants and Beginning.
-/
import Derived.Test.YtkjfhgbpiogigaaDoorRi
namespace Go.Proofs.YtkjfhgbpiogigaaDoor
open Go Go.RowKit

theorem infoW : (Tryd.prog.info? 24).map (fun i => (i.zero, i.size, i.bytes)) = some (some (.int .u32 0), 1, 4) := by kernel_rfl
theorem own_mono {w : World} {base base' e n : Nat} {v : Value} {xs : List Value} (h : w.ownsRow base e 1 v n xs) (hb : base' ≤ base) : w.ownsRow base' e 1 v n xs := by
  refine ⟨h.1, ?_⟩
  rcases h.2 with h2 | ⟨g, cap, cur, h1, h3, h4⟩
  · exact .inl h2
  · exact .inr ⟨g, cap, cur, h1, Nat.le_trans hb h3, h4⟩
theorem conTo_len (third : Bool) (l : List Nat) (k : Nat) : (conTo third l k).length = k := by
  induction k with
  | zero => rfl
  | succ k ih => simp [conTo, ih]
theorem conTo_succ (third : Bool) (l : List Nat) (k : Nat) : conTo third l (k + 1) = conTo third l k ++ [BitVec.ofNat 32 (fracN third (gn l k))] := rfl
theorem primes64_any (w : World) : Calls Tryd.prog 46 #[.int .i64 64] w fun e w' => ∃ v, e = .returned v ∧ w'.ownsRow w.heap.size 72 1 v 64 ((outTo 312).map vn) ∧ Below w.heap.size w w' :=
  primes_any 64 312 w primes64 (fun p hp => by have h1 := outTo_mono p 311 (by omega); rw [primes63] at h1; omega) (by decide) (by decide) (by decide)
theorem primes8_any (w : World) : Calls Tryd.prog 46 #[.int .i64 8] w fun e w' => ∃ v, e = .returned v ∧ w'.ownsRow w.heap.size 72 1 v 8 ((outTo 20).map vn) ∧ Below w.heap.size w w' :=
  primes_any 8 20 w primes8 (fun p hp => by have h1 := outTo_mono p 19 (by omega); rw [primes7] at h1; omega) (by decide) (by decide) (by decide)
theorem frac_named (third : Bool) (p : Nat) (hp : p < 4294967296) : ∃ x, BitVec.ofNat 32 (fracN third p) = x ∧ ∀ w : World, Calls Tryd.prog 47 #[.int .u64 (p : Int), .bool third] w fun e w' => e = .returned (.int .u32 (un x)) ∧ Below w.heap.size w w' :=
  ⟨_, rfl, fun w => fraction_any p third w hp⟩
theorem prime_hi (P j : Nat) (hP : P ≤ 1000) (h : j < (outTo P).length) : gn (outTo P) j < 4294967296 := by
  have := outTo_mem P _ (gn_mem _ j h); omega

set_option maxHeartbeats 2000000 in
theorem Constants_any (w : World) :
    Calls Tryd.prog 24 #[] w fun e w' => ∃ v, e = .returned v ∧ w'.ownsRow w.heap.size 24 1 v 64 (KK.map vu) ∧ Below w.heap.size w w' := by
  go_enter Tryd.func24, Tryd.ntmps24
  go_wp2_with (go_at_call 46; refine (primes64_any _).mono ?_; rintro e w1 ⟨v1, rfl, hown1, hb1⟩)
  obtain ⟨A, c, rfl, how1⟩ := Ow.of_own hown1
  have HB1 := Lib.hid hb1
  clear hown1 hb1
  have hL : (outTo 312).length = 64 := primes64
  have hhi : ∀ j, j < 64 → gn (outTo 312) j < 4294967296 := fun j hj => prime_hi 312 j (by decide) (by omega)
  have hcon := con_KK
  have HCON := Lib.hid hcon
  clear hcon
  generalize outTo 312 = L at *
  go_wp2
  go_loopw [2, 3] (fun v i wr => ∃ k : Nat, k ≤ 64 ∧ i = .int .i64 k ∧ wr.ownsRow w1.heap.size 24 1 v k ((conTo true L k).map vu) ∧ Below w1.heap.size w1 wr) (fun _ i _ => 64 - (intOf i).toNat)
  case atStart => exact ⟨0, by omega, rfl, own_nil _ _ _, Below.refl _ _⟩
  case round =>
    obtain ⟨k, hk, rfl, hown, hb⟩ := hrel
    by_cases hlt : k < 64
    · have how := how1.keep hb
      obtain ⟨g, hA, hcells⟩ := how.2.2 (by omega)
      subst hA
      have hc := hcells k _ (vn_at L k (by omega))
      have hh := hhi k hlt
      have hs := conTo_succ true L k
      obtain ⟨x, hx, hfr⟩ := frac_named true (gn L k) hh
      rw [hx] at hs
      have HS := Lib.hid hs
      clear hs hx hh
      have HOW := Lib.hid how1
      clear hcells how how1
      obtain ⟨A2, c2, rfl, _⟩ := Ow.of_own hown
      generalize gn L k = p at *
      have HOWN := Lib.hid hown
      have HB := Lib.hid hb
      clear HCON hhi hL hown hb
      go_wp2_with fail
      refine (hfr _).mono ?_
      rintro e w2 ⟨rfl, hb2⟩
      have hbw : Below w1.heap.size w1 w2 := HB.out.trans (hb2.mono HB.out.size)
      have hown2 := own_below HOWN.out hb2
      have HOWN2 := Lib.hid hown2
      have HBW := Lib.hid hbw
      clear hown2 hbw hb2 HOWN HB hfr
      go_wp2_with (first | (at_builtin; refine wpList_append_one rfl _ _ 33 rfl w1.heap.size 24 (.int .u32 0) 4 Tryd.underlying33 infoW rfl _ k _ rfl (HOWN2.out.alloc _) w2.heap.size 24 (vu x) rfl (Has.new w2 24 #[vu x] _ rfl) rfl (by omega) (by unfold maxLen; omega) (Nat.le_trans HBW.out.size (by simp)) ?_; intro v8 w8 hown8 hg8) | fail)
      have hb8 : Below w1.heap.size w1 w8 := (HBW.out.alloc HBW.out.size _).grown hg8 (Nat.le_trans HBW.out.size (by simp)) (own_base HOWN2.out)
      go_roundw
      case rel =>
        refine ⟨k + 1, by omega, by go_num, ?_, hb8⟩
        rw [HS.out, List.map_append]
        exact hown8
      case measure => simp [intOf]; omega
    · obtain rfl : k = 64 := by omega
      rw [HCON.out] at hown
      go_wp2
      go_ret
      exact ⟨_, rfl, own_mono hown HB1.out.size, HB1.out.trans (hb.mono HB1.out.size)⟩

/-- the words as they grow in place -/
def begTo (l : List Nat) : Nat → List (BitVec 32)
  | 0 => List.replicate 8 0
  | k + 1 => (begTo l k).set k (BitVec.ofNat 32 (fracN false (gn l k)))
theorem begTo_succ (l : List Nat) (k : Nat) : begTo l (k + 1) = (begTo l k).set k (BitVec.ofNat 32 (fracN false (gn l k))) := rfl
theorem begTo_len (l : List Nat) (k : Nat) : (begTo l k).length = 8 := by
  induction k with
  | zero => rfl
  | succ k ih => simp [begTo, ih]
theorem begTo_HH : begTo (outTo 20) 8 = HH := by decide +kernel

set_option maxHeartbeats 2000000 in
theorem Beginning_any (w : World) :
    Calls Tryd.prog 50 #[] w fun e w' => e = .returned (.agg (wv HH)) ∧ Below w.heap.size w w' := by
  go_enter Tryd.func50, Tryd.ntmps50
  have hz : Has (w.alloc (.cells zero8 28)) w.heap.size 28 zero8 := Has.new _ _ _ _ rfl
  have hb0 : Below w.heap.size w (w.alloc (.cells zero8 28)) := (Below.refl _ _).alloc (Nat.le_refl _) _
  go_wp2_with (go_at_call 46; refine (primes8_any _).mono ?_; rintro e w1 ⟨v1, rfl, hown1, hb1⟩)
  have hz1 := hz.below hb1 hz.lt
  have hb01 := hb0.trans (hb1.mono hb0.size)
  obtain ⟨A, c, rfl, how1⟩ := Ow.of_own hown1
  clear hz hb0 hown1 hb1
  have hL : (outTo 20).length = 8 := primes8
  have hhi : ∀ j, j < 8 → gn (outTo 20) j < 4294967296 := fun j hj => prime_hi 20 j (by decide) (by omega)
  have hcon := begTo_HH
  have HCON := Lib.hid hcon
  clear hcon
  generalize outTo 20 = L at *
  go_wp2
  have hg0 : Has (w1.alloc (.cells zero8 28)) w1.heap.size 28 (wv (begTo L 0)) := Has.new _ _ _ _ rfl
  have hb2 : Below w1.heap.size w1 (w1.alloc (.cells zero8 28)) := (Below.refl _ _).alloc (Nat.le_refl _) _
  generalize (w1.alloc (.cells zero8 28)) = w2 at *
  go_loopw [3] (fun i wr => ∃ k : Nat, k ≤ 8 ∧ i = .int .i64 k ∧ Has wr w1.heap.size 28 (wv (begTo L k)) ∧ Below w1.heap.size w1 wr) (fun i _ => 8 - (intOf i).toNat)
  case atStart => exact ⟨0, by omega, rfl, hg0, hb2⟩
  case round =>
    clear hg0 hb2
    obtain ⟨k, hk, rfl, hg, hb⟩ := hrel
    by_cases hlt : k < 8
    · have how := how1.keep hb
      obtain ⟨g, hA, hcells⟩ := how.2.2 (by omega)
      subst hA
      have hc := hcells k _ (vn_at L k (by omega))
      have hh := hhi k hlt
      have hs := begTo_succ L k
      obtain ⟨x, hx, hfr⟩ := frac_named false (gn L k) hh
      rw [hx] at hs
      have HS := Lib.hid hs
      have HB := Lib.hid hb
      have HG := Lib.hid hg
      clear hs hx hh hcells how how1 HCON hhi hL hb hg hb01 hz1
      generalize gn L k = p at *
      go_wp2_with fail
      refine (hfr _).mono ?_
      rintro e w3 ⟨rfl, hb3⟩
      have hbw : Below w1.heap.size w1 w3 := HB.out.trans (hb3.mono HB.out.size)
      have hg3 := HG.out.below hb3 HG.out.lt
      have HG3 := Lib.hid hg3
      have HBW := Lib.hid hbw
      have hcell := (hg3.cell k).trans (wv_at _ k (by rw [begTo_len]; omega))
      have hf := hg3.frozen k
      clear hbw hb3 hg3 HB HG hfr hc
      go_wp2
      go_roundw
      case rel =>
        refine ⟨k + 1, by omega, by go_num, ?_, HBW.out.setCell (Nat.le_refl _) _⟩
        rw [HS.out, ← wv_set]
        exact HG3.out.set k _
      case measure => simp [intOf]; omega
    · obtain rfl : k = 8 := by omega
      rw [HCON.out] at hg
      have hz2 := hz1.below hb hz1.lt
      have hbw := hb01.trans (hb.mono hb01.size)
      have HZ := Lib.hid hz2
      have HBW := Lib.hid hbw
      have hlt1 := hz1.lt
      clear HCON hhi hL hb hb01 hz1 hz2 hbw how1
      go_wp2_with (first | (refine wpList_load_row rfl 28 _ rfl w1.heap.size rfl 28 _ (0, 0) _ hg Tryd.underlying28 rfl (szW8 _ HH_len) ?_) | (refine wpList_store_row rfl 28 _ _ rfl w.heap.size _ rfl rfl 28 _ HZ.out (szW8 _ HH_len) rfl (wv_one _) ?_) | fail)
      refine bodyPost_ret (v := .agg (wv HH)) ?_ rfl ⟨rfl, ?_⟩
      · exact results_cell_row rfl _ _ w.heap.size 28 _ (0, 0) _ rfl (HZ.out.row _) Tryd.underlying28 rfl (szW8 _ HH_len)
      · exact below_row HBW.out (Nat.le_refl _) _
end Go.Proofs.YtkjfhgbpiogigaaDoor
