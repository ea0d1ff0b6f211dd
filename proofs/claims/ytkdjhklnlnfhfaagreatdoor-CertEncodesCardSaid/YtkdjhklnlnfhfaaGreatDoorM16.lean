/-
  nat: counted, anyLong (by slices.ContainsFunc), cmp.Compare, Cmp, bits.Len32 and LeadingZeros32.
  nat: anyLong, by slices.ContainsFunc over a list of numbers; Cmp.
  nat: addTo, sums in place.
  nat: takeFrom, differences in place.
-/
import Derived.Test.YtkdjhklnlnfhfaaGreatDoorM15
import Derived.Shelf.Small.Bits
import Derived.Lib.ItoaNum
namespace Go.Proofs.YtkdjhklnlnfhfaaGreatDoor
open Go Go.RowKit Go.Shelf
set_option maxRecDepth 4000

def lenOf : Value → Nat | .slice _ n _ => n | _ => 0
theorem counted_any {l : List Nat} {A : Option Addr} {n c : Nat} {w : World} (h : Rd vL w A n c l) (hd : Dg BB l) (hn : n ≤ 4611686018427387904) :
    Calls Tryz.prog 165 #[.slice A n c] w fun e w' => ∃ m, m ≤ n ∧ e = .returned (.slice A m c) ∧ l.take m = dgs BB (vl BB l) ∧ w' = w := by
  have HR := Kp.mk h
  have hlen := h.len
  have hcap := h.cap
  clear h
  go_enter Tryz.func165, Tryz.ntmps165
  go_wp2_with fail
  go_loopw [0] (fun iv wr => ∃ j : Nat, j ≤ n ∧ iv = .slice A j c ∧ (∀ i, j ≤ i → dg l i = 0) ∧ wr = w) (fun iv _ => lenOf iv)
  case atStart => exact ⟨n, by omega, rfl, fun i hi => dg_out l i (by omega), rfl⟩
  case round =>
    obtain ⟨j, hj, rfl, hz, rfl⟩ := hrel
    have hfin : ∀ m, m = j → (j = 0 ∨ dg l (j - 1) ≠ 0) → l.take m = dgs BB (vl BB l) := fun m hm ht => by
      subst hm
      exact cut_cn (by decide) hd m (by omega) hz ht
    have HF := Kp.mk hfin
    have HZ := Kp.mk hz
    clear hfin hz
    by_cases h0 : j = 0
    · subst h0
      go_wp2_with fail
      go_ret
      exact ⟨0, by omega, rfl, HF.out 0 rfl (by simp), rfl⟩
    · obtain ⟨g, o, rfl⟩ := HR.out.some_ (by omega)
      obtain ⟨k, rfl⟩ : ∃ k, j = k + 1 := ⟨j - 1, by omega⟩
      have c1 := HR.out.dig k (by omega)
      unfold vL at c1
      have e1 : ((k + 1 : Nat) : Int) - 1 = (k : Int) := by omega
      have b0 : (0 : Int) < ((k + 1 : Nat) : Int) := by omega
      have b1 : (k : Int) < (n : Int) := by omega
      have e2 : IntKind.i64.wrap (k : Int) = (k : Int) := by rw [IntKind.wrap_i64]; omega
      have hs := fun W => run_upto (P := Tryz.prog) (some ⟨g, o, none⟩) (k + 1) c nt ut Tryz.underlying23 szL k (k : Int) rfl (by omega) W
      by_cases hq : dg l k = 0
      · rw [hq] at c1
        have HQ := Kp.mk hq
        clear hq
        go_wp2_with fail
        go_roundw
        case rel => exact ⟨k, by omega, rfl, (fun i hi => by
          by_cases he : i = k
          · rw [he]; exact HQ.out
          · exact HZ.out i (by omega)), by trivial⟩
        case measure => simp [lenOf]
      · have hq2 : ¬ (dg l k : Int) = 0 := by omega
        have HQ := Kp.mk hq
        clear hq
        go_wp2_with fail
        go_ret
        exact ⟨k + 1, by omega, rfl, HF.out (k + 1) rfl (.inr HQ.out), rfl⟩
/-- how many limbs count -/
def nl (v : Nat) : Nat := (dgs BB v).length
/-- the limbs that count -/
theorem counted_rd {l : List Nat} {A : Option Addr} {n c : Nat} {w : World} (h : Rd vL w A n c l) (hd : Dg BB l) (hn : n ≤ 4611686018427387904) :
    Calls Tryz.prog 165 #[.slice A n c] w fun e w' => e = .returned (.slice A (nl (vl BB l)) c) ∧ nl (vl BB l) ≤ n ∧ Rl w A (nl (vl BB l)) c (vl BB l) ∧ w' = w := by
  refine (counted_any h hd hn).mono ?_
  rintro e w' ⟨m, hm, rfl, hr, rfl⟩
  have hl := h.len
  have e1 : nl (vl BB l) = m := by
    unfold nl
    rw [← hr, List.length_take]
    omega
  rw [e1]
  refine ⟨rfl, hm, ?_, rfl⟩
  have h2 := h.take m hm
  rw [hr] at h2
  exact h2
theorem counted_own {l : List Nat} {A : Option Addr} {n c B : Nat} {w : World} (h : Rw ut vL w B (.slice A n c) n l) (hd : Dg BB l) (hn : n ≤ 4611686018427387904) :
    Calls Tryz.prog 165 #[.slice A n c] w fun e w' => e = .returned (.slice A (nl (vl BB l)) c) ∧ nl (vl BB l) ≤ n ∧ Rw ut vL w B (.slice A (nl (vl BB l)) c) (nl (vl BB l)) (dgs BB (vl BB l)) ∧ w' = w := by
  refine (counted_any h.rd hd hn).mono ?_
  rintro e w' ⟨m, hm, rfl, hr, rfl⟩
  have hl := h.len
  have e1 : nl (vl BB l) = m := by
    unfold nl
    rw [← hr, List.length_take]
    omega
  rw [e1]
  refine ⟨rfl, hm, ?_, rfl⟩
  rw [← hr]
  exact h.take hm
def Len32Laid_ren : Go.Shelf.Ren := ⟨fun | 128 => 129 | n => n, fun | 51 => 89 | 3 => 3 | 4 => 4 | 46 => 183 | 5 => 5 | 9 => 9 | n => n, fun | n => n⟩
theorem Len32Laid : Go.Proofs.Lays.n128 Tryz.prog Len32Laid_ren := {
  mixed := by kernel_rfl
  f128 := Tryz.func129.trans (congrArg some (by kernel_rfl))
  t3 := Tryz.underlying3
  a3 := Tryz.isAgg3
  z3 := Tryz.sizeOf3
  v3 := Tryz.zeroValue3
  t4 := Tryz.underlying4
  a4 := Tryz.isAgg4
  z4 := Tryz.sizeOf4
  v4 := Tryz.zeroValue4
  t5 := Tryz.underlying5
  a5 := Tryz.isAgg5
  z5 := Tryz.sizeOf5
  v5 := Tryz.zeroValue5
  t9 := Tryz.underlying9
  a9 := Tryz.isAgg9
  z9 := Tryz.sizeOf9
  v9 := Tryz.zeroValue9
  t46 := Tryz.underlying183
  a46 := Tryz.isAgg183
  z46 := Tryz.sizeOf183
  v46 := Tryz.zeroValue183
  t51 := Tryz.underlying89
  a51 := Tryz.isAgg89
  z51 := Tryz.sizeOf89
  v51 := Tryz.zeroValue89 }
theorem Len32_any (x : Nat) (hx : x < 4294967296) (w : World) : Calls Tryz.prog 129 #[.int .u32 (x : Int)] w fun e w' => e = .returned (.int .i64 (Lib.bitLen x : Int)) ∧ w' = w := by
  have h := Any.bits_Len32 Len32Laid (x : Int) w (by omega) (by omega)
  rw [Int.toNat_natCast] at h
  exact h
theorem Dg.at32 {l : List Nat} (h : Dg BB l) (i : Nat) : dg l i < 4294967296 := h.at (by decide) i
theorem LeadingZeros32_any (x : Nat) (hx : x < 4294967296) (h0 : x ≠ 0) (w : World) : Calls Tryz.prog 238 #[.int .u32 (x : Int)] w fun e w' => ∃ k : Nat, k ≤ 31 ∧ x * 2 ^ k < 4294967296 ∧ e = .returned (.int .i64 (k : Int)) ∧ w' = w := by
  obtain ⟨h1, h2, h3⟩ := Lib.bitLenAux_bounds 64 x (by omega) h0
  have h4 : Lib.bitLenAux 64 x ≤ 32 := Lib.bitLenAux_le 64 x 32 (by omega)
  have hL := Len32_any x hx
  unfold Lib.bitLen at hL
  generalize Lib.bitLenAux 64 x = B at *
  have e1 : ((32 : Int) - (B : Int)) = ((32 - B : Nat) : Int) := by omega
  have e2 : IntKind.i64.wrap ((32 - B : Nat) : Int) = ((32 - B : Nat) : Int) := by rw [IntKind.wrap_i64]; omega
  have hp : x * 2 ^ (32 - B) < 4294967296 := by
    have h5 : x * 2 ^ (32 - B) < 2 ^ B * 2 ^ (32 - B) := Nat.mul_lt_mul_of_pos_right h3 (Nat.pow_pos (by decide))
    rw [← Nat.pow_add, show B + (32 - B) = 32 by omega] at h5
    exact h5
  have hk : 32 - B ≤ 31 := by omega
  generalize 32 - B = k at *
  have HK := Kp.mk (And.intro hk hp)
  clear h1 h2 h3 h4 hk hp hx h0
  go_enter Tryz.func238, Tryz.ntmps238
  go_wp2_with (go_at_call 129; refine (hL _).mono ?_; rintro e w1 ⟨rfl, rfl⟩)
  go_ret
  exact ⟨k, HK.out.1, HK.out.2, by first | rfl | go_num, rfl⟩
/-- cmp.Compare of ints and limbs -/
theorem isNaN_any (x : Int) (w : World) : Calls Tryz.prog 204 #[.int .i64 x] w fun e w' => e = .returned (.bool false) ∧ w' = w := by
  go_enter Tryz.func204, Tryz.ntmps204
  go_wp2_with fail
  go_ret
  exact ⟨by simp, rfl⟩
theorem isNaNu_any (x : Int) (w : World) : Calls Tryz.prog 205 #[.int .u32 x] w fun e w' => e = .returned (.bool false) ∧ w' = w := by
  go_enter Tryz.func205, Tryz.ntmps205
  go_wp2_with fail
  go_ret
  exact ⟨by simp, rfl⟩
theorem Compare_any (x y : Nat) (w : World) : Calls Tryz.prog 166 #[.int .i64 (x : Int), .int .i64 (y : Int)] w fun e w' => e = .returned (.int .i64 (cmpI x y)) ∧ w' = w := by
  rcases Nat.lt_trichotomy x y with h | h | h
  · rw [cmpI_lt h]
    have h1 : (x : Int) < (y : Int) := by omega
    go_enter Tryz.func166, Tryz.ntmps166
    go_wp2_with (go_at_call 204; refine (isNaN_any _ _).mono ?_; rintro e w1 ⟨rfl, rfl⟩)
    go_ret
    exact ⟨rfl, rfl⟩
  · subst h
    rw [cmpI_eq]
    go_enter Tryz.func166, Tryz.ntmps166
    go_wp2_with (go_at_call 204; refine (isNaN_any _ _).mono ?_; rintro e w1 ⟨rfl, rfl⟩)
    go_ret
    exact ⟨rfl, rfl⟩
  · rw [cmpI_gt h]
    have h1 : (y : Int) < (x : Int) := by omega
    have h2 : ¬ (x : Int) < (y : Int) := by omega
    go_enter Tryz.func166, Tryz.ntmps166
    go_wp2_with (go_at_call 204; refine (isNaN_any _ _).mono ?_; rintro e w1 ⟨rfl, rfl⟩)
    go_ret
    exact ⟨rfl, rfl⟩
theorem Compareu_any (x y : Nat) (w : World) : Calls Tryz.prog 167 #[.int .u32 (x : Int), .int .u32 (y : Int)] w fun e w' => e = .returned (.int .i64 (cmpI x y)) ∧ w' = w := by
  rcases Nat.lt_trichotomy x y with h | h | h
  · rw [cmpI_lt h]
    have h1 : (x : Int) < (y : Int) := by omega
    go_enter Tryz.func167, Tryz.ntmps167
    go_wp2_with (go_at_call 205; refine (isNaNu_any _ _).mono ?_; rintro e w1 ⟨rfl, rfl⟩)
    go_ret
    exact ⟨rfl, rfl⟩
  · subst h
    rw [cmpI_eq]
    go_enter Tryz.func167, Tryz.ntmps167
    go_wp2_with (go_at_call 205; refine (isNaNu_any _ _).mono ?_; rintro e w1 ⟨rfl, rfl⟩)
    go_ret
    exact ⟨rfl, rfl⟩
  · rw [cmpI_gt h]
    have h1 : (y : Int) < (x : Int) := by omega
    have h2 : ¬ (x : Int) < (y : Int) := by omega
    go_enter Tryz.func167, Tryz.ntmps167
    go_wp2_with (go_at_call 205; refine (isNaNu_any _ _).mono ?_; rintro e w1 ⟨rfl, rfl⟩)
    go_ret
    exact ⟨rfl, rfl⟩
end Go.Proofs.YtkdjhklnlnfhfaaGreatDoor
namespace Go.Proofs.YtkdjhklnlnfhfaaGreatDoor
open Go Go.RowKit
set_option maxRecDepth 4000

/-- a slice of limbs, as it is handed on -/
structure Sli where
  A : Option Addr
  n : Nat
  c : Nat
  l : List Nat
def eS (s : Sli) : Value := .slice s.A s.n s.c
/-- it reads as limbs -/
structure SliOk (w : World) (s : Sli) : Prop where
  r : Rd vL w s.A s.n s.c s.l
  d : Dg BB s.l
  n : s.n ≤ 1000000000000
theorem SliOk.ext {w w' : World} {s : Sli} (h : SliOk w s) (hx : Ext w w') : SliOk w' s := ⟨h.r.ext hx, h.d, h.n⟩
def lng (v : Nat) : Prop := 64 < nl v
theorem long1_any {s : Sli} {w : World} (h : SliOk w s) :
    Calls Tryz.prog 211 #[.slice s.A s.n s.c] w fun e w' => e = .returned (.bool (decide (64 < nl (vl BB s.l)))) ∧ w' = w := by
  have hc := counted_rd h.r h.d (by have := h.n; omega)
  generalize nl (vl BB s.l) = N at *
  go_enter Tryz.func211, Tryz.ntmps211
  go_wp2_with (go_at_call 165; refine hc.mono ?_; rintro e w1 ⟨rfl, _, _, rfl⟩)
  go_ret
  exact ⟨by first | rfl | (congr 2; simp; omega), rfl⟩
theorem IndexFunc_any {xs : List Sli} {A : Option Addr} {n c : Nat} {w : World} (h : Rd eS w A n c xs) (hn : n ≤ 1000) (hx : ∀ s ∈ xs, SliOk w s) :
    Calls Tryz.prog 237 #[.slice A n c, .func (.func 211) #[] #[]] w fun e w' => ∃ z : Int, e = .returned (.int .i64 z) ∧ (0 ≤ z ↔ ∃ s ∈ xs, lng (vl BB s.l)) ∧ w' = w := by
  have HR := Kp.mk h
  have HX := Kp.mk hx
  have hlen := h.len
  clear h hx
  go_enter Tryz.func237, Tryz.ntmps237
  go_wp2_with fail
  go_loopw [8] (fun iv wr => ∃ j : Nat, j ≤ n ∧ iv = .int .i64 (j : Int) ∧ (∀ i s, i < j → xs[i]? = some s → ¬ lng (vl BB s.l)) ∧ wr = w) (fun iv _ => n - (intOf iv).toNat)
  case atStart => exact ⟨0, by omega, rfl, fun i s hi => by omega, rfl⟩
  case round =>
    obtain ⟨j, hj, rfl, hz, rfl⟩ := hrel
    have HZ := Kp.mk hz
    clear hz
    by_cases hlt : j < n
    · obtain ⟨g, o, rfl⟩ := HR.out.some_ (by omega)
      obtain ⟨s, hs⟩ : ∃ s, xs[j]? = some s := ⟨xs[j], by simp⟩
      obtain ⟨g', o', ea, hc⟩ := HR.out.at_ (by omega)
      cases ea
      have c1 := hc j s hs
      unfold eS at c1
      have hl := long1_any (HX.out s (List.mem_of_getElem? hs))
      have HS := Kp.mk hs
      have b1 : (j : Int) < (n : Int) := by omega
      clear hc hs
      by_cases hq : 64 < nl (vl BB s.l)
      · rw [decide_eq_true hq] at hl
        have HQ := Kp.mk hq
        clear hq
        go_wp2_with (go_at_call 211; refine hl.mono ?_; rintro e w1 ⟨rfl, rfl⟩)
        go_ret
        exact ⟨_, rfl, ⟨fun _ => ⟨s, List.mem_of_getElem? HS.out, HQ.out⟩, fun _ => by omega⟩, rfl⟩
      · rw [decide_eq_false hq] at hl
        have HQ := Kp.mk hq
        clear hq
        go_wp2_with (go_at_call 211; refine hl.mono ?_; rintro e w1 ⟨rfl, rfl⟩)
        go_roundw
        case rel => exact ⟨j + 1, by omega, by go_num, (fun i t hi ht => by
          by_cases he : i = j
          · subst he
            have := HS.out
            rw [this] at ht
            cases ht
            exact HQ.out
          · exact HZ.out i t (by omega) ht), by trivial⟩
        case measure => simp [intOf]; omega
    · obtain rfl : j = n := by omega
      go_wp2_with fail
      go_ret
      refine ⟨-1, rfl, ⟨fun h => by omega, fun ⟨s, hs, hl⟩ => ?_⟩, rfl⟩
      obtain ⟨i, hi⟩ := List.getElem?_of_mem hs
      exact absurd hl (HZ.out i s (by have := (List.getElem?_eq_some_iff.1 hi).1; omega) hi)
theorem anyLong_any {xs : List Sli} {A : Option Addr} {n c : Nat} {w : World} (h : Rd eS w A n c xs) (hn : n ≤ 1000) (hx : ∀ s ∈ xs, SliOk w s) :
    Calls Tryz.prog 169 #[.slice A n c] w fun e w' => ∃ b : Bool, e = .returned (.bool b) ∧ (b = true ↔ ∃ s ∈ xs, lng (vl BB s.l)) ∧ w' = w := by
  have hI := IndexFunc_any h hn hx
  clear hx h
  have hC : Calls Tryz.prog 210 #[.slice A n c, .func (.func 211) #[] #[]] w fun e w' => ∃ b : Bool, e = .returned (.bool b) ∧ (b = true ↔ ∃ s ∈ xs, lng (vl BB s.l)) ∧ w' = w := by
    go_enter Tryz.func210, Tryz.ntmps210
    go_wp2_with (go_at_call 237; refine hI.mono ?_; rintro e w1 ⟨z, rfl, hz, rfl⟩)
    go_ret
    exact ⟨_, rfl, by rw [← hz]; simp, rfl⟩
  go_enter Tryz.func169, Tryz.ntmps169
  go_wp2_with (go_at_call 210; refine hC.mono ?_; rintro e w1 ⟨b, rfl, hb, rfl⟩)
  go_ret
  exact ⟨b, rfl, hb, rfl⟩
end Go.Proofs.YtkdjhklnlnfhfaaGreatDoor
namespace Go.Proofs.YtkdjhklnlnfhfaaGreatDoor
open Go Go.RowKit
set_option maxRecDepth 4000

theorem mid_dg {pre out post : List Nat} {o i : Nat} (ho : pre.length = o) (hi : i < out.length) : dg (pre ++ (out ++ post)) (o + i) = dg out i := by
  subst ho
  rw [dg_append_r, dg_append_l _ _ _ hi]
theorem mid_set {pre out post : List Nat} {o i x : Nat} (ho : pre.length = o) (hi : i < out.length) : (pre ++ (out ++ post)).set (o + i) x = pre ++ (out.set i x ++ post) := by
  subst ho
  rw [List.set_append_right _ _ (by omega), Nat.add_sub_cancel_left, List.set_append_left _ _ hi]
section
variable {w : World} {g o i : Nat} {pre out post : List Nat}
theorem Lb.mcell (h : Lb w g (pre ++ (out ++ post))) (ho : pre.length = o) (hi : i < out.length) : w.cell? ⟨g, o + i, none⟩ = some (.int .u32 (dg out i : Int)) := by
  rw [← mid_dg (post := post) ho hi]
  exact Lb.cell h (o + i) (by rw [List.length_append, List.length_append]; omega)
theorem Lb.mset (h : Lb w g (pre ++ (out ++ post))) (ho : pre.length = o) (hi : i < out.length) (x : Nat) : Lb (w.setCell ⟨g, o + i, none⟩ (.int .u32 (x : Int))) g (pre ++ (out.set i x ++ post)) := by
  rw [← mid_set ho hi]
  exact Lb.set h (o + i) x
end
/-- what a sum in place leaves -/
def Added (w : World) (g : Nat) (pre a post b : List Nat) (e : Ending) (w' : World) : Prop :=
  ∃ out cr, e = .returned (.tuple #[]) ∧ out.length = a.length ∧ Dg BB out ∧ cr ≤ 1 ∧ vl BB out + BB ^ a.length * cr = vl BB a + vl BB b ∧ Lb w' g (pre ++ (out ++ post)) ∧ Mds [g] w w'
set_option maxHeartbeats 1000000 in
theorem addTo_any {pre a post b : List Nat} {g o n c m d : Nat} {B : Option Addr} {w : World} (hA : Lb w g (pre ++ (a ++ post))) (ho : pre.length = o) (hn : a.length = n) (hb : Rd vL w B m d b) (hob : 0 < m → Out B [g])
    (da : Dg BB a) (db : Dg BB b) (hm : m ≤ n) (hlim : n ≤ 1000000000000) :
    Calls Tryz.prog 259 #[.slice (some ⟨g, o, none⟩) n c, .slice B m d] w (Added w g pre a post b) := by
  have hlb := hb.len
  have HA := Kp.mk hA
  have HB := Kp.mk hb
  have DA := Kp.mk da
  have DB := Kp.mk db
  clear hA hb da db
  go_enter Tryz.func259, Tryz.ntmps259
  go_wp2_with fail
  go_loopw [4, 9] (fun cv iv wr => ∃ i : Nat, ∃ cr : Nat, ∃ out : List Nat, i ≤ n ∧ iv = .int .i64 (i : Int) ∧ cv = .int .u64 (cr : Int) ∧ AddP BB a b i out cr ∧ Lb wr g (pre ++ (out ++ post)) ∧ Mds [g] w wr) (fun _ i _ => n - (intOf i).toNat)
  case atStart => exact ⟨0, 0, a, by omega, rfl, rfl, AddP.start DA.out b, HA.out, Mds.refl _ _⟩
  case round =>
    obtain ⟨i, cr, out, hi, rfl, rfl, hs, hL, hx⟩ := hrel
    have hol := hs.len
    by_cases hlt : i < n
    · have b0 : (i : Int) < (n : Int) := by omega
      have k1 := hL.mcell ho (i := i) (by omega)
      have k4 := Lb.free hL (o + i)
      have h1 := hs.d.at32 i
      have h2 := DB.out.at32 i
      have h3 := hs.cr
      have HN := Kp.mk (fun t (ht : t = dg out i + cr + dg b i) => hs.next (by decide) DB.out (by omega) ht)
      have HL := Kp.mk (fun x => hL.mset ho (i := i) (by omega) x)
      have HX := Kp.mk hx
      by_cases hlm : i < m
      · have b1 : (i : Int) < (m : Int) := by omega
        obtain ⟨g2, o2, rfl⟩ := HB.out.some_ (by omega)
        have k2 := (HB.out.mds hx hob).dig i hlm
        unfold vL at k2
        generalize dg out i = x at *
        generalize dg b i = y at *
        clear hs hL hx
        go_wp2_with fail
        go_roundw
        case rel =>
          refine ⟨i + 1, (x + cr + y) / BB, _, by omega, by go_num, by rw [show ((x : Int) + (cr : Int) + (y : Int)) / 4294967296 = (((x + cr + y) / 4294967296 : Nat) : Int) by omega], HN.out _ rfl, ?_, (HX.out.setCell (p := ⟨g, o + i, none⟩) (by simp) _)⟩
          rw [show ((x : Int) + (cr : Int) + (y : Int)) % 4294967296 = (((x + cr + y) % 4294967296 : Nat) : Int) by omega]
          exact HL.out _
        case measure => simp [intOf]; omega
      · have b1 : (m : Int) ≤ (i : Int) := by omega
        have e0 : dg b i = 0 := dg_out b i (by omega)
        rw [e0] at HN
        generalize dg out i = x at *
        clear hs hL hx h2 e0
        go_wp2_with fail
        go_roundw
        case rel =>
          refine ⟨i + 1, (x + cr) / BB, _, by omega, by go_num, by rw [show ((x : Int) + (cr : Int)) / 4294967296 = (((x + cr) / 4294967296 : Nat) : Int) by omega], HN.out _ rfl, ?_, (HX.out.setCell (p := ⟨g, o + i, none⟩) (by simp) _)⟩
          rw [show ((x : Int) + (cr : Int)) % 4294967296 = (((x + cr) % 4294967296 : Nat) : Int) by omega]
          exact HL.out _
        case measure => simp [intOf]; omega
    · obtain rfl : i = n := by omega
      have hv : vl BB out + BB ^ a.length * cr = vl BB a + vl BB b := by
        have h := hs
        rw [← hn] at h
        exact h.done (by omega)
      have HF := Kp.mk (show Added w g pre a post b (.returned (.tuple #[])) wr from ⟨out, cr, rfl, hol, hs.d, hs.cr, hv, hL, hx⟩)
      clear hs hL hx hv
      go_wp2_with fail
      go_end0
      exact HF.out
/-- the cells of a row, put into a block from its beginning on -/
theorem dg_ext {a b : List Nat} (hl : a.length = b.length) (h : ∀ i, i < a.length → dg a i = dg b i) : a = b := by
  refine List.ext_getElem hl fun i h1 h2 => ?_
  have := h i h1
  simpa [dg, h1, h2] using this
end Go.Proofs.YtkdjhklnlnfhfaaGreatDoor
namespace Go.Proofs.YtkdjhklnlnfhfaaGreatDoor
open Go Go.RowKit
set_option maxRecDepth 4000

/-- what a difference in place leaves -/
def Taken (w : World) (g : Nat) (pre a post b : List Nat) (k : Nat) (e : Ending) (w' : World) : Prop :=
  ∃ out cr, e = .returned (.bool (decide (0 < cr))) ∧ out.length = a.length ∧ Dg BB out ∧ vl BB a + BB ^ a.length * cr = vl BB out + k * vl BB b ∧ Lb w' g (pre ++ (out ++ post)) ∧ Mds [g] w w'
set_option maxHeartbeats 2000000 in
theorem takeFrom_any {pre a post b : List Nat} {g o n c m d k : Nat} {B : Option Addr} {w : World} (hA : Lb w g (pre ++ (a ++ post))) (ho : pre.length = o) (hn : a.length = n) (hb : Rd vL w B m d b) (hob : 0 < m → Out B [g])
    (da : Dg BB a) (db : Dg BB b) (hm : m ≤ n) (hlim : n ≤ 1000000000000) (hnc : n ≤ c) (hk : k < 4294967296) :
    Calls Tryz.prog 258 #[.slice (some ⟨g, o, none⟩) n c, .slice B m d, .int .u32 (k : Int)] w (Taken w g pre a post b k) := by
  have hlb := hb.len
  have HA := Kp.mk hA
  have HB := Kp.mk hb
  have DA := Kp.mk da
  have DB := Kp.mk db
  have hs1 := fun W => run_upto (P := Tryz.prog) (some ⟨g, o, none⟩) n c nt ut Tryz.underlying23 szL m (m : Int) rfl (by omega) W
  have hs2 := fun W => run_from (P := Tryz.prog) (some ⟨g, o, none⟩) n c nt ut Tryz.underlying23 szL m (m : Int) rfl (by omega) W
  have hAH : m < n → (if c = m then (some (⟨g, o, none⟩ : Addr)) else (some (⟨g, o, none⟩ : Addr)).map (·.add m)) = some ⟨g, o + m, none⟩ := fun h => by
    rw [if_neg (by omega)]
    simp only [Option.map_some, Option.some.injEq]
    unfold Addr.add
    split <;> simp_all
  have HAH := Kp.mk hAH
  generalize (if c = m then (some (⟨g, o, none⟩ : Addr)) else (some (⟨g, o, none⟩ : Addr)).map (·.add m)) = AH at *
  clear hA hb da db hAH
  go_enter Tryz.func258, Tryz.ntmps258
  go_wp2_with fail
  go_region
  go_wp2_with fail
  go_loopw [9, 25] (fun cv iv wr => ∃ i : Nat, ∃ cr : Nat, ∃ out : List Nat, i ≤ m ∧ iv = .int .i64 (i : Int) ∧ cv = .int .i64 (-(cr : Int)) ∧ SubP BB a b k i out cr ∧ Lb wr g (pre ++ (out ++ post)) ∧ Mds [g] w wr) (fun _ i _ => m - (intOf i).toNat)
  case atStart => exact ⟨0, 0, a, by omega, rfl, by simp, SubP.start (by decide) DA.out b k, HA.out.ext (Ext.refl _).drew, (Mds.refl _ _).drew⟩
  case round =>
    obtain ⟨i, cr, out, hi, rfl, rfl, hs, hL, hx⟩ := hrel
    have hol := hs.len
    by_cases hlt : i < m
    · have b0 : (i : Int) < (m : Int) := by omega
      have k1 := hL.mcell ho (i := i) (by omega)
      have k4 := Lb.free hL (o + i)
      have h1 := hs.d.at32 i
      have h2 := DB.out.at32 i
      have h3 : cr < 4294967296 := hs.cr
      have HN := Kp.mk (fun x c' (hx : x < BB) (he : dg out i + BB * c' = x + k * dg b i + cr) => hs.next (by decide) DB.out hk (by omega) hx he)
      have HL := Kp.mk (fun x => hL.mset ho (i := i) (by omega) x)
      have HX := Kp.mk hx
      obtain ⟨g2, o2, rfl⟩ := HB.out.some_ (by omega)
      have k2 := (HB.out.mds hx hob).dig i hlt
      unfold vL at k2
      generalize dg out i = x at *
      generalize dg b i = y at *
      have hp : k * y ≤ 4294967295 * 4294967295 := Nat.mul_le_mul (by omega) (by omega)
      obtain ⟨p, hpp⟩ : ∃ p, k * y = p := ⟨_, rfl⟩
      have e0 : (k : Int) * (y : Int) = (p : Int) := by rw [← hpp]; exact (Int.natCast_mul k y).symm
      rw [hpp] at hp HN
      clear hs hL hx hpp
      go_wp2_with fail
      go_roundw
      case rel =>
        obtain ⟨X, hX⟩ : ∃ X : Nat, (X : Int) = ((x : Int) - (p : Int) % 4294967296 + -(cr : Int)) % 4294967296 := ⟨(((x : Int) - (p : Int) % 4294967296 + -(cr : Int)) % 4294967296).toNat, by omega⟩
        obtain ⟨C, hC⟩ : ∃ C : Nat, -(C : Int) = ((x : Int) - (p : Int) % 4294967296 + -(cr : Int)) / 4294967296 - (p : Int) / 4294967296 := ⟨(-(((x : Int) - (p : Int) % 4294967296 + -(cr : Int)) / 4294967296 - (p : Int) / 4294967296)).toNat, by omega⟩
        rw [← hX, ← hC]
        exact ⟨i + 1, C, _, by omega, by go_num, rfl, HN.out X C (show X < 4294967296 by omega) (show x + 4294967296 * C = X + p + cr by omega), HL.out X, HX.out.setCell (p := ⟨g, o + i, none⟩) (by simp) _⟩
      case measure => simp [intOf]; omega
    · obtain rfl : i = m := by omega
      have HS := Kp.mk hs
      have HL0 := Kp.mk hL
      have HX0 := Kp.mk hx
      clear hs hL hx
      go_wp2_with fail
      go_loopw [9, 61] (fun cv iv wr => ∃ j : Nat, ∃ cr : Nat, ∃ out : List Nat, j ≤ n - i ∧ iv = .int .i64 (j : Int) ∧ cv = .int .i64 (-(cr : Int)) ∧ SubP BB a b k (i + j) out cr ∧ Lb wr g (pre ++ (out ++ post)) ∧ Mds [g] w wr) (fun _ j _ => n - i - (intOf j).toNat)
      case atStart => exact ⟨0, cr, out, by omega, rfl, rfl, HS.out, HL0.out, HX0.out⟩
      case round =>
        clear HS HL0 HX0 hol
        obtain ⟨j, cr, out, hj, rfl, rfl, hs, hL, hx⟩ := hrel
        have hol := hs.len
        by_cases hlt : j < n - i
        · obtain rfl := HAH.out (by omega)
          have b0 : (j : Int) < (n : Int) - (i : Int) := by omega
          have b1 : (j : Int) < ((n - i : Nat) : Int) := by omega
          have k1 := hL.mcell ho (i := i + j) (by omega)
          rw [← Nat.add_assoc] at k1
          have k4 := Lb.free hL (o + i + j)
          have h1 := hs.d.at32 (i + j)
          have h3 : cr < 4294967296 := hs.cr
          have HN := Kp.mk (fun x c' (hx : x < BB) (he : dg out (i + j) + BB * c' = x + k * dg b (i + j) + cr) => hs.next (by decide) DB.out hk (by omega) hx he)
          rw [dg_out b (i + j) (by omega), Nat.mul_zero] at HN
          have HL := Kp.mk (fun x => hL.mset ho (i := i + j) (by omega) x)
          have HX := Kp.mk hx
          generalize dg out (i + j) = x at *
          clear hs hL hx
          go_wp2_with fail
          go_roundw
          case rel =>
            obtain ⟨X, hX⟩ : ∃ X : Nat, (X : Int) = ((x : Int) + -(cr : Int)) % 4294967296 := ⟨(((x : Int) + -(cr : Int)) % 4294967296).toNat, by omega⟩
            obtain ⟨C, hC⟩ : ∃ C : Nat, -(C : Int) = ((x : Int) + -(cr : Int)) / 4294967296 := ⟨(-(((x : Int) + -(cr : Int)) / 4294967296)).toNat, by omega⟩
            rw [← hX, ← hC]
            have HL2 := HL.out X
            rw [← Nat.add_assoc] at HL2
            exact ⟨j + 1, C, _, by omega, by go_num, rfl, HN.out X C (show X < 4294967296 by omega) (show x + 4294967296 * C = X + 0 + cr by omega), HL2, HX.out.setCell (p := ⟨g, o + i + j, none⟩) (by simp) _⟩
          case measure => simp [intOf]; omega
        · obtain rfl : j = n - i := by omega
          have hv : vl BB a + BB ^ a.length * cr = vl BB out + k * vl BB b := by
            have h := hs
            rw [show i + (n - i) = a.length by omega] at h
            exact h.done (by omega)
          have HF := Kp.mk (show Taken w g pre a post b k (.returned (.bool (decide (0 < cr)))) wr from ⟨out, cr, rfl, hol, hs.d, hv, hL, hx⟩)
          clear hs hL hx hv
          by_cases hz : 0 < cr
          · have e1 : decide (-(cr : Int) < 0) = true := by simp; omega
            rw [decide_eq_true hz] at HF
            go_wp2_with fail
            go_ret
            exact HF.out
          · have e1 : cr = 0 := by omega
            subst e1
            go_wp2_with fail
            go_ret
            exact HF.out
end Go.Proofs.YtkdjhklnlnfhfaaGreatDoor
