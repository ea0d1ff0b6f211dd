/-
  nat: counted, anyLong (by slices.ContainsFunc), cmp.Compare, Cmp, bits.Len32 and LeadingZeros32.
  nat: anyLong, by slices.ContainsFunc over a list of numbers; Cmp.
  nat: addTo, sums in place.
  nat: takeFrom, differences in place.
-/
import Derived.Test.YtfipgmjaabggjaaDoorM4
import Derived.Shelf.Small.Bits
import Derived.Lib.ItoaNum
namespace Go.Proofs.YtfipgmjaabggjaaDoor
open Go Go.RowKit Go.Shelf
set_option maxRecDepth 4000

def lenOf : Value → Nat | .slice _ n _ => n | _ => 0
theorem counted_any {l : List Nat} {A : Option Addr} {n c : Nat} {w : World} (h : Rd vL w A n c l) (hd : Dg BB l) (hn : n ≤ 4611686018427387904) :
    Calls Tryd.prog 64 #[.slice A n c] w fun e w' => ∃ m, m ≤ n ∧ e = .returned (.slice A m c) ∧ l.take m = dgs BB (vl BB l) ∧ w' = w := by
  have HR := Kp.mk h
  have hlen := h.len
  have hcap := h.cap
  clear h
  go_enter Tryd.func64, Tryd.ntmps64
  go_wp2_with fail
  go_loopw [0] (fun iv wr => ∃ j : Nat, j ≤ n ∧ iv = .slice A j c ∧ (∀ i, j ≤ i → dg l i = 0) ∧ wr = w) (fun iv _ => lenOf iv)
  case atStart => exact ⟨n, by omega, rfl, fun i hi => dg_out l i (by omega), rfl⟩
  case round =>
    obtain ⟨j, hj, rfl, hz, rfl⟩ := hrel
    have hfin : ∀ m, m = j → (j = 0 ∨ dg l (j - 1) ≠ 0) → l.take m = dgs BB (vl BB l) := fun m hm ht => by
      subst hm
      exact cut_cn (by decide) hd m (by omega) hz ht
    have HF := Kp.mk hfin
    have HZ := Kp.mk hz
    clear hfin hz
    by_cases h0 : j = 0
    · subst h0
      go_wp2_with fail
      go_ret
      exact ⟨0, by omega, rfl, HF.out 0 rfl (by simp), rfl⟩
    · obtain ⟨g, o, rfl⟩ := HR.out.some_ (by omega)
      obtain ⟨k, rfl⟩ : ∃ k, j = k + 1 := ⟨j - 1, by omega⟩
      have c1 := HR.out.dig k (by omega)
      unfold vL at c1
      have e1 : ((k + 1 : Nat) : Int) - 1 = (k : Int) := by omega
      have b0 : (0 : Int) < ((k + 1 : Nat) : Int) := by omega
      have b1 : (k : Int) < (n : Int) := by omega
      have e2 : IntKind.i64.wrap (k : Int) = (k : Int) := by rw [IntKind.wrap_i64]; omega
      have hs := fun W => run_upto (P := Tryd.prog) (some ⟨g, o, none⟩) (k + 1) c nt ut Tryd.underlying23 szL k (k : Int) rfl (by omega) W
      by_cases hq : dg l k = 0
      · rw [hq] at c1
        have HQ := Kp.mk hq
        clear hq
        go_wp2_with fail
        go_roundw
        case rel => exact ⟨k, by omega, rfl, (fun i hi => by
          by_cases he : i = k
          · rw [he]; exact HQ.out
          · exact HZ.out i (by omega)), by trivial⟩
        case measure => simp [lenOf]
      · have hq2 : ¬ (dg l k : Int) = 0 := by omega
        have HQ := Kp.mk hq
        clear hq
        go_wp2_with fail
        go_ret
        exact ⟨k + 1, by omega, rfl, HF.out (k + 1) rfl (.inr HQ.out), rfl⟩
/-- how many limbs count -/
def nl (v : Nat) : Nat := (dgs BB v).length
/-- the limbs that count -/
theorem counted_rd {l : List Nat} {A : Option Addr} {n c : Nat} {w : World} (h : Rd vL w A n c l) (hd : Dg BB l) (hn : n ≤ 4611686018427387904) :
    Calls Tryd.prog 64 #[.slice A n c] w fun e w' => e = .returned (.slice A (nl (vl BB l)) c) ∧ nl (vl BB l) ≤ n ∧ Rl w A (nl (vl BB l)) c (vl BB l) ∧ w' = w := by
  refine (counted_any h hd hn).mono ?_
  rintro e w' ⟨m, hm, rfl, hr, rfl⟩
  have hl := h.len
  have e1 : nl (vl BB l) = m := by
    unfold nl
    rw [← hr, List.length_take]
    omega
  rw [e1]
  refine ⟨rfl, hm, ?_, rfl⟩
  have h2 := h.take m hm
  rw [hr] at h2
  exact h2
theorem counted_own {l : List Nat} {A : Option Addr} {n c B : Nat} {w : World} (h : Rw ut vL w B (.slice A n c) n l) (hd : Dg BB l) (hn : n ≤ 4611686018427387904) :
    Calls Tryd.prog 64 #[.slice A n c] w fun e w' => e = .returned (.slice A (nl (vl BB l)) c) ∧ nl (vl BB l) ≤ n ∧ Rw ut vL w B (.slice A (nl (vl BB l)) c) (nl (vl BB l)) (dgs BB (vl BB l)) ∧ w' = w := by
  refine (counted_any h.rd hd hn).mono ?_
  rintro e w' ⟨m, hm, rfl, hr, rfl⟩
  have hl := h.len
  have e1 : nl (vl BB l) = m := by
    unfold nl
    rw [← hr, List.length_take]
    omega
  rw [e1]
  refine ⟨rfl, hm, ?_, rfl⟩
  rw [← hr]
  exact h.take hm
def Len32Laid_ren : Go.Shelf.Ren := ⟨fun | 128 => 75 | n => n, fun | 51 => 70 | 3 => 3 | 4 => 4 | 46 => 81 | 5 => 5 | 9 => 9 | n => n, fun | n => n⟩
theorem Len32Laid : Go.Proofs.Lays.n128 Tryd.prog Len32Laid_ren := {
  mixed := by kernel_rfl
  f128 := Tryd.func75.trans (congrArg some (by kernel_rfl))
  t3 := Tryd.underlying3
  a3 := Tryd.isAgg3
  z3 := Tryd.sizeOf3
  v3 := Tryd.zeroValue3
  t4 := Tryd.underlying4
  a4 := Tryd.isAgg4
  z4 := Tryd.sizeOf4
  v4 := Tryd.zeroValue4
  t5 := Tryd.underlying5
  a5 := Tryd.isAgg5
  z5 := Tryd.sizeOf5
  v5 := Tryd.zeroValue5
  t9 := Tryd.underlying9
  a9 := Tryd.isAgg9
  z9 := Tryd.sizeOf9
  v9 := Tryd.zeroValue9
  t46 := Tryd.underlying81
  a46 := Tryd.isAgg81
  z46 := Tryd.sizeOf81
  v46 := Tryd.zeroValue81
  t51 := Tryd.underlying70
  a51 := Tryd.isAgg70
  z51 := Tryd.sizeOf70
  v51 := Tryd.zeroValue70 }
theorem Len32_any (x : Nat) (hx : x < 4294967296) (w : World) : Calls Tryd.prog 75 #[.int .u32 (x : Int)] w fun e w' => e = .returned (.int .i64 (Lib.bitLen x : Int)) ∧ w' = w := by
  have h := Any.bits_Len32 Len32Laid (x : Int) w (by omega) (by omega)
  rw [Int.toNat_natCast] at h
  exact h
theorem Dg.at32 {l : List Nat} (h : Dg BB l) (i : Nat) : dg l i < 4294967296 := h.at (by decide) i
end Go.Proofs.YtfipgmjaabggjaaDoor
namespace Go.Proofs.YtfipgmjaabggjaaDoor
open Go Go.RowKit
set_option maxRecDepth 4000

/-- a slice of limbs, as it is handed on -/
structure Sli where
  A : Option Addr
  n : Nat
  c : Nat
  l : List Nat
def eS (s : Sli) : Value := .slice s.A s.n s.c
/-- it reads as limbs -/
structure SliOk (w : World) (s : Sli) : Prop where
  r : Rd vL w s.A s.n s.c s.l
  d : Dg BB s.l
  n : s.n ≤ 1000000000000
theorem SliOk.ext {w w' : World} {s : Sli} (h : SliOk w s) (hx : Ext w w') : SliOk w' s := ⟨h.r.ext hx, h.d, h.n⟩
def lng (v : Nat) : Prop := 64 < nl v
theorem long1_any {s : Sli} {w : World} (h : SliOk w s) :
    Calls Tryd.prog 82 #[.slice s.A s.n s.c] w fun e w' => e = .returned (.bool (decide (64 < nl (vl BB s.l)))) ∧ w' = w := by
  have hc := counted_rd h.r h.d (by have := h.n; omega)
  generalize nl (vl BB s.l) = N at *
  go_enter Tryd.func82, Tryd.ntmps82
  go_wp2_with (go_at_call 64; refine hc.mono ?_; rintro e w1 ⟨rfl, _, _, rfl⟩)
  go_ret
  exact ⟨by first | rfl | (congr 2; simp; omega), rfl⟩
theorem IndexFunc_any {xs : List Sli} {A : Option Addr} {n c : Nat} {w : World} (h : Rd eS w A n c xs) (hn : n ≤ 1000) (hx : ∀ s ∈ xs, SliOk w s) :
    Calls Tryd.prog 91 #[.slice A n c, .func (.func 82) #[] #[]] w fun e w' => ∃ z : Int, e = .returned (.int .i64 z) ∧ (0 ≤ z ↔ ∃ s ∈ xs, lng (vl BB s.l)) ∧ w' = w := by
  have HR := Kp.mk h
  have HX := Kp.mk hx
  have hlen := h.len
  clear h hx
  go_enter Tryd.func91, Tryd.ntmps91
  go_wp2_with fail
  go_loopw [8] (fun iv wr => ∃ j : Nat, j ≤ n ∧ iv = .int .i64 (j : Int) ∧ (∀ i s, i < j → xs[i]? = some s → ¬ lng (vl BB s.l)) ∧ wr = w) (fun iv _ => n - (intOf iv).toNat)
  case atStart => exact ⟨0, by omega, rfl, fun i s hi => by omega, rfl⟩
  case round =>
    obtain ⟨j, hj, rfl, hz, rfl⟩ := hrel
    have HZ := Kp.mk hz
    clear hz
    by_cases hlt : j < n
    · obtain ⟨g, o, rfl⟩ := HR.out.some_ (by omega)
      obtain ⟨s, hs⟩ : ∃ s, xs[j]? = some s := ⟨xs[j], by simp⟩
      obtain ⟨g', o', ea, hc⟩ := HR.out.at_ (by omega)
      cases ea
      have c1 := hc j s hs
      unfold eS at c1
      have hl := long1_any (HX.out s (List.mem_of_getElem? hs))
      have HS := Kp.mk hs
      have b1 : (j : Int) < (n : Int) := by omega
      clear hc hs
      by_cases hq : 64 < nl (vl BB s.l)
      · rw [decide_eq_true hq] at hl
        have HQ := Kp.mk hq
        clear hq
        go_wp2_with (go_at_call 82; refine hl.mono ?_; rintro e w1 ⟨rfl, rfl⟩)
        go_ret
        exact ⟨_, rfl, ⟨fun _ => ⟨s, List.mem_of_getElem? HS.out, HQ.out⟩, fun _ => by omega⟩, rfl⟩
      · rw [decide_eq_false hq] at hl
        have HQ := Kp.mk hq
        clear hq
        go_wp2_with (go_at_call 82; refine hl.mono ?_; rintro e w1 ⟨rfl, rfl⟩)
        go_roundw
        case rel => exact ⟨j + 1, by omega, by go_num, (fun i t hi ht => by
          by_cases he : i = j
          · subst he
            have := HS.out
            rw [this] at ht
            cases ht
            exact HQ.out
          · exact HZ.out i t (by omega) ht), by trivial⟩
        case measure => simp [intOf]; omega
    · obtain rfl : j = n := by omega
      go_wp2_with fail
      go_ret
      refine ⟨-1, rfl, ⟨fun h => by omega, fun ⟨s, hs, hl⟩ => ?_⟩, rfl⟩
      obtain ⟨i, hi⟩ := List.getElem?_of_mem hs
      exact absurd hl (HZ.out i s (by have := (List.getElem?_eq_some_iff.1 hi).1; omega) hi)
theorem anyLong_any {xs : List Sli} {A : Option Addr} {n c : Nat} {w : World} (h : Rd eS w A n c xs) (hn : n ≤ 1000) (hx : ∀ s ∈ xs, SliOk w s) :
    Calls Tryd.prog 63 #[.slice A n c] w fun e w' => ∃ b : Bool, e = .returned (.bool b) ∧ (b = true ↔ ∃ s ∈ xs, lng (vl BB s.l)) ∧ w' = w := by
  have hI := IndexFunc_any h hn hx
  clear hx h
  have hC : Calls Tryd.prog 81 #[.slice A n c, .func (.func 82) #[] #[]] w fun e w' => ∃ b : Bool, e = .returned (.bool b) ∧ (b = true ↔ ∃ s ∈ xs, lng (vl BB s.l)) ∧ w' = w := by
    go_enter Tryd.func81, Tryd.ntmps81
    go_wp2_with (go_at_call 91; refine hI.mono ?_; rintro e w1 ⟨z, rfl, hz, rfl⟩)
    go_ret
    exact ⟨_, rfl, by rw [← hz]; simp, rfl⟩
  go_enter Tryd.func63, Tryd.ntmps63
  go_wp2_with (go_at_call 81; refine hC.mono ?_; rintro e w1 ⟨b, rfl, hb, rfl⟩)
  go_ret
  exact ⟨b, rfl, hb, rfl⟩
end Go.Proofs.YtfipgmjaabggjaaDoor
namespace Go.Proofs.YtfipgmjaabggjaaDoor
open Go Go.RowKit
set_option maxRecDepth 4000

theorem mid_dg {pre out post : List Nat} {o i : Nat} (ho : pre.length = o) (hi : i < out.length) : dg (pre ++ (out ++ post)) (o + i) = dg out i := by
  subst ho
  rw [dg_append_r, dg_append_l _ _ _ hi]
theorem mid_set {pre out post : List Nat} {o i x : Nat} (ho : pre.length = o) (hi : i < out.length) : (pre ++ (out ++ post)).set (o + i) x = pre ++ (out.set i x ++ post) := by
  subst ho
  rw [List.set_append_right _ _ (by omega), Nat.add_sub_cancel_left, List.set_append_left _ _ hi]
section
variable {w : World} {g o i : Nat} {pre out post : List Nat}
theorem Lb.mcell (h : Lb w g (pre ++ (out ++ post))) (ho : pre.length = o) (hi : i < out.length) : w.cell? ⟨g, o + i, none⟩ = some (.int .u32 (dg out i : Int)) := by
  rw [← mid_dg (post := post) ho hi]
  exact Lb.cell h (o + i) (by rw [List.length_append, List.length_append]; omega)
theorem Lb.mset (h : Lb w g (pre ++ (out ++ post))) (ho : pre.length = o) (hi : i < out.length) (x : Nat) : Lb (w.setCell ⟨g, o + i, none⟩ (.int .u32 (x : Int))) g (pre ++ (out.set i x ++ post)) := by
  rw [← mid_set ho hi]
  exact Lb.set h (o + i) x
end
/-- what a sum in place leaves -/
def Added (w : World) (g : Nat) (pre a post b : List Nat) (e : Ending) (w' : World) : Prop :=
  ∃ out cr, e = .returned (.tuple #[]) ∧ out.length = a.length ∧ Dg BB out ∧ cr ≤ 1 ∧ vl BB out + BB ^ a.length * cr = vl BB a + vl BB b ∧ Lb w' g (pre ++ (out ++ post)) ∧ Mds [g] w w'
/-- the cells of a row, put into a block from its beginning on -/
theorem dg_ext {a b : List Nat} (hl : a.length = b.length) (h : ∀ i, i < a.length → dg a i = dg b i) : a = b := by
  refine List.ext_getElem hl fun i h1 h2 => ?_
  have := h i h1
  simpa [dg, h1, h2] using this
end Go.Proofs.YtfipgmjaabggjaaDoor
namespace Go.Proofs.YtfipgmjaabggjaaDoor
open Go Go.RowKit
set_option maxRecDepth 4000

/-- what a difference in place leaves -/
def Taken (w : World) (g : Nat) (pre a post b : List Nat) (k : Nat) (e : Ending) (w' : World) : Prop :=
  ∃ out cr, e = .returned (.bool (decide (0 < cr))) ∧ out.length = a.length ∧ Dg BB out ∧ vl BB a + BB ^ a.length * cr = vl BB out + k * vl BB b ∧ Lb w' g (pre ++ (out ++ post)) ∧ Mds [g] w w'
end Go.Proofs.YtfipgmjaabggjaaDoor
