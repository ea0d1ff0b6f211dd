/-
  Rows of limbs that are written in place: blocks known whole, windows in them; worlds in which some blocks alone have turned.
-/
import Derived.Test.YtpmoaccaknfodaaDoorNd
import Derived.Test.YtpmoaccaknfodaaDoorNm
namespace Go.Proofs.YtpmoaccaknfodaaDoor
open Go Go.RowKit

abbrev ut : TypeId := 39
/-- limbs as cells -/
def lv (l : List Nat) : Array Value := (l.map vL).toArray
theorem lv_size (l : List Nat) : (lv l).size = l.length := by simp [lv]
theorem lv_at (l : List Nat) (i : Nat) (h : i < l.length) : (lv l)[i]? = some (.int .u32 (dg l i : Int)) := by
  have := dg_in l i h
  simp [lv, this, vL]
theorem lv_set (l : List Nat) (i x : Nat) : (lv l).setIfInBounds i (.int .u32 (x : Int)) = lv (l.set i x) := by
  unfold lv
  rw [List.setIfInBounds_toArray, List.map_set]
  rfl
/-- a later world, in which of the elder blocks those of G alone may have turned -/
structure Mds (G : List Nat) (w w' : World) : Prop where
  os : w'.os = w.os
  tape : w'.tape = w.tape
  output : w'.output = w.output
  size : w.heap.size ≤ w'.heap.size
  block : ∀ k, k < w.heap.size → k ∉ G → w'.heap[k]? = w.heap[k]?
section
variable {G G' : List Nat} {w w' w'' w0 : World}
@[go_sem] theorem Mds.refl (G : List Nat) (w : World) : Mds G w w := ⟨rfl, rfl, rfl, Nat.le_refl _, fun _ _ _ => rfl⟩
theorem Mds.trans (h : Mds G w w') (k : Mds G w' w'') : Mds G w w'' :=
  ⟨k.os.trans h.os, k.tape.trans h.tape, k.output.trans h.output, Nat.le_trans h.size k.size, fun i hi hg => (k.block i (Nat.lt_of_lt_of_le hi h.size) hg).trans (h.block i hi hg)⟩
theorem Mds.mono (h : Mds G w w') (hG : ∀ k, k ∈ G → k ∈ G') : Mds G' w w' := ⟨h.os, h.tape, h.output, h.size, fun k hk hg => h.block k hk fun e => hg (hG k e)⟩
/-- .. or may lie behind the first world -/
theorem Mds.fit (h : Mds G w w') (hG : ∀ k, k ∈ G → k ∈ G' ∨ w.heap.size ≤ k) : Mds G' w w' := ⟨h.os, h.tape, h.output, h.size, fun k hk hg => h.block k hk fun e => by
  rcases hG k e with h1 | h1
  · exact hg h1
  · omega⟩
theorem Ext.mds (h : Ext w w') (G : List Nat) : Mds G w w' := ⟨h.b.os, h.b.tape, h.b.output, h.b.size, fun k hk _ => h.b.block k hk⟩
theorem Mds.drew (h : Mds G w w') : Mds G w w'.drew := ⟨h.os, h.tape, h.output, h.size, h.block⟩
theorem Mds.setCell (h : Mds G w w') {p : Addr} (hp : p.block ∈ G) (v : Value) : Mds G w (w'.setCell p v) :=
  h.trans ⟨rfl, rfl, rfl, by simp [World.setCell], fun k _ hg => Below.heap_setCell _ _ _ _ fun e => hg (e ▸ hp)⟩
theorem Mds.ext (h : Mds G w w') (hx : Ext w0 w) (hG : ∀ k, k ∈ G → w0.heap.size ≤ k) : Ext w0 w' :=
  ⟨⟨h.os.trans hx.b.os, h.tape.trans hx.b.tape, h.output.trans hx.b.output, Nat.le_trans hx.size h.size, fun k hk => (h.block k (Nat.lt_of_lt_of_le hk hx.size) fun e => by have := hG k e; omega).trans (hx.b.block k hk)⟩⟩
theorem Blk.mds {g : Nat} {t : TypeId} {cs : Array Value} (h : Blk w g t cs) (hm : Mds G w w') (hg : g ∉ G) : Blk w' g t cs := ⟨(hm.block g h.lt hg).trans h.h⟩
end
/-- a slice lies in none of these blocks -/
def Out (A : Option Addr) (G : List Nat) : Prop := ∀ ad, A = some ad → ad.block ∉ G
theorem Out.none (G : List Nat) : Out none G := fun _ h => by cases h
theorem Out.some {g o : Nat} {G : List Nat} (h : g ∉ G) : Out (some ⟨g, o, Option.none⟩) G := fun _ e => by cases e; exact h
theorem Out.mono {A : Option Addr} {G G' : List Nat} (h : Out A G) (hG : ∀ k, k ∈ G' → k ∈ G) : Out A G' := fun ad e h1 => h ad e (hG _ h1)
/-- what was there before a block was made lies not in it -/
theorem Rd.lt_ {α : Type} {e : α → Value} {w : World} {A : Option Addr} {n c : Nat} {l : List α} (h : Rd e w A n c l) (hn : 0 < n) (ad : Addr) (ha : A = some ad) : ad.block < w.heap.size := by
  obtain ⟨g, o, e1, hc⟩ := h.at_ hn
  rw [e1] at ha
  cases ha
  have hl := h.len
  obtain ⟨x, hx⟩ : ∃ x, l[0]? = some x := ⟨l[0], by simp⟩
  exact block_lt_of_cell (hc 0 x hx)
theorem Rd.mds {α : Type} {e : α → Value} {w w' : World} {A : Option Addr} {n c : Nat} {l : List α} {G : List Nat} (h : Rd e w A n c l) (hm : Mds G w w') (ho : 0 < n → Out A G) : Rd e w' A n c l := by
  refine ⟨h.len, h.cap, h.nul, fun hn => ?_⟩
  obtain ⟨g, o, rfl, hc⟩ := h.at_ hn
  exact ⟨g, o, rfl, fun j x hj => (World.cell?_of_block (w := w) (a := ⟨g, o + j, none⟩) (hm.block g (block_lt_of_cell (hc j x hj)) (ho hn _ rfl))).trans (hc j x hj)⟩
/-- what was there before these blocks lies in none of them -/
theorem Rd.outs {α : Type} {e : α → Value} {w : World} {A : Option Addr} {n c : Nat} {l : List α} {G : List Nat} (h : Rd e w A n c l) (hG : ∀ k, k ∈ G → w.heap.size ≤ k) : 0 < n → Out A G := fun hn ad ha hk => by
  have h1 := h.lt_ hn ad ha
  have h2 := hG _ hk
  omega
/-- an empty slice: nothing is read of it -/
theorem Rd.out_of {α : Type} {e : α → Value} {w w' : World} {A : Option Addr} {n c : Nat} {l : List α} {G : List Nat} (h : Rd e w A n c l) (hm : Mds G w w') (hG : ∀ k, k ∈ G → w.heap.size ≤ k) : Rd e w' A n c l := by
  refine ⟨h.len, h.cap, h.nul, fun hn => ?_⟩
  obtain ⟨g, o, rfl, hc⟩ := h.at_ hn
  exact ⟨g, o, rfl, fun j x hj => (World.cell?_of_block (w := w) (a := ⟨g, o + j, none⟩) (hm.block g (block_lt_of_cell (hc j x hj)) fun e => by
    have := hG g e
    have h2 : g < w.heap.size := block_lt_of_cell (hc j x hj)
    omega)).trans (hc j x hj)⟩
/-- a block of limbs known whole -/
abbrev Lb (w : World) (g : Nat) (L : List Nat) : Prop := Blk w g ut (lv L)
section
variable {w w' : World} {g : Nat} {L : List Nat}
theorem Lb.cell (h : Lb w g L) (i : Nat) (hi : i < L.length) : w.cell? ⟨g, i, none⟩ = some (.int .u32 (dg L i : Int)) := (h.h.cell i).trans (lv_at L i hi)
theorem Lb.free (h : Lb w g L) (i : Nat) : w.frozen? ⟨g, i, none⟩ = false := h.h.frozen i
theorem Lb.set (h : Lb w g L) (i x : Nat) : Lb (w.setCell ⟨g, i, none⟩ (.int .u32 (x : Int))) g (L.set i x) := by
  have h1 := h.h.set i (.int .u32 (x : Int))
  rw [lv_set] at h1
  exact ⟨h1⟩
theorem Lb.win (h : Lb w g L) (o n c : Nat) (hn : o + n ≤ L.length) (hc : n ≤ c) : Rd vL w (some ⟨g, o, none⟩) n c ((L.drop o).take n) := by
  refine ⟨by rw [List.length_take, List.length_drop]; omega, hc, (fun e => by cases e), fun _ => ⟨g, o, rfl, fun j x hj => ?_⟩⟩
  have hjn : j < n := by have := (List.getElem?_eq_some_iff.1 hj).1; rw [List.length_take] at this; omega
  rw [Lb.cell h (o + j) (by omega)]
  have e2 : dg ((L.drop o).take n) j = x := by simp [dg, hj]
  rw [dg_take _ _ _ hjn, dg_drop] at e2
  rw [e2]
  rfl
theorem Lb.whole (h : Lb w g L) (n c : Nat) (hn : n = L.length) (hc : n ≤ c) : Rd vL w (some ⟨g, 0, none⟩) n c L := by
  have h1 := h.win 0 n c (by omega) hc
  rw [List.drop_zero, List.take_of_length_le (by omega)] at h1
  exact h1
theorem Lb.own (h : Lb w g L) {B n : Nat} (hB : B ≤ g) (hn : L.length = n) (hm : n ≤ maxLen) : Rw ut vL w B (.slice (some ⟨g, 0, none⟩) n n) n L := Rw.has h.h hn hB hm
end
theorem szL : (Tryd.prog.info? ut).map (·.size) = some 1 := by kernel_rfl
def zl (n : Nat) : List Nat := List.replicate n 0
theorem zl_len (n : Nat) : (zl n).length = n := by simp [zl]
theorem zl_dg (n : Nat) : Dg BB (zl n) := fun d hd => by rw [(List.mem_replicate.1 hd).2]; decide
/-- make(api.Nat, n) -/
theorem run_makeL (n : Nat) (S : Int) (hS : S = (n : Int)) (hn : n ≤ 10000000000000) (w : World) :
    (Instr.makeSlice nt (.int .i64 S) (.int .i64 S)).run Tryd.prog w = .ok (.slice (some ⟨w.heap.size, 0, none⟩) n n) (w.alloc (.cells (lv (zl n)) ut)) := by
  subst hS
  obtain ⟨i, hi, hz, hs, hb⟩ := info_parts inL
  have hr := run_make (P := Tryd.prog) w nt ut i (.int .u32 0) Tryd.underlying25 hi hz .i64 .i64 (n : Int) (n : Int) (by omega) (by omega) (by rw [hb]; omega) (by omega)
  rw [hr, hs]
  simp only [Int.toNat_natCast, Nat.mul_one]
  rw [show (Value.int .u32 0).cells = #[Value.int .u32 0] from rfl]
  have e : madeCells #[Value.int .u32 0] n = lv (zl n) := by
    apply Array.ext_getElem?
    intro i
    by_cases h : i < n
    · simp [madeCells, lv, zl, vL, h, Nat.mod_one]
    · simp [madeCells, lv, zl, h]
  rw [e]
theorem Lb.new (w : World) (L : List Nat) : Lb (w.alloc (.cells (lv L) ut)) w.heap.size L := Blk.new w ut (lv L)
/-- what a call leaves that makes a number: its limbs, in new memory -/
def FreshL (w : World) (v : Nat) (e : Ending) (w' : World) : Prop :=
  ∃ A n c, e = .returned (.slice A n c) ∧ Rw ut vL w' w.heap.size (.slice A n c) n (dgs BB v) ∧ Ext w w'
/-- limbs that read as a number's, with nothing of 0 at the end -/
abbrev Rl (w : World) (A : Option Addr) (n c v : Nat) : Prop := Rd vL w A n c (dgs BB v)
end Go.Proofs.YtpmoaccaknfodaaDoor
