/-
  slices of slices of bytes; slices.SortFunc by the shelf's contract; slices.SortedFunc, slices.Values, prim.Sorted.
-/
import Derived.Test.YtfipgmjaabggjaaDoorVYj
import Derived.Test.YtfipgmjaabggjaaDoorVYh
namespace Go.Proofs.YtfipgmjaabggjaaDoor
open Go Go.RowKit Go.Shelf Go.Sort
set_option maxRecDepth 4000

abbrev SP := SA × List (BitVec 8)
/-- a slice of slices of bytes, each with what it reads as -/
structure Sls (w : World) (A : Option Addr) (n c : Nat) (ps : List SP) : Prop where
  len : ps.length = n
  cap : n ≤ c
  nil_ : A = none → n = 0 ∧ c = 0
  at_ : 0 < n → ∃ g o, A = some ⟨g, o, none⟩ ∧ ∀ (k : Nat) (p : SP), ps[k]? = some p → w.cell? ⟨g, o + k, none⟩ = some (sv p.1)
  bs : ∀ p ∈ ps, Bs w p.1.1 p.1.2.1 p.1.2.2 p.2
theorem Sls.ext {w w' : World} {A : Option Addr} {n c : Nat} {ps : List SP} (h : Sls w A n c ps) (hx : Ext w w') : Sls w' A n c ps := by
  refine ⟨h.len, h.cap, h.nil_, fun hn => ?_, fun p hp => (h.bs p hp).ext hx⟩
  obtain ⟨g, o, e, hc⟩ := h.at_ hn
  exact ⟨g, o, e, fun k p hk => (hx.b.cell (p := ⟨g, o + k, none⟩) (World.block_lt_of_cell? _ _ (hc k p hk))).trans (hc k p hk)⟩
/-- the elements, as the sort has them: each with its bytes, which stood ahead of the sort -/
def Sel (w : World) : Type := {p : SP // Bs w p.1.1 p.1.2.1 p.1.2.2 p.2}
def Sel.val {w : World} (x : Sel w) : SP := x.1
instance (w : World) : Inhabited (Sel w) := ⟨⟨((none, 0, 0), []), Bs.nil w⟩⟩
def Sel.enc {w : World} (x : Sel w) : Value := sv x.1.1
def Sel.key {w : World} (x : Sel w) : List UInt8 := x.1.2.map UInt8.ofBitVec
def Sel.cf {w : World} (x y : Sel w) : Int := Lib.compareBytes x.key y.key
theorem Sel.cell {w : World} : OneCell (Sel.enc (w := w)) := fun _ => rfl
theorem Sel.of {w : World} : ∀ (ps : List SP), (∀ p ∈ ps, Bs w p.1.1 p.1.2.1 p.1.2.2 p.2) → ∃ d : List (Sel w), d.map Sel.val = ps
  | [], _ => ⟨[], rfl⟩
  | p :: ps, h => by
    obtain ⟨d, hd⟩ := Sel.of ps fun q hq => h q (List.mem_cons_of_mem _ hq)
    exact ⟨⟨p, h p (List.mem_cons_self ..)⟩ :: d, congrArg (p :: ·) hd⟩
theorem get_list {α : Type} [Inhabited α] (d : List α) (j : Nat) (hj : j < d.length) : d.toArray[j]! = d[j] := by simp [hj]
/-- no later one is less than an earlier one -/
def Asc (ps : List SP) : Prop := ∀ (i j : Nat) (p q : SP), i < j → ps[i]? = some p → ps[j]? = some q → ¬ q.2.map UInt8.ofBitVec < p.2.map UInt8.ofBitVec
theorem grownBy_sortG {α : Type} [Inhabited α] (enc : α → Value) (w : World) (blk off n : Nat) (d : Array α) (os : Array Obj) : w.grownBy (sortWorld enc w blk off n d os) (some blk) := by
  refine ⟨rfl, rfl, rfl, ?_, fun k hk hne => ?_⟩
  · unfold sortWorld
    rw [size_grow, Go.Sort.size_putRow]
    exact Nat.le_add_right _ _
  · unfold sortWorld
    rw [heap_grow_old _ _ (by rw [Go.Sort.size_putRow]; exact hk)]
    have : blk ≠ k := fun e => hne (by rw [e])
    simp [putRow, mapBlock, Go.Sort.ahead, Array.getElem?_modify, this]
theorem ext_sort {w0 w : World} (hx : Ext w0 w) {α : Type} [Inhabited α] (enc : α → Value) (blk off n : Nat) (d : Array α) (os : Array Obj) (hb : w0.heap.size ≤ blk) : Ext w0 (sortWorld enc w blk off n d os) :=
  hx.grown (grownBy_sortG enc w blk off n d os) (fun k e => by cases e; exact hb)
theorem SortFunc_some {w0 w : World} (hx : Ext w0 w) (ps : List SP) (hbs : ∀ p ∈ ps, Bs w0 p.1.1 p.1.2.1 p.1.2.2 p.2) (blk cap n : Nat) (hl : ps.length = n) (hb : w0.heap.size ≤ blk) (hblk : blk < w.heap.size)
    (hc : ∀ (k : Nat) (p : SP), ps[k]? = some p → w.cell? ⟨blk, k, none⟩ = some (sv p.1)) (hf : ∀ k, w.frozen? ⟨blk, k, none⟩ = false) (hn : n ≤ 1000000) :
    Calls Tryd.prog 78 #[.slice (some ⟨blk, 0, none⟩) n cap, .func (.func 62) #[] #[]] w fun e w' => e = .returned (.tuple #[]) ∧
      ∃ qs : List SP, qs.Perm ps ∧ Asc qs ∧ Ext w0 w' ∧ ∀ (k : Nat) (q : SP), qs[k]? = some q → w'.cell? ⟨blk, k, none⟩ = some (sv q.1) := by
  obtain ⟨d, hd⟩ := Sel.of ps hbs
  have hdl : d.length = n := by rw [← hl, ← hd, List.length_map]
  have hH : Holds Sel.enc w blk 0 d.toArray := fun j hj => by
    have hj' : j < d.length := by simpa using hj
    rw [get_list d j hj', Nat.zero_add]
    exact ⟨hc j d[j].1 (by rw [← hd, List.getElem?_map, List.getElem?_eq_getElem hj']; rfl), hf j⟩
  have hcmp : CmpLays1 Tryd.prog 62 #[] (Sel.enc (w := w0)) Sel.cf blk 0 d.toArray.size w := fun m os dk _ x y => by
    have hw := ext_sort hx Sel.enc blk 0 m dk os hb
    refine (Compare8_any (x.2.ext hw) (y.2.ext hw)).mono ?_
    rintro e w' ⟨rfl, rfl⟩
    exact ⟨rfl, 0, #[], by rw [grow_empty]; rfl⟩
  have h := Any.slices_SortFunc SortLaid Sel.enc Sel.cell Sel.cf (swoB Sel.key) 62 #[] blk 0 cap d.toArray w (enters_of Tryd.func62 (by kernel_rfl) rfl) hcmp hH hblk (by simp; omega)
  have hsz : d.toArray.size = n := by simp [hdl]
  rw [hsz] at h
  refine h.mono ?_
  rintro e w' ⟨rfl, d', m, os, ⟨hp1, _, hp2⟩, hs, rfl⟩
  have hd's : d'.size = n := hp1.trans hsz
  refine ⟨rfl, d'.toList.map Sel.val, ?_, ?_, ext_sort hx Sel.enc blk 0 m d' os hb, ?_⟩
  · rw [← hd]
    refine List.Perm.map _ ?_
    have e1 : d'.extract 0 n = d' := by rw [← hd's]; exact Array.extract_size
    have e2 : d.toArray.extract 0 n = d.toArray := by rw [← hsz]; exact Array.extract_size
    rw [e1, e2] at hp2
    exact hp2
  · intro i j p q hij hi hj
    rw [List.getElem?_map] at hi hj
    have hjl : j < d'.size := by
      rcases Nat.lt_or_ge j d'.size with h1 | h1
      · exact h1
      · rw [List.getElem?_eq_none (by simpa using h1)] at hj; cases hj
    have hil : i < d'.size := by omega
    have hq := hs i j (Nat.zero_le _) hij (by omega)
    rw [getElem!_pos d' j hjl, getElem!_pos d' i hil] at hq
    rw [Array.getElem?_toList, Array.getElem?_eq_getElem hil] at hi
    rw [Array.getElem?_toList, Array.getElem?_eq_getElem hjl] at hj
    cases hi
    cases hj
    unfold ltOf Sel.cf at hq
    rw [decide_eq_false_iff_not, cmp_lt] at hq
    exact hq
  · intro k q hk
    have hh := holds_sortWorld Sel.enc w blk 0 m d.toArray d' os hblk hH hp1
    rw [List.getElem?_map] at hk
    have hkl : k < d'.size := by
      rcases Nat.lt_or_ge k d'.size with h1 | h1
      · exact h1
      · rw [List.getElem?_eq_none (by simpa using h1)] at hk; cases hk
    have h1 := (hh k hkl).1
    rw [getElem!_pos d' k hkl, Nat.zero_add] at h1
    rw [Array.getElem?_toList, Array.getElem?_eq_getElem hkl] at hk
    cases hk
    exact h1
end Go.Proofs.YtfipgmjaabggjaaDoor
