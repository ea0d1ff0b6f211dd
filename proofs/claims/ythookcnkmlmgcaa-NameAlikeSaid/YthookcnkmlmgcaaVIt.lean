/-
  slices.SortFunc at what attributes that are alike have in common, by the shelf's contract.
-/
import Derived.Test.YthookcnkmlmgcaaVIs
import Derived.Shelf.SlSortCmp.WholeK
import Derived.Shelf.SlSortCmp.NoneTotal
namespace Go.Proofs.Ythookcnkmlmgcaa
open Go Go.RowKit Go.Shelf Go.Sort
set_option maxRecDepth 4000

def SortLaidK_ren : Go.Shelf.Ren := ⟨fun | 6 => 22 | 15 => 26 | 14 => 25 | 28 => 38 | 29 => 39 | 20 => 30 | 21 => 31 | 22 => 32 | 23 => 33 | 24 => 34 | 25 => 35 | 26 => 36 | 27 => 37 | 46 => 42 | 47 => 43 | 48 => 44 | 49 => 45 | 50 => 46 | 57 => 48 | n => n, fun | 22 => 40 | 24 => 42 | 25 => 47 | 3 => 3 | 39 => 52 | 0 => 0 | 53 => 49 | 55 => 66 | 4 => 4 | 46 => 58 | 45 => 57 | 50 => 62 | 5 => 5 | 9 => 9 | 66 => 69 | 70 => 73 | 76 => 76 | 77 => 77 | n => n, fun | n => n⟩
theorem SortLaidK : Go.Proofs.SlLaysF0.n6 Try.prog SortLaidK_ren := {
  mixed := by kernel_rfl
  f6 := ⟨Try.f22.name, by decide, Try.func22.trans (congrArg some (by kernel_rfl))⟩
  f14 := ⟨Try.f25.name, by decide, Try.func25.trans (congrArg some (by kernel_rfl))⟩
  f15 := Try.func26.trans (congrArg some (by kernel_rfl))
  f20 := ⟨Try.f30.name, by decide, Try.func30.trans (congrArg some (by kernel_rfl))⟩
  f21 := ⟨Try.f31.name, by decide, Try.func31.trans (congrArg some (by kernel_rfl))⟩
  f22 := ⟨Try.f32.name, by decide, Try.func32.trans (congrArg some (by kernel_rfl))⟩
  f23 := ⟨Try.f33.name, by decide, Try.func33.trans (congrArg some (by kernel_rfl))⟩
  f24 := ⟨Try.f34.name, by decide, Try.func34.trans (congrArg some (by kernel_rfl))⟩
  f25 := ⟨Try.f35.name, by decide, Try.func35.trans (congrArg some (by kernel_rfl))⟩
  f26 := ⟨Try.f36.name, by decide, Try.func36.trans (congrArg some (by kernel_rfl))⟩
  f27 := ⟨Try.f37.name, by decide, Try.func37.trans (congrArg some (by kernel_rfl))⟩
  f28 := Try.func38.trans (congrArg some (by kernel_rfl))
  f29 := Try.func39.trans (congrArg some (by kernel_rfl))
  f46 := ⟨Try.f42.name, by decide, Try.func42.trans (congrArg some (by kernel_rfl))⟩
  f47 := Try.func43.trans (congrArg some (by kernel_rfl))
  f48 := Try.func44.trans (congrArg some (by kernel_rfl))
  f49 := ⟨Try.f45.name, by decide, Try.func45.trans (congrArg some (by kernel_rfl))⟩
  f50 := ⟨Try.f46.name, by decide, Try.func46.trans (congrArg some (by kernel_rfl))⟩
  f57 := ⟨Try.f48.name, by decide, Try.func48.trans (congrArg some (by kernel_rfl))⟩
  t0 := Try.underlying0
  a0 := Try.isAgg0
  z0 := Try.sizeOf0
  v0 := Try.zeroValue0
  t3 := Try.underlying3
  a3 := Try.isAgg3
  z3 := Try.sizeOf3
  v3 := Try.zeroValue3
  t4 := Try.underlying4
  a4 := Try.isAgg4
  z4 := Try.sizeOf4
  v4 := Try.zeroValue4
  t5 := Try.underlying5
  a5 := Try.isAgg5
  z5 := Try.sizeOf5
  v5 := Try.zeroValue5
  t9 := Try.underlying9
  a9 := Try.isAgg9
  z9 := Try.sizeOf9
  v9 := Try.zeroValue9
  t22 := Try.underlying40
  a22 := Try.isAgg40
  z22 := Try.sizeOf40
  v22 := Try.zeroValue40
  t25 := Try.underlying47
  a25 := Try.isAgg47
  z25 := Try.sizeOf47
  v25 := Try.zeroValue47
  t39 := Try.underlying52
  a39 := Try.isAgg52
  z39 := Try.sizeOf52
  v39 := Try.zeroValue52
  t45 := Try.underlying57
  a45 := Try.isAgg57
  z45 := Try.sizeOf57
  v45 := Try.zeroValue57
  t46 := Try.underlying58
  a46 := Try.isAgg58
  z46 := Try.sizeOf58
  v46 := Try.zeroValue58
  t50 := Try.underlying62
  a50 := Try.isAgg62
  z50 := Try.sizeOf62
  v50 := Try.zeroValue62
  t53 := Try.underlying49
  a53 := Try.isAgg49
  z53 := Try.sizeOf49
  v53 := Try.zeroValue49
  t55 := Try.underlying66
  a55 := Try.isAgg66
  z55 := Try.sizeOf66
  v55 := Try.zeroValue66
  t66 := Try.underlying69
  a66 := Try.isAgg69
  z66 := Try.sizeOf69
  v66 := Try.zeroValue69
  t70 := Try.underlying73
  a70 := Try.isAgg73
  z70 := Try.sizeOf73
  v70 := Try.zeroValue73
  t76 := Try.underlying76
  a76 := Try.isAgg76
  z76 := Try.sizeOf76
  v76 := Try.zeroValue76
  t77 := Try.underlying77
  a77 := Try.isAgg77
  z77 := Try.sizeOf77
  v77 := Try.zeroValue77 }
/-- the elements, as the sort has them -/
def SlK (w : World) (g : Nat) : Type := {p : SSn // SnF w g p.1 p.2}
instance (w : World) (g : Nat) : Inhabited (SlK w g) := ⟨⟨(((none, 0, 0), (none, 0, 0)), ([], [])), ⟨⟨Rd.nil w, Nat.zero_le _, Bs.nil w⟩, fun _ h => absurd h (Nat.lt_irrefl 0), fun _ h => absurd h (Nat.lt_irrefl 0)⟩⟩⟩
def SlK.val {w : World} {g : Nat} (x : SlK w g) : SSn := x.1
def SlK.enc {w : World} {g : Nat} (x : SlK w g) : List Value := [kdV x.1.1, txV x.1.1]
def SlK.cf {w : World} {g : Nat} (x y : SlK w g) : Int := cmpS x.1.2 y.1.2
theorem SlK.of {w : World} {g : Nat} : ∀ (ps : List SSn), (∀ p ∈ ps, SnF w g p.1 p.2) → ∃ d : List (SlK w g), d.map SlK.val = ps
  | [], _ => ⟨[], rfl⟩
  | p :: ps, h => by
    obtain ⟨d, hd⟩ := SlK.of ps fun q hq => h q (List.mem_cons_of_mem _ hq)
    exact ⟨⟨p, h p (List.mem_cons_self ..)⟩ :: d, congrArg (p :: ·) hd⟩
theorem SlK.swo {w : World} {g : Nat} : SWO (ltOf (SlK.cf (w := w) (g := g))) where
  irrefl x := by
    unfold ltOf SlK.cf
    rw [cmpS_is.refl]
    rfl
  trans x y z h1 h2 := by
    unfold ltOf SlK.cf at *
    rw [decide_eq_true_eq] at *
    exact cmpS_is.tr _ _ _ h1 h2
  ntrans x y z h1 h2 := by
    unfold ltOf SlK.cf at *
    rw [decide_eq_false_iff_not] at *
    intro h3
    have a1 := cmpS_is.anti x.1.2 y.1.2
    have a2 := cmpS_is.anti y.1.2 z.1.2
    by_cases e1 : cmpS x.1.2 y.1.2 = 0
    · rw [(cmpS_is.zero _ _).1 e1] at h3
      exact h2 h3
    · have b1 : cmpS y.1.2 x.1.2 < 0 := by omega
      exact h2 (cmpS_is.tr _ _ _ b1 h3)
theorem get_listK {α : Type} [Inhabited α] (d : List α) (j : Nat) (hj : j < d.length) : d.toArray[j]! = d[j] := by simp [hj]
theorem grownBy_sortK {α : Type} [Inhabited α] (enc : α → List Value) (k : Nat) (w : World) (blk off n : Nat) (d : Array α) (os : Array Obj) : w.grownBy (sortWorldK enc k w blk off n d os) (some blk) := by
  refine ⟨rfl, rfl, rfl, ?_, fun j hj hne => ?_⟩
  · unfold sortWorldK
    rw [size_grow, size_putRowK]
    exact Nat.le_add_right _ _
  · unfold sortWorldK
    rw [heap_grow_old _ _ (by rw [size_putRowK]; exact hj)]
    have : blk ≠ j := fun e => hne (by rw [e])
    simp [putRowK, putRow, mapBlock, Go.Sort.ahead, Array.getElem?_modify, this]
theorem mds_sortK {α : Type} [Inhabited α] (enc : α → List Value) (k : Nat) (w : World) (blk off n : Nat) (d : Array α) (os : Array Obj) : Mds [blk] w (sortWorldK enc k w blk off n d os) := by
  have hg := grownBy_sortK enc k w blk off n d os
  exact ⟨hg.os, hg.tape, hg.output, hg.size, fun j hj hn => hg.block j hj fun e => hn (by rw [Option.some.inj e.symm]; simp)⟩
theorem aggSn (w : World) : (isAgg 42).run Try.prog w = .ok true w := by
  unfold isAgg
  rw [Sem.run_bind, run_underlying Try.underlying42 w]
  rfl
theorem sizSn (w : World) : (Go.sizeOf 42).run Try.prog w = .ok 2 w := by
  have h := szSn
  cases hq : Try.prog.info? 42 with
  | none => rw [hq] at h; cases h
  | some i =>
    rw [hq] at h
    have h1 : i.size = 2 := by simpa using h
    simp [Go.sizeOf, typeInfo, hq, h1]
theorem SortSn_some {w : World} (ps : List SSn) (g cap n : Nat) (hr : ∀ p ∈ ps, SnF w g p.1 p.2) (hl : ps.length = n) (hg : g < w.heap.size)
    (hc : ∀ (k : Nat) (p : SSn), ps[k]? = some p → w.cell? ⟨g, k * 2, none⟩ = some (kdV p.1) ∧ w.cell? ⟨g, k * 2 + 1, none⟩ = some (txV p.1)) (hf : ∀ k, w.frozen? ⟨g, k, none⟩ = false) (hn : n ≤ 1000000) :
    Calls Try.prog 22 #[.slice (some ⟨g, 0, none⟩) n cap, .func (.func 23) #[] #[]] w fun e w' => e = .returned (.tuple #[]) ∧
      ∃ qs : List SSn, qs.Perm ps ∧ Sor cmpS (qs.map Prod.snd) ∧ Mds [g] w w' ∧ CmI w' w' g qs [] ∧ ∀ p ∈ qs, SnF w' g p.1 p.2 := by
  obtain ⟨d, hd⟩ := SlK.of ps hr
  have hdl : d.length = n := by rw [← hl, ← hd, List.length_map]
  have hget : ∀ (j : Nat) (h : j < d.length), ps[j]? = some d[j].1 := fun j h => by rw [← hd, List.getElem?_map, List.getElem?_eq_getElem h]; rfl
  have hH : HoldsK SlK.enc 2 w g 0 d.toArray := fun t ht => by
    rw [size_flatK] at ht
    have ht2 : t < d.length * 2 := by simpa using ht
    have hj : t / 2 < d.length := by omega
    rw [get_flatK _ _ _ _ ht, get_listK d _ hj, Nat.zero_add]
    obtain ⟨c1, c2⟩ := hc _ _ (hget _ hj)
    refine ⟨?_, hf t⟩
    rcases Nat.mod_two_eq_zero_or_one t with h2 | h2
    · rw [h2]
      have e : t / 2 * 2 = t := by omega
      rw [e] at c1
      exact c1
    · rw [h2]
      have e : t / 2 * 2 + 1 = t := by omega
      rw [e] at c2
      exact c2
  have hcmp : CmpLays Try.prog 23 #[] (SlK.enc (w := w) (g := g)) 2 SlK.cf g 0 d.toArray.size w := fun m os dk _ x y => by
    have hw := mds_sortK SlK.enc 2 w g 0 m dk os
    exact compareSenses_any (x.2.mds hw).r (y.2.mds hw).r
  have h := AnyQ.slices_SortFunc SortLaidK 2 aggSn sizSn SlK.enc (fun _ => rfl) (fun x v hv => by
    unfold SlK.enc at hv
    rcases List.mem_cons.1 hv with rfl | hv
    · rfl
    · rcases List.mem_cons.1 hv with rfl | hv
      · rfl
      · cases hv) SlK.cf SlK.swo 23 #[] g 0 cap d.toArray w (enters_of Try.func23 (by kernel_rfl) rfl) hcmp hH hg (by simp; omega)
  have hsz : d.toArray.size = n := by simp [hdl]
  rw [hsz] at h
  refine h.mono ?_
  rintro e w' ⟨rfl, d', m, os, ⟨hp1, _, hp2⟩, hs, rfl⟩
  have hd's : d'.size = n := hp1.trans hsz
  have hm := mds_sortK SlK.enc 2 w g 0 m d' os
  have hperm : (d'.toList.map SlK.val).Perm ps := by
    rw [← hd]
    refine List.Perm.map _ ?_
    have e1 : d'.extract 0 n = d' := by rw [← hd's]; exact Array.extract_size
    have e2 : d.toArray.extract 0 n = d.toArray := by rw [← hsz]; exact Array.extract_size
    rw [e1, e2] at hp2
    exact hp2
  have hh := holdsK_sortWorldK SlK.enc 2 w g 0 m d.toArray d' os hg hH hp1
  have hql : (d'.toList.map SlK.val).length = n := by rw [List.length_map, Array.length_toList, hd's]
  refine ⟨rfl, d'.toList.map SlK.val, hperm, ?_, hm, ⟨Mds.refl _ _, (fun k p hk => by simp at hk), fun k q _ hk => ?_, fun i hi => ?_⟩, fun p hp => (hr p (hperm.mem_iff.1 hp)).mds hm⟩
  · rw [List.map_map]
    refine List.pairwise_iff_getElem.2 fun i j hi hj hij => ?_
    rw [List.length_map, Array.length_toList] at hi hj
    have hq := hs i j (Nat.zero_le _) hij (by omega)
    rw [getElem!_pos d' j hj, getElem!_pos d' i hi] at hq
    unfold ltOf SlK.cf at hq
    rw [decide_eq_false_iff_not] at hq
    simp only [List.getElem_map, Array.getElem_toList]
    exact hq
  · rw [List.getElem?_map] at hk
    have hkl : k < d'.size := by
      rcases Nat.lt_or_ge k d'.size with h1 | h1
      · exact h1
      · rw [List.getElem?_eq_none (by simpa using h1)] at hk; cases hk
    have h1 := (hh.cell hkl (show 0 < 2 by omega)).1
    have h2 := (hh.cell hkl (show 1 < 2 by omega)).1
    rw [getElem!_pos d' k hkl, Nat.zero_add] at h1 h2
    rw [Array.getElem?_toList, Array.getElem?_eq_getElem hkl] at hk
    cases hk
    exact ⟨h1, h2⟩
  · rw [hql] at hi
    have hkl : i / 2 < d'.size := by omega
    have h1 := (hh.cell hkl (show i % 2 < 2 by omega)).2
    rw [Nat.zero_add, show i / 2 * 2 + i % 2 = i by omega] at h1
    exact h1
theorem SortSn_none (A : Option Addr) (c : Nat) (w : World) :
    Calls Try.prog 22 #[.slice A 0 c, .func (.func 23) #[] #[]] w fun e w' => e = .returned (.tuple #[]) ∧ w' = w :=
  AnyF.slices_SortFunc_none SortLaidK A c _ w
end Go.Proofs.Ythookcnkmlmgcaa
