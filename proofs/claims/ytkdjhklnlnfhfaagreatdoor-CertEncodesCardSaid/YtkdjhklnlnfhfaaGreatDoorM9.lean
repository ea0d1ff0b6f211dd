/-
  Names' bytes, plain: what may be, its bytes, and that unlike names have unlike bytes. T: whether bytes are a text of a mark.
  Elements that bytes begin with, that they are one behind the other; the body of one: as the reference goes. Plain.
  A name's bytes taken apart: its steps, their attributes, their types and texts. Plain.
  A certificate's say, whether it may be, and its body's bytes. Plain. T: whether bytes are a text of a mark; G: a number's body; PK: the keys that may be.
-/
import Derived.Test.YtkdjhklnlnfhfaaGreatDoorM8
import Derived.Test.YtkdjhklnlnfhfaaGreatDoorM4
import Derived.Test.YtkdjhklnlnfhfaaGreatDoorM6
namespace Go.Proofs.YtkdjhklnlnfhfaaGreatDoor
open Go
set_option maxRecDepth 4000

/-- what stands ahead decides -/
theorem elm_cut {m m' : BitVec 8} {x y r s : List (BitVec 8)} (h : elm m x ++ r = elm m' y ++ s) (hx : x.length ≤ 65535) (hy : y.length ≤ 65535) (hm : mkB m = true) (hm' : mkB m' = true) : m = m' ∧ x = y ∧ r = s := by
  have e1 : El (elm m x ++ r) m x r := ⟨hm, hx, rfl⟩
  have e2 : El (elm m x ++ r) m' y s := ⟨hm', hy, h⟩
  have hl : x.length = y.length := (lnOf_el e1).symm.trans (lnOf_el e2)
  obtain ⟨a1, _, _, _, a5, a6⟩ := el_parts e1
  obtain ⟨b1, _, _, _, b5, b6⟩ := el_parts e2
  rw [← hl] at b5 b6
  exact ⟨a1.symm.trans b1, a5.symm.trans b5, a6.symm.trans b6⟩
theorem elm_inj {m m' : BitVec 8} {x y : List (BitVec 8)} (h : elm m x = elm m' y) (hx : x.length ≤ 65535) (hy : y.length ≤ 65535) (hm : mkB m = true) (hm' : mkB m' = true) : m = m' ∧ x = y := by
  have := elm_cut (r := []) (s := []) (by rw [h]) hx hy hm hm'
  exact ⟨this.1, this.2.1⟩
/-- an element -/
def IsEl (z : List (BitVec 8)) : Prop := ∃ m x, mkB m = true ∧ x.length ≤ 65535 ∧ z = elm m x
theorem IsEl.ne {z : List (BitVec 8)} (h : IsEl z) : z ≠ [] := by
  obtain ⟨m, x, _, _, rfl⟩ := h
  intro e
  have := congrArg List.length e
  rw [elm_len] at this
  have h2 := hdn_lo x.length
  simp at this
  omega
/-- elements one behind the other are told apart -/
theorem flat_inj : ∀ {a b : List (List (BitVec 8))}, (∀ z ∈ a, IsEl z) → (∀ z ∈ b, IsEl z) → a.flatten = b.flatten → a = b
  | [], [], _, _, _ => rfl
  | [], z :: b, _, hb, h => by
    have := (hb z (by simp)).ne
    simp at h
    exact absurd h.1 this
  | z :: a, [], ha, _, h => by
    have := (ha z (by simp)).ne
    simp at h
    exact absurd h.1 this
  | z :: a, y :: b, ha, hb, h => by
    obtain ⟨m, x, hm, hx, rfl⟩ := ha z (by simp)
    obtain ⟨m', x', hm', hx', rfl⟩ := hb y (by simp)
    rw [List.flatten_cons, List.flatten_cons] at h
    obtain ⟨rfl, rfl, h3⟩ := elm_cut h hx hx' hm hm'
    rw [flat_inj (fun z hz => ha z (by simp [hz])) (fun z hz => hb z (by simp [hz])) h3]
section
variable (T : BitVec 8 → List (BitVec 8) → Bool)
/-- may an attribute be? -/
structure MayA (a : Atr) : Prop where
  oid : OidP a.ty
  mark : a.mark = 12 ∨ a.mark = 19
  lo : 1 ≤ a.tx.length
  hi : a.tx.length ≤ 64
  text : T a.mark a.tx = true
def atrB (a : Atr) : List (BitVec 8) := elm 48 (elm 6 (oidB a.ty) ++ elm a.mark a.tx)
/-- the order of bytes -/
def Lt8 (a b : List (BitVec 8)) : Prop := a.map UInt8.ofBitVec < b.map UInt8.ofBitVec
structure MayS (s : List Atr) : Prop where
  lo : 1 ≤ s.length
  hi : s.length ≤ 4
  all : ∀ a ∈ s, MayA T a
  rise : (s.map atrB).Pairwise Lt8
def stpB (s : List Atr) : List (BitVec 8) := elm 49 (s.map atrB).flatten
structure MayN (n : List (List Atr)) : Prop where
  hi : n.length ≤ 8
  all : ∀ s ∈ n, MayS T s
def namB (n : List (List Atr)) : List (BitVec 8) := elm 48 (n.map stpB).flatten
variable {T}
theorem MayA.mkb {a : Atr} (h : MayA T a) : mkB a.mark = true := by
  rcases h.mark with e | e <;> rw [e] <;> decide
theorem elm_hi (m : BitVec 8) (x : List (BitVec 8)) : (elm m x).length ≤ x.length + 4 := by
  rw [elm_len]
  have := hdn_hi x.length
  omega
theorem MayA.body {a : Atr} (h : MayA T a) : (elm 6 (oidB a.ty) ++ elm a.mark a.tx).length ≤ 147 := by
  have h1 := oidB_len h.oid
  have h2 := elm_hi 6 (oidB a.ty)
  have h3 := elm_hi a.mark a.tx
  have h4 := h.hi
  rw [List.length_append]
  omega
theorem MayA.len {a : Atr} (h : MayA T a) : (atrB a).length ≤ 151 := by
  have h1 := h.body
  have h2 := elm_hi 48 (elm 6 (oidB a.ty) ++ elm a.mark a.tx)
  unfold atrB
  omega
theorem MayA.el {a : Atr} (h : MayA T a) : IsEl (atrB a) := ⟨48, _, by decide, by have := h.body; omega, rfl⟩
theorem atrB_inj {a b : Atr} (ha : MayA T a) (hb : MayA T b) (h : atrB a = atrB b) : a = b := by
  obtain ⟨_, h1⟩ := elm_inj h (by have := ha.body; omega) (by have := hb.body; omega) (by decide) (by decide)
  have h1a := oidB_len ha.oid
  have h1b := oidB_len hb.oid
  have h2 := ha.hi
  have h3 := hb.hi
  obtain ⟨_, e1, e2⟩ := elm_cut h1 (by omega) (by omega) (by decide) (by decide)
  obtain ⟨e3, e4⟩ := elm_inj e2 (by omega) (by omega) ha.mkb hb.mkb
  have e5 := oid_inj ha.oid hb.oid e1
  cases a
  cases b
  simp_all
theorem flat_len {k : Nat} : ∀ {l : List (List (BitVec 8))}, (∀ z ∈ l, z.length ≤ k) → l.flatten.length ≤ l.length * k
  | [], _ => by simp
  | z :: l, h => by
    have h1 := h z (by simp)
    have h2 := flat_len (k := k) (l := l) (fun y hy => h y (by simp [hy]))
    rw [List.flatten_cons, List.length_append, List.length_cons, Nat.succ_mul]
    omega
theorem MayS.body {s : List Atr} (h : MayS T s) : (s.map atrB).flatten.length ≤ 604 := by
  have h1 := flat_len (k := 151) (l := s.map atrB) (fun z hz => by
    obtain ⟨a, ha, rfl⟩ := List.mem_map.1 hz
    exact (h.all a ha).len)
  rw [List.length_map] at h1
  have h2 := h.hi
  have h3 : s.length * 151 ≤ 4 * 151 := Nat.mul_le_mul_right _ h2
  omega
theorem MayS.len {s : List Atr} (h : MayS T s) : (stpB s).length ≤ 608 := by
  have h1 := h.body
  have h2 := elm_hi 49 (s.map atrB).flatten
  unfold stpB
  omega
theorem MayS.el {s : List Atr} (h : MayS T s) : IsEl (stpB s) := ⟨49, _, by decide, by have := h.body; omega, rfl⟩
theorem MayN.body {n : List (List Atr)} (h : MayN T n) : (n.map stpB).flatten.length ≤ 4864 := by
  have h1 := flat_len (k := 608) (l := n.map stpB) (fun z hz => by
    obtain ⟨a, ha, rfl⟩ := List.mem_map.1 hz
    exact (h.all a ha).len)
  rw [List.length_map] at h1
  have h2 := h.hi
  have h3 : n.length * 608 ≤ 8 * 608 := Nat.mul_le_mul_right _ h2
  omega
theorem MayN.len {n : List (List Atr)} (h : MayN T n) : (namB n).length ≤ 4868 := by
  have h1 := h.body
  have h2 := elm_hi 48 (n.map stpB).flatten
  unfold namB
  omega
theorem map_inj_on {α β : Type} {f : α → β} {P : α → Prop} (hf : ∀ a b, P a → P b → f a = f b → a = b) : ∀ {l k : List α}, (∀ a ∈ l, P a) → (∀ a ∈ k, P a) → l.map f = k.map f → l = k
  | [], [], _, _, _ => rfl
  | [], b :: k, _, _, h => by simp at h
  | a :: l, [], _, _, h => by simp at h
  | a :: l, b :: k, hl, hk, h => by
    rw [List.map_cons, List.map_cons] at h
    injection h with h1 h2
    rw [hf a b (hl a (by simp)) (hk b (by simp)) h1, map_inj_on hf (fun x hx => hl x (by simp [hx])) (fun x hx => hk x (by simp [hx])) h2]
theorem stpB_inj {s t : List Atr} (hs : MayS T s) (ht : MayS T t) (h : stpB s = stpB t) : s = t := by
  obtain ⟨_, h1⟩ := elm_inj h (by have := hs.body; omega) (by have := ht.body; omega) (by decide) (by decide)
  have h2 := flat_inj (fun z hz => by obtain ⟨a, ha, rfl⟩ := List.mem_map.1 hz; exact (hs.all a ha).el) (fun z hz => by obtain ⟨a, ha, rfl⟩ := List.mem_map.1 hz; exact (ht.all a ha).el) h1
  exact map_inj_on (P := MayA T) (fun a b ha hb e => atrB_inj ha hb e) hs.all ht.all h2
/-- unlike names have unlike bytes -/
theorem namB_inj {n m : List (List Atr)} (hn : MayN T n) (hm : MayN T m) (h : namB n = namB m) : n = m := by
  obtain ⟨_, h1⟩ := elm_inj h (by have := hn.body; omega) (by have := hm.body; omega) (by decide) (by decide)
  have h2 := flat_inj (fun z hz => by obtain ⟨a, ha, rfl⟩ := List.mem_map.1 hz; exact (hn.all a ha).el) (fun z hz => by obtain ⟨a, ha, rfl⟩ := List.mem_map.1 hz; exact (hm.all a ha).el) h1
  exact map_inj_on (P := MayS T) (fun a b ha hb e => stpB_inj ha hb e) hn.all hm.all h2
/-- with a byte more they are none's -/
theorem namB_more {n m : List (List Atr)} (hn : MayN T n) (hm : MayN T m) (x : BitVec 8) : namB n ++ [x] ≠ namB m := fun h => by
  have h1 : namB n ++ [x] = namB m ++ [] := by rw [h, List.append_nil]
  obtain ⟨_, _, h2⟩ := elm_cut h1 (by have := hn.body; omega) (by have := hm.body; omega) (by decide) (by decide)
  simp at h2
end
end Go.Proofs.YtkdjhklnlnfhfaaGreatDoor
namespace Go.Proofs.YtkdjhklnlnfhfaaGreatDoor
open Go
set_option maxRecDepth 4000

/-- how long an element's mark and length are, by its second byte -/
def szO (b : List (BitVec 8)) : Nat := if 3 < b.length ∧ gb b 1 = 130 then 4 else if 2 < b.length ∧ gb b 1 = 129 then 3 else 2
/-- what the first element's head and body are long -/
def fstL (b : List (BitVec 8)) : Option (Nat × Nat) :=
  if 2 ≤ b.length ∧ mkB (gb b 0) = true ∧ hdn (lnOf b) = szO b ∧ hdr (gb b 0) (lnOf b) = b.take (szO b) ∧ lnOf b + szO b ≤ b.length then some (szO b, lnOf b) else none
theorem fst_el {b : List (BitVec 8)} {s n : Nat} (h : fstL b = some (s, n)) : El b (gb b 0) ((b.drop s).take n) (b.drop (s + n)) ∧ s = hdn n ∧ ((b.drop s).take n).length = n := by
  unfold fstL at h
  split at h
  · rename_i hc
    obtain ⟨h1, h2, h3, h4, h5⟩ := hc
    injection h with h
    injection h with e1 e2
    subst e1 e2
    have he := el_of h2 (lnOf_hi b) (by rw [h3]; exact h4.symm) (by omega)
    rw [h3] at he
    exact ⟨he, h3.symm, by rw [List.length_take, List.length_drop]; omega⟩
  · cases h
theorem sz_el {b x r : List (BitVec 8)} {m : BitVec 8} (h : El b m x r) : szO b = hdn x.length := by
  obtain ⟨_, h2, rfl⟩ := h
  unfold elm hdr hdn szO
  by_cases h3 : x.length < 128
  · rw [if_pos h3, if_pos h3]
    have e1 : gb ([m, BitVec.ofNat 8 x.length] ++ x ++ r) 1 = BitVec.ofNat 8 x.length := rfl
    have e2 : BitVec.ofNat 8 x.length ≠ 130 := fun e => by have := congrArg BitVec.toNat e; simp at this; omega
    have e3 : BitVec.ofNat 8 x.length ≠ 129 := fun e => by have := congrArg BitVec.toNat e; simp at this; omega
    rw [e1, if_neg (fun h => e2 h.2), if_neg (fun h => e3 h.2)]
  · rw [if_neg h3, if_neg h3]
    by_cases h4 : x.length < 256
    · rw [if_pos h4, if_pos h4]
      have e1 : gb ([m, 129, BitVec.ofNat 8 x.length] ++ x ++ r) 1 = 129 := rfl
      rw [e1, if_neg (fun h => absurd h.2 (by decide)), if_pos ⟨by simp, rfl⟩]
    · rw [if_neg h4, if_neg h4]
      have e1 : gb ([m, 130, BitVec.ofNat 8 (x.length / 256), BitVec.ofNat 8 (x.length % 256)] ++ x ++ r) 1 = 130 := rfl
      rw [e1, if_pos ⟨by simp, rfl⟩]
theorem el_fst {b x r : List (BitVec 8)} {m : BitVec 8} (h : El b m x r) : fstL b = some (hdn x.length, x.length) := by
  have h1 := lnOf_el h
  have h2 := sz_el h
  obtain ⟨e1, e2, e3, _, _, _⟩ := el_parts h
  have h3 := hdn_lo x.length
  unfold fstL
  rw [h1, h2, if_pos ⟨by omega, by rw [e1]; exact h.1, rfl, by rw [e1, e2], by omega⟩]
theorem fst_lo {b : List (BitVec 8)} {s n : Nat} (h : fstL b = some (s, n)) : 2 ≤ s ∧ s + n ≤ b.length := by
  obtain ⟨he, hs, hl⟩ := fst_el h
  have h1 := (el_parts he).2.2.1
  have h2 := hdn_lo n
  rw [hl] at h1
  omega
/-- the elements that bytes are -/
def prtF : Nat → List (BitVec 8) → Option (List (List (BitVec 8)))
  | 0, b => if b = [] then some [] else none
  | k + 1, b => if b = [] then some [] else match fstL b with
    | none => none
    | some (s, n) => (prtF k (b.drop (s + n))).map fun l => b.take (s + n) :: l
def prtL (b : List (BitVec 8)) : Option (List (List (BitVec 8))) := prtF b.length b
theorem prtF_of : ∀ (k : Nat) (l : List (List (BitVec 8))), (∀ z ∈ l, IsEl z) → l.flatten.length ≤ k → prtF k l.flatten = some l
  | 0, [], _, _ => by simp [prtF]
  | 0, z :: l, h, hk => by
    have := (h z (by simp)).ne
    rw [List.flatten_cons, List.length_append] at hk
    have h2 : z = [] := List.eq_nil_of_length_eq_zero (by omega)
    exact absurd h2 this
  | k + 1, [], _, _ => by simp [prtF]
  | k + 1, z :: l, h, hk => by
    obtain ⟨m, x, hm, hx, rfl⟩ := h z (by simp)
    have he : El ((elm m x :: l).flatten) m x l.flatten := ⟨hm, hx, by rw [List.flatten_cons]⟩
    obtain ⟨_, _, _, e4, _, e6⟩ := el_parts he
    have hne : (elm m x :: l).flatten ≠ [] := fun e => by
      rw [List.flatten_cons] at e
      exact (IsEl.ne ⟨m, x, hm, hx, rfl⟩) (List.append_eq_nil_iff.1 e).1
    unfold prtF
    rw [if_neg hne, el_fst he]
    simp only [e4, e6]
    rw [prtF_of k l (fun z hz => h z (by simp [hz])) (by
      rw [List.flatten_cons, List.length_append, elm_len] at hk
      have := hdn_lo x.length
      omega)]
    rfl
theorem prtF_is : ∀ (k : Nat) (b : List (BitVec 8)) (l : List (List (BitVec 8))), prtF k b = some l → l.flatten = b ∧ ∀ z ∈ l, IsEl z
  | 0, b, l, h => by
    unfold prtF at h
    split at h
    · rename_i hb
      injection h with h
      subst h hb
      exact ⟨rfl, fun z hz => by cases hz⟩
    · cases h
  | k + 1, b, l, h => by
    unfold prtF at h
    split at h
    · rename_i hb
      injection h with h
      subst h hb
      exact ⟨rfl, fun z hz => by cases hz⟩
    · cases hf : fstL b with
      | none => rw [hf] at h; cases h
      | some p =>
        obtain ⟨s, n⟩ := p
        rw [hf] at h
        simp only [Option.map_eq_some_iff] at h
        obtain ⟨l', h1, rfl⟩ := h
        obtain ⟨e1, e2⟩ := prtF_is k _ l' h1
        obtain ⟨he, hs, hl⟩ := fst_el hf
        have h4 := (el_parts he).2.2.2.1
        rw [hl, ← hs] at h4
        refine ⟨by rw [List.flatten_cons, e1, List.take_append_drop], fun z hz => ?_⟩
        rcases List.mem_cons.1 hz with rfl | hz
        · exact ⟨_, _, he.1, he.2.1, h4⟩
        · exact e2 z hz
theorem prt_iff {b : List (BitVec 8)} {l : List (List (BitVec 8))} : prtL b = some l ↔ l.flatten = b ∧ ∀ z ∈ l, IsEl z := by
  constructor
  · exact prtF_is _ _ _
  · rintro ⟨rfl, h⟩
    exact prtF_of _ l h (Nat.le_refl _)
/-- an element's body -/
def bodL (b : List (BitVec 8)) (m : BitVec 8) : Option (List (BitVec 8)) := match fstL b with
  | none => none
  | some (s, n) => if gb b 0 = m ∧ s + n = b.length then some (b.drop s) else none
theorem bod_iff {b x : List (BitVec 8)} {m : BitVec 8} : bodL b m = some x ↔ mkB m = true ∧ x.length ≤ 65535 ∧ b = elm m x := by
  constructor
  · intro h
    unfold bodL at h
    cases hf : fstL b with
    | none => rw [hf] at h; cases h
    | some p =>
      obtain ⟨s, n⟩ := p
      rw [hf] at h
      simp only at h
      split at h
      · rename_i hc
        injection h with h
        obtain ⟨he, hs, hl⟩ := fst_el hf
        obtain ⟨_, _, _, h4, _, _⟩ := el_parts he
        rw [hl, ← hs] at h4
        have e1 : b.drop s = (b.drop s).take n := by
          rw [List.take_of_length_le]
          rw [List.length_drop]
          omega
        have e2 : b.take (s + n) = b := List.take_of_length_le (by omega)
        rw [e2, hc.1] at h4
        rw [hc.1] at he
        rw [← h, e1]
        exact ⟨he.1, he.2.1, h4⟩
      · cases h
  · rintro ⟨hm, hx, rfl⟩
    have he : El (elm m x) m x [] := ⟨hm, hx, by rw [List.append_nil]⟩
    obtain ⟨e1, _, _, _, _, _⟩ := el_parts he
    unfold bodL
    rw [el_fst he]
    simp only
    have e4 : hdn x.length + x.length = (elm m x).length := by rw [elm_len]
    rw [if_pos ⟨e1, e4⟩]
    have e6 : (elm m x).drop (hdn x.length) = x := by
      unfold elm
      rw [List.drop_left' (hdr_len _ _)]
    rw [e6]
end Go.Proofs.YtkdjhklnlnfhfaaGreatDoor
namespace Go.Proofs.YtkdjhklnlnfhfaaGreatDoor
open Go
set_option maxRecDepth 4000

section
variable {T : BitVec 8 → List (BitVec 8) → Bool}
theorem nam_body {n : List (List Atr)} (h : MayN T n) : bodL (namB n) 48 = some (n.map stpB).flatten := bod_iff.2 ⟨by decide, by have := h.body; omega, rfl⟩
theorem nam_parts {n : List (List Atr)} (h : MayN T n) : prtL (n.map stpB).flatten = some (n.map stpB) := prt_iff.2 ⟨rfl, fun z hz => by obtain ⟨a, ha, rfl⟩ := List.mem_map.1 hz; exact (h.all a ha).el⟩
theorem stp_body {s : List Atr} (h : MayS T s) : bodL (stpB s) 49 = some (s.map atrB).flatten := bod_iff.2 ⟨by decide, by have := h.body; omega, rfl⟩
theorem stp_parts {s : List Atr} (h : MayS T s) : prtL (s.map atrB).flatten = some (s.map atrB) := prt_iff.2 ⟨rfl, fun z hz => by obtain ⟨a, ha, rfl⟩ := List.mem_map.1 hz; exact (h.all a ha).el⟩
theorem atr_body {a : Atr} (h : MayA T a) : bodL (atrB a) 48 = some (elm 6 (oidB a.ty) ++ elm a.mark a.tx) := bod_iff.2 ⟨by decide, by have := h.body; omega, rfl⟩
theorem atr_parts {a : Atr} (h : MayA T a) : prtL (elm 6 (oidB a.ty) ++ elm a.mark a.tx) = some [elm 6 (oidB a.ty), elm a.mark a.tx] := by
  refine prt_iff.2 ⟨by simp, fun z hz => ?_⟩
  have h1 := oidB_len h.oid
  have h2 := h.hi
  rcases List.mem_cons.1 hz with rfl | hz
  · exact ⟨6, _, by decide, by omega, rfl⟩
  · rcases List.mem_cons.1 hz with rfl | hz
    · exact ⟨a.mark, _, h.mkb, by omega, rfl⟩
    · cases hz
theorem atr_oid {a : Atr} (h : MayA T a) : bodL (elm 6 (oidB a.ty)) 6 = some (oidB a.ty) := bod_iff.2 ⟨by decide, by have := oidB_len h.oid; omega, rfl⟩
theorem atr_text {a : Atr} (h : MayA T a) : bodL (elm a.mark a.tx) (gb (elm a.mark a.tx) 0) = some a.tx := by
  have e : gb (elm a.mark a.tx) 0 = a.mark := by unfold elm; exact hdr_gb0 _ _ _
  rw [e]
  exact bod_iff.2 ⟨h.mkb, by have := h.hi; omega, rfl⟩
theorem elm_mark (m : BitVec 8) (x : List (BitVec 8)) : gb (elm m x) 0 = m := by unfold elm; exact hdr_gb0 _ _ _
theorem elm_pos (m : BitVec 8) (x : List (BitVec 8)) : 2 ≤ (elm m x).length := by
  rw [elm_len]
  have := hdn_lo x.length
  omega
/-- rising, step by step: each one is above the one ahead of it -/
theorem rise_iff {l : List (List (BitVec 8))} : l.Pairwise Lt8 ↔ ∀ k x y, l[k]? = some x → l[k + 1]? = some y → Lt8 x y := by
  induction l with
  | nil => simp
  | cons a l ih =>
    constructor
    · intro h k x y hx hy
      rw [List.pairwise_cons] at h
      cases k with
      | zero =>
        simp at hx
        subst hx
        exact h.1 y (List.mem_of_getElem? (by simpa using hy))
      | succ k => exact ih.1 h.2 k x y (by simpa using hx) (by simpa using hy)
    · intro h
      have h2 := ih.2 fun k x y hx hy => h (k + 1) x y (by simpa using hx) (by simpa using hy)
      rw [List.pairwise_cons]
      refine ⟨?_, h2⟩
      cases l with
      | nil => intro y hy; cases hy
      | cons b l =>
        have h0 : Lt8 a b := h 0 a b rfl rfl
        intro y hy
        rcases List.mem_cons.1 hy with rfl | hy
        · exact h0
        · rw [List.pairwise_cons] at h2
          exact List.lt_trans h0 (h2.1 y hy)
end
end Go.Proofs.YtkdjhklnlnfhfaaGreatDoor
namespace Go.Proofs.YtkdjhklnlnfhfaaGreatDoor
open Go
set_option maxRecDepth 4000

/-- what a certificate says -/
structure Crt where
  ser : Nat
  iss : List (List Atr)
  sub : List (List Atr)
  fr : Tmt
  til : Tmt
  kn : Nat
  ke : Nat
  auth : Bool
  dep : Int
  uses : Int
  perm : List (List (List Atr))
  excl : List (List (List Atr))
  pols : List (List Nat)
def oidE (l : List Nat) : List (BitVec 8) := elm 6 (oidB l)
/-- a whole of an identifier, and a part of no bytes -/
def kndE (l : List Nat) : List (BitVec 8) := elm 48 (oidE l ++ elm 5 [])
def sgnO : List Nat := [1, 2, 840, 113549, 1, 1, 11]
def keyO : List Nat := [1, 2, 840, 113549, 1, 1, 1]
def sgnE : List (BitVec 8) := kndE sgnO
def momE (t : Tmt) : List (BitVec 8) := elm (tmM t) (tmB t)
def valE (a b : Tmt) : List (BitVec 8) := elm 48 (momE a ++ momE b)
/-- how many bits there are, the lowest first; eight of them in a byte, the first one highest -/
def useN (u : Nat) : Nat := if u = 0 then 0 else Nat.log2 u + 1
def rv8 (x : Nat) : Nat := x % 2 * 128 + x / 2 % 2 * 64 + x / 4 % 2 * 32 + x / 8 % 2 * 16 + x / 16 % 2 * 8 + x / 32 % 2 * 4 + x / 64 % 2 * 2 + x / 128 % 2
def useB (u : Nat) : List (BitVec 8) := if u = 0 then [0] else if u < 256 then [BitVec.ofNat 8 (8 - useN u), BitVec.ofNat 8 (rv8 u)] else [7, BitVec.ofNat 8 (rv8 u), 128]
/-- an extension: its identifier's last number, whether it is grave, what it says -/
def extO (k : Nat) : List Nat := [2, 5, 29, k]
def grvB (g : Bool) : List (BitVec 8) := if g then [1, 1, 255] else []
def extE (p : Nat × Bool × List (BitVec 8)) : List (BitVec 8) := elm 48 (oidE (extO p.1) ++ (grvB p.2.1 ++ elm 4 p.2.2))
def autI (d : Int) : List (BitVec 8) := [1, 1, 255] ++ (if 0 ≤ d then [2, 1, BitVec.ofNat 8 d.toNat] else [])
def autS (d : Int) : List (BitVec 8) := elm 48 (autI d)
def subE (n : List (List Atr)) : List (BitVec 8) := elm 48 (elm 164 (namB n))
def treE (m : BitVec 8) (l : List (List (List Atr))) : List (BitVec 8) := if l = [] then [] else elm m (l.map subE).flatten
def namS (a b : List (List (List Atr))) : List (BitVec 8) := elm 48 (treE 160 a ++ treE 161 b)
def polE (p : List Nat) : List (BitVec 8) := elm 48 (oidE p)
def polS (l : List (List Nat)) : List (BitVec 8) := elm 48 (l.map polE).flatten
def exts (c : Crt) : List (Nat × Bool × List (BitVec 8)) :=
  (if c.auth = true then [(19, true, autS c.dep)] else []) ++ ((if c.uses = 0 then [] else [(15, true, elm 3 (useB c.uses.toNat))]) ++
  ((if c.perm = [] ∧ c.excl = [] then [] else [(30, true, namS c.perm c.excl)]) ++ (if c.pols = [] then [] else [(32, false, polS c.pols)])))
def extI (c : Crt) : List (BitVec 8) := ((exts c).map extE).flatten
def extL (c : Crt) : List (BitVec 8) := if exts c = [] then [] else elm 163 (elm 48 (extI c))
section
variable (G : Nat → List (BitVec 8))
def bigE (v : Nat) : List (BitVec 8) := elm 2 (G v)
def keyI (n e : Nat) : List (BitVec 8) := elm 48 (bigE G n ++ bigE G e)
def keyE (n e : Nat) : List (BitVec 8) := elm 48 (kndE keyO ++ elm 3 (0 :: keyI G n e))
def bodI (c : Crt) : List (BitVec 8) := elm 160 [2, 1, 2] ++ (bigE G c.ser ++ (sgnE ++ (namB c.iss ++ (valE c.fr c.til ++ (namB c.sub ++ (keyE G c.kn c.ke ++ extL c))))))
def bodC (c : Crt) : List (BitVec 8) := elm 48 (bodI G c)
variable (T : BitVec 8 → List (BitVec 8) → Bool) (PK : Nat → Nat → Prop)
/-- may names be a say's? -/
structure MayNs (l : List (List (List Atr))) : Prop where
  hi : l.length ≤ 4
  all : ∀ n ∈ l, MayN T n
structure MayO (l : List (List Nat)) : Prop where
  hi : l.length ≤ 4
  all : ∀ p ∈ l, OidP p
  nd : l.Nodup
/-- may a say be? -/
structure MayC (c : Crt) : Prop where
  s1 : 1 ≤ c.ser
  s2 : (G c.ser).length ≤ 20
  i0 : c.iss ≠ []
  iss : MayN T c.iss
  sub : MayN T c.sub
  fr : MayT c.fr
  til : MayT c.til
  le : cntT c.fr ≤ cntT c.til
  key : PK c.kn c.ke
  d1 : -1 ≤ c.dep
  d2 : c.dep ≤ 8
  da : c.auth = false → c.dep = -1
  u1 : 0 ≤ c.uses
  u2 : c.uses ≤ 511
  perm : MayNs T c.perm
  excl : MayNs T c.excl
  pols : MayO c.pols
end
/-- what is asked of numbers' bodies -/
structure BigG (G : Nat → List (BitVec 8)) (PK : Nat → Nat → Prop) : Prop where
  inj : ∀ a b, G a = G b → a = b
  n : ∀ n e, PK n e → (G n).length ≤ 129
  e : ∀ n e, PK n e → (G e).length ≤ 129
section
variable {G : Nat → List (BitVec 8)} {T : BitVec 8 → List (BitVec 8) → Bool} {PK : Nat → Nat → Prop}
theorem oidE_len {l : List Nat} (h : OidP l) : (oidE l).length ≤ 79 := by
  have h1 := oidB_len h
  have h2 := elm_hi 6 (oidB l)
  unfold oidE
  omega
theorem sgnO_ok : OidP sgnO := ⟨1, 2, [840, 113549, 1, 1, 11], rfl, by decide, by decide, by decide, by decide, by decide⟩
theorem keyO_ok : OidP keyO := ⟨1, 2, [840, 113549, 1, 1, 1], rfl, by decide, by decide, by decide, by decide, by decide⟩
theorem extO_ok {k : Nat} (h : k < 4294967296) : OidP (extO k) := ⟨2, 5, [29, k], rfl, by simp [extO], by decide, by decide, by decide, fun n hn => by
  rcases List.mem_cons.1 hn with e | e
  · subst e; decide
  · rw [List.mem_singleton.1 e]; exact h⟩
theorem kndI_len {l : List Nat} (h : OidP l) : (oidE l ++ elm 5 []).length ≤ 81 := by
  have h1 := oidE_len h
  rw [List.length_append, show (elm 5 []).length = 2 from rfl]
  omega
theorem kndE_len {l : List Nat} (h : OidP l) : (kndE l).length ≤ 85 := by
  have h1 := kndI_len h
  have h2 := elm_hi 48 (oidE l ++ elm 5 [])
  unfold kndE
  omega
theorem momE_len (t : Tmt) : (momE t).length ≤ 19 := by
  have h1 := tmB_len t
  have h2 := elm_hi (tmM t) (tmB t)
  unfold momE
  split at h1 <;> omega
theorem valI_len (a b : Tmt) : (momE a ++ momE b).length ≤ 38 := by
  have h1 := momE_len a
  have h2 := momE_len b
  rw [List.length_append]
  omega
theorem valE_len (a b : Tmt) : (valE a b).length ≤ 42 := by
  have h1 := valI_len a b
  have h2 := elm_hi 48 (momE a ++ momE b)
  unfold valE
  omega
theorem useB_len (u : Nat) : (useB u).length ≤ 3 := by unfold useB; split; decide; split <;> simp
theorem autI_len (d : Int) : (autI d).length ≤ 6 := by unfold autI; split <;> simp
theorem autS_len (d : Int) : (autS d).length ≤ 10 := by
  have h1 := autI_len d
  have h2 := elm_hi 48 (autI d)
  unfold autS
  omega
theorem subI_len {n : List (List Atr)} (h : MayN T n) : (elm 164 (namB n)).length ≤ 4872 := by
  have h1 := h.len
  have h2 := elm_hi 164 (namB n)
  omega
theorem subE_len {n : List (List Atr)} (h : MayN T n) : (subE n).length ≤ 4876 := by
  have h1 := subI_len h
  have h2 := elm_hi 48 (elm 164 (namB n))
  unfold subE
  omega
theorem treI_len {l : List (List (List Atr))} (h : MayNs T l) : (l.map subE).flatten.length ≤ 19504 := by
  have h1 := flat_len (k := 4876) (l := l.map subE) (fun z hz => by
    obtain ⟨a, ha, rfl⟩ := List.mem_map.1 hz
    exact subE_len (h.all a ha))
  rw [List.length_map] at h1
  have h2 := h.hi
  have h3 : l.length * 4876 ≤ 4 * 4876 := Nat.mul_le_mul_right _ h2
  omega
theorem treE_len {l : List (List (List Atr))} (h : MayNs T l) (m : BitVec 8) : (treE m l).length ≤ 19508 := by
  have h1 := treI_len h
  have h2 := elm_hi m (l.map subE).flatten
  unfold treE
  split
  · simp
  · omega
theorem namI_len {a b : List (List (List Atr))} (ha : MayNs T a) (hb : MayNs T b) : (treE 160 a ++ treE 161 b).length ≤ 39016 := by
  have h1 := treE_len ha 160
  have h2 := treE_len hb 161
  rw [List.length_append]
  omega
theorem namS_len {a b : List (List (List Atr))} (ha : MayNs T a) (hb : MayNs T b) : (namS a b).length ≤ 39020 := by
  have h1 := namI_len ha hb
  have h2 := elm_hi 48 (treE 160 a ++ treE 161 b)
  unfold namS
  omega
theorem polE_len {p : List Nat} (h : OidP p) : (polE p).length ≤ 83 := by
  have h1 := oidE_len h
  have h2 := elm_hi 48 (oidE p)
  unfold polE
  omega
theorem polI_len {l : List (List Nat)} (h : MayO l) : (l.map polE).flatten.length ≤ 332 := by
  have h1 := flat_len (k := 83) (l := l.map polE) (fun z hz => by
    obtain ⟨a, ha, rfl⟩ := List.mem_map.1 hz
    exact polE_len (h.all a ha))
  rw [List.length_map] at h1
  have h2 := h.hi
  have h3 : l.length * 83 ≤ 4 * 83 := Nat.mul_le_mul_right _ h2
  omega
theorem polS_len {l : List (List Nat)} (h : MayO l) : (polS l).length ≤ 336 := by
  have h1 := polI_len h
  have h2 := elm_hi 48 (l.map polE).flatten
  unfold polS
  omega
/-- an extension that may stand there -/
structure ExtW (p : Nat × Bool × List (BitVec 8)) : Prop where
  k : p.1 < 4294967296
  hi : p.2.2.length ≤ 65000
theorem extE_in {p : Nat × Bool × List (BitVec 8)} (h : p.1 < 4294967296) : (oidE (extO p.1) ++ (grvB p.2.1 ++ elm 4 p.2.2)).length ≤ p.2.2.length + 86 := by
  have h1 := oidE_len (extO_ok h)
  have h2 := elm_hi 4 p.2.2
  have h3 : (grvB p.2.1).length ≤ 3 := by unfold grvB; split <;> simp
  rw [List.length_append, List.length_append]
  omega
theorem extE_len {p : Nat × Bool × List (BitVec 8)} (h : p.1 < 4294967296) : (extE p).length ≤ p.2.2.length + 90 := by
  have h1 := extE_in h
  have h2 := elm_hi 48 (oidE (extO p.1) ++ (grvB p.2.1 ++ elm 4 p.2.2))
  unfold extE
  omega
theorem ExtW.el {p : Nat × Bool × List (BitVec 8)} (h : ExtW p) : IsEl (extE p) := ⟨48, _, by decide, by have := extE_in h.k; have := h.hi; omega, rfl⟩
theorem useS_len (u : Nat) : (elm 3 (useB u)).length ≤ 7 := by
  have h1 := useB_len u
  have h2 := elm_hi 3 (useB u)
  omega
theorem exts_w {c : Crt} (h : MayC G T PK c) : ∀ p ∈ exts c, ExtW p := by
  have e1 := autS_len c.dep
  have e2 := useS_len c.uses.toNat
  have e3 := namS_len h.perm h.excl
  have e4 := polS_len h.pols
  intro p hp
  unfold exts at hp
  rcases List.mem_append.1 hp with hp | hp
  · split at hp
    · rw [List.mem_singleton.1 hp]; exact ⟨by simp, by show (autS c.dep).length ≤ _; omega⟩
    · cases hp
  rcases List.mem_append.1 hp with hp | hp
  · split at hp
    · cases hp
    · rw [List.mem_singleton.1 hp]; exact ⟨by simp, by show (elm 3 (useB c.uses.toNat)).length ≤ _; omega⟩
  rcases List.mem_append.1 hp with hp | hp
  · split at hp
    · cases hp
    · rw [List.mem_singleton.1 hp]; exact ⟨by simp, by show (namS c.perm c.excl).length ≤ _; omega⟩
  · split at hp
    · cases hp
    · rw [List.mem_singleton.1 hp]; exact ⟨by simp, by show (polS c.pols).length ≤ _; omega⟩
theorem opt_len {P : Prop} [Decidable P] {p : Nat × Bool × List (BitVec 8)} {n : Nat} (h : (extE p).length ≤ n) : ((if P then [p] else []).map extE).flatten.length ≤ n ∧ ((if P then [] else [p]).map extE).flatten.length ≤ n := by
  by_cases hP : P
  · rw [if_pos hP, if_pos hP]; exact ⟨by simpa using h, Nat.zero_le _⟩
  · rw [if_neg hP, if_neg hP]; exact ⟨Nat.zero_le _, by simpa using h⟩
theorem extI_len {c : Crt} (h : MayC G T PK c) : (extI c).length ≤ 39733 := by
  have e1 := autS_len c.dep
  have e2 := useS_len c.uses.toNat
  have e3 := namS_len h.perm h.excl
  have e4 := polS_len h.pols
  have f1 := extE_len (p := (19, true, autS c.dep)) (by simp)
  have f2 := extE_len (p := (15, true, elm 3 (useB c.uses.toNat))) (by simp)
  have f3 := extE_len (p := (30, true, namS c.perm c.excl)) (by simp)
  have f4 := extE_len (p := (32, false, polS c.pols)) (by simp)
  simp only at f1 f2 f3 f4
  have g1 := (opt_len (P := c.auth = true) f1).1
  have g2 := (opt_len (P := c.uses = 0) f2).2
  have g3 := (opt_len (P := c.perm = [] ∧ c.excl = []) f3).2
  have g4 := (opt_len (P := c.pols = []) f4).2
  unfold extI exts
  rw [List.map_append, List.flatten_append, List.length_append, List.map_append, List.flatten_append, List.length_append, List.map_append, List.flatten_append, List.length_append]
  omega
theorem extW_len {c : Crt} (h : MayC G T PK c) : (elm 48 (extI c)).length ≤ 39737 := by
  have h1 := extI_len h
  have h2 := elm_hi 48 (extI c)
  omega
theorem extL_len {c : Crt} (h : MayC G T PK c) : (extL c).length ≤ 39741 := by
  have h1 := extW_len h
  have h2 := elm_hi 163 (elm 48 (extI c))
  unfold extL
  split
  · simp
  · omega
theorem keyJ_len {n e : Nat} (hG : BigG G PK) (h : PK n e) : (bigE G n ++ bigE G e).length ≤ 266 := by
  have h1 := hG.n n e h
  have h2 := hG.e n e h
  have h3 := elm_hi 2 (G n)
  have h4 := elm_hi 2 (G e)
  unfold bigE
  rw [List.length_append]
  omega
theorem keyI_len {n e : Nat} (hG : BigG G PK) (h : PK n e) : (keyI G n e).length ≤ 270 := by
  have h1 := keyJ_len hG h
  have h2 := elm_hi 48 (bigE G n ++ bigE G e)
  unfold keyI
  omega
theorem keyW_len {n e : Nat} (hG : BigG G PK) (h : PK n e) : (kndE keyO ++ elm 3 (0 :: keyI G n e)).length ≤ 360 := by
  have h1 := keyI_len hG h
  have h2 := kndE_len keyO_ok
  have h3 := elm_hi 3 (0 :: keyI G n e)
  rw [List.length_cons] at h3
  rw [List.length_append]
  omega
theorem keyE_len {n e : Nat} (hG : BigG G PK) (h : PK n e) : (keyE G n e).length ≤ 364 := by
  have h1 := keyW_len hG h
  have h2 := elm_hi 48 (kndE keyO ++ elm 3 (0 :: keyI G n e))
  unfold keyE
  omega
theorem bodI_len {c : Crt} (hG : BigG G PK) (h : MayC G T PK c) : (bodI G c).length ≤ 50000 := by
  have h1 := elm_hi 160 [2, 1, 2]
  have h2 := elm_hi 2 (G c.ser)
  have h3 := h.s2
  have h4 := kndE_len sgnO_ok
  have h5 := h.iss.len
  have h6 := h.sub.len
  have h7 := valE_len c.fr c.til
  have h8 := keyE_len hG h.key
  have h9 := extL_len h
  have h10 : ([2, 1, 2] : List (BitVec 8)).length = 3 := rfl
  unfold bodI bigE sgnE
  simp only [List.length_append]
  omega
end
end Go.Proofs.YtkdjhklnlnfhfaaGreatDoor
