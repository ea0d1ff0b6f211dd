/-
  What the reference's Read reads, step by step; bytes within bytes. Plain.
-/
import Derived.Test.YthookcnkmlmgcaaGreatDoorVXh
import Derived.Test.YthookcnkmlmgcaaGreatDoorVXg
import Derived.Test.YthookcnkmlmgcaaGreatDoorVYu
import Derived.Test.YthookcnkmlmgcaaGreatDoorVIg
import Derived.Test.YthookcnkmlmgcaaGreatDoorVKl
import Derived.Test.YthookcnkmlmgcaaGreatDoorM16
namespace Go.Proofs.YthookcnkmlmgcaaGreatDoor
open Go Go.RowKit
set_option maxRecDepth 4000

theorem flat_mem : ∀ {l : List (List (BitVec 8))} {z : List (BitVec 8)}, z ∈ l → z.length ≤ l.flatten.length
  | x :: t, z, h => by
    rw [List.flatten_cons, List.length_append]
    rcases List.mem_cons.1 h with e | e
    · rw [e]; omega
    · have := flat_mem e; omega
theorem prt_mem {b z : List (BitVec 8)} {l : List (List (BitVec 8))} (h : prtL b = some l) (hz : z ∈ l) : z.length ≤ b.length ∧ z ≠ [] := by
  obtain ⟨h1, h2⟩ := prt_iff.1 h
  exact ⟨h1 ▸ flat_mem hz, (h2 z hz).ne⟩
theorem prt_len {b : List (BitVec 8)} {l : List (List (BitVec 8))} (h : prtL b = some l) : l.length ≤ b.length := by
  obtain ⟨h1, h2⟩ := prt_iff.1 h
  have := cut_len el_cut1 l h2
  rwa [List.map_id', h1] at this
theorem bod_len {b x : List (BitVec 8)} {m : BitVec 8} (h : bodL b m = some x) : x.length ≤ b.length := by
  obtain ⟨_, _, h3⟩ := bod_iff.1 h
  rw [h3, elm_len]
  omega
theorem prt_nil : prtL [] = some [] := prt_iff.2 ⟨rfl, fun z h => by cases h⟩
theorem Sub.trans {A B C : Option Addr} {n c m d k e : Nat} {x y z : List (BitVec 8)} (h : Sub A n c x B m d y) (h' : Sub B m d y C k e z) : Sub A n c x C k e z := fun W hW => h' W (h W hW)
/-- an identifier out of its body's bytes -/
noncomputable def rd9 (l : List (BitVec 8)) : Option (List Nat) := @ite _ (OidP (oidU (pmO l)) ∧ oidB (oidU (pmO l)) = l) (Classical.propDecidable _) (some (oidU (pmO l))) none
theorem rd9_yes {l : List (BitVec 8)} (h : OidP (oidU (pmO l))) (h2 : oidB (oidU (pmO l)) = l) : rd9 l = some (oidU (pmO l)) := by unfold rd9; exact @if_pos _ (Classical.propDecidable _) ⟨h, h2⟩ _ _ _
theorem rd9_no {l : List (BitVec 8)} (h : ¬ (OidP (oidU (pmO l)) ∧ oidB (oidU (pmO l)) = l)) : rd9 l = none := by unfold rd9; exact @if_neg _ (Classical.propDecidable _) h _ _ _
theorem rd9_back (l : List Nat) (h : OidP l) : rd9 (oidB l) = some l := by
  have e := pmO_back h
  rw [rd9_yes (by rw [e]; exact h) (by rw [e]), e]
section
variable {R : List (BitVec 8) → Option (List Nat)} {z i p q : List (BitVec 8)} {l : List (List (BitVec 8))}
theorem rdA_b (h : bodL z 48 = none) : rdA R z = none := by unfold rdA; rw [h]; rfl
theorem rdA_p (h : bodL z 48 = some i) (h2 : prtL i = none) : rdA R z = none := by
  unfold rdA
  rw [h]
  show (prtL i).bind (rdA2 R) = none
  rw [h2]; rfl
theorem rdA_2 (h : bodL z 48 = some i) (h2 : prtL i = some l) (h3 : l.length ≠ 2) : rdA R z = none := by
  unfold rdA
  rw [h]
  show (prtL i).bind (rdA2 R) = none
  rw [h2]
  show rdA2 R l = none
  unfold rdA2
  split
  · exact absurd rfl h3
  · rfl
theorem rdA_two (h : bodL z 48 = some i) (h2 : prtL i = some [p, q]) : rdA R z = (bodL p 6).bind fun o => (R o).bind fun t => (bodL q (gb q 0)).map fun x => (⟨t, gb q 0, x⟩ : Atr) := by
  unfold rdA
  rw [h]
  show (prtL i).bind (rdA2 R) = _
  rw [h2]; rfl
theorem rdS_b (h : bodL z 49 = none) : rdS R z = none := by unfold rdS; rw [h]; rfl
theorem rdS_p (h : bodL z 49 = some i) (h2 : prtL i = none) : rdS R z = none := by
  unfold rdS
  rw [h]
  show (prtL i).bind (rdAll (rdA R)) = none
  rw [h2]; rfl
theorem rdS_l (h : bodL z 49 = some i) (h2 : prtL i = some l) : rdS R z = rdAll (rdA R) l := by
  unfold rdS
  rw [h]
  show (prtL i).bind (rdAll (rdA R)) = _
  rw [h2]; rfl
theorem rdN_b (h : bodL z 48 = none) : rdN R z = none := by unfold rdN; rw [h]; rfl
theorem rdN_p (h : bodL z 48 = some i) (h2 : prtL i = none) : rdN R z = none := by
  unfold rdN
  rw [h]
  show (prtL i).bind (rdAll (rdS R)) = none
  rw [h2]; rfl
theorem rdN_l (h : bodL z 48 = some i) (h2 : prtL i = some l) : rdN R z = rdAll (rdS R) l := by
  unfold rdN
  rw [h]
  show (prtL i).bind (rdAll (rdS R)) = _
  rw [h2]; rfl
end
/-- no name has bytes that can't be read -/
theorem no_rd {b : List (BitVec 8)} (h : rdN rd9 b = none) : ¬ ∃ x, MayN textB x ∧ namB x = b := fun ⟨x, hx⟩ => rdN_none rd9_back h x hx
/-- .. nor do those that are read as one that may not be, or has other bytes -/
theorem no_rd2 {b : List (BitVec 8)} {y : List (List Atr)} (h : rdN rd9 b = some y) (hy : ¬ (MayN textB y ∧ namB y = b)) : ¬ ∃ x, MayN textB x ∧ namB x = b := fun ⟨x, hx⟩ => by
  have h2 := (rdN_iff rd9_back).1 hx
  rw [h] at h2
  obtain rfl := Option.some.inj h2.1
  exact hy hx
/-- what Parts tells of no bytes -/
theorem Parts_nil (w : World) : Calls Tryz.prog 16 #[.slice none 0 0] w fun e w' => ∃ (A : Option Addr) (c : Nat), e = .returned (.tuple #[.slice A 0 c, .bool true]) ∧ Ext w w' :=
  (Parts_any (Bs.nil w) (by omega)).mono fun e w' h => by
    obtain ⟨x, (⟨h1, _⟩ | ⟨vs, A, c, h1, h2, _⟩)⟩ := h
    · rw [prt_nil] at h1; cases h1
    · rw [prt_nil] at h1
      have e2 := Option.some.inj h1
      have : vs.length = 0 := by have := congrArg List.length e2; simpa using this.symm
      rw [this] at h2
      exact ⟨A, c, h2, x⟩
end Go.Proofs.YthookcnkmlmgcaaGreatDoor
