/-
  A range over a function: regions of a round walked by the plain words; what the caller holds abides the law's own blocks.
-/
import Derived.Test.YtfipgmjaabggjaaDoorM1
import Derived.Test.YtfipgmjaabggjaaDoorM4
import Derived.RangeFuncNested
import Derived.RangeFuncLeaves
import Derived.OwnWalkIn
import Derived.TacticsInMore
import Derived.LoopNIn
import Derived.LoopIn
namespace Go.Proofs.YtfipgmjaabggjaaDoor
open Go Go.RowKit
set_option maxRecDepth 4000

/-- an operation that is no defer statement -/
def calm (o : Oper) : Bool := match o.op with | .defer _ => false | _ => true
theorem calm_ne {o : Oper} (h : calm o = true) (c : Call) : o.op ≠ .defer c := fun e => by rw [calm, e] at h; cases h
section
variable {P : Program} {ops : Array Oper} {Q : Exit → Act → World → Prop} {md : Region.Mode} {l n : Nat}
theorem wpIn_of_wp {o : Oper} {a : Act} {w : World} {K : Act → World → Prop} (hd : calm o = true) (h : o.wp P a w K Q) : o.wpIn (Fence.wide.inRound l) n P a w K Q := by
  refine ⟨fun _ _ => trivial, ?_⟩
  rw [Oper.semAt_plain _ _ _ (calm_ne hd)]
  unfold Oper.wp at h
  generalize (execOp a.eval o).run P w = r at *
  cases r with
  | ok x w' =>
    cases x with
    | value v => exact h
    | skip => exact h
    | defer d => exact h
    | enter f args => exact ⟨fun e => (by cases e), CallsIn.inRound l (callsIn_wide.2 h)⟩
    | row row args => exact ⟨fun e => (by cases e), fun c cs _ => let ⟨v, w2, r, s⟩ := h c cs; ⟨v, w2, r, stepsIn_wide.2 s⟩⟩
    | _ => exact h.elim
  | halt x w' =>
    cases x with
    | panic v => exact h
    | _ => exact h.elim
theorem wpIn_of_wp0 {o : Oper} {a : Act} {w : World} {K : Act → World → Prop} (hd : calm o = true) (h : o.wp P a w K Q) : o.wpIn Fence.wide n P a w K Q := by
  refine ⟨fun _ _ => trivial, ?_⟩
  rw [Oper.semAt_plain _ _ _ (calm_ne hd)]
  unfold Oper.wp at h
  generalize (execOp a.eval o).run P w = r at *
  cases r with
  | ok x w' =>
    cases x with
    | value v => exact h
    | skip => exact h
    | defer d => exact h
    | enter f args => exact ⟨fun e => (by cases e), callsIn_wide.2 h⟩
    | row row args => exact ⟨fun e => (by cases e), fun c cs _ => let ⟨v, w2, r, s⟩ := h c cs; ⟨v, w2, r, stepsIn_wide.2 s⟩⟩
    | _ => exact h.elim
  | halt x w' =>
    cases x with
    | panic v => exact h
    | _ => exact h.elim
theorem wpListIn_of (hQ : ¬ LetsOut Q) : ∀ (L : List Oper) (a : Act) (w : World), L.all calm = true → wpList P ops Q L a w → wpListIn (Fence.wide.inRound l) n P ops Q L a w
  | [], _, _, _, h => h
  | o :: rest, a, w, hd, h => by
    rw [List.all_cons, Bool.and_eq_true] at hd
    unfold wpList at h
    unfold wpListIn
    split
    · rename_i hw
      rw [if_pos hw] at h
      exact wpIn_of_wp hd.1 (Oper.wp_mono (fun a w => wpListIn_of hQ rest a w hd.2) (h.resolve_right fun x => hQ x.2))
    · rename_i hw
      rw [if_neg hw] at h
      exact ⟨fun _ _ => trivial, wpListIn_of hQ rest _ _ hd.2 h⟩
/-- a region of a round -/
theorem rgn_lit {id : Nat} {L : List Oper} {a : Act} {w : World} (hQ : ¬ LetsOut Q) (hd : L.all calm = true) (h : wpList P L.toArray Q L a w) : (Code.region id L.toArray false).wpIn (Fence.wide.inRound l) n P Q a w :=
  wpIn_region_lit (wpListIn_of hQ L a w hd h)
theorem calm_at {i : Nat} {o : Oper} (hd : ops.toList.all calm = true) (ho : ops[i]? = some o) : calm o = true :=
  List.all_eq_true.1 hd o (by rw [← Array.getElem?_toList] at ho; exact List.mem_of_getElem? ho)
theorem wpOpIn_of {i : Nat} {K K' : Act → World → Prop} {a : Act} {w : World} (hQ : ¬ LetsOut Q) (hd : ops.toList.all calm = true) (hK : ∀ a w, K a w → K' a w) (h : wpOp P ops Q i K a w) : wpOpIn (Fence.wide.inRound l) n P ops Q i K' a w := by
  unfold wpOp at h
  unfold wpOpIn
  cases ho : ops[i]? with
  | none => rw [ho] at h; exact hK _ _ h
  | some o =>
    rw [ho] at h
    simp only at h ⊢
    split
    · rename_i hw
      rw [if_pos hw] at h
      exact wpIn_of_wp (calm_at hd ho) (Oper.wp_mono hK (h.resolve_right fun x => hQ x.2))
    · rename_i hw
      rw [if_neg hw] at h
      exact ⟨fun _ _ => trivial, hK _ _ h⟩
theorem wpAnyIn_of (hQ : ¬ LetsOut Q) (hd : ops.toList.all calm = true) : ∀ (fuel : Nat) (listed : Array Bool) (a : Act) (w : World), wpAny P md ops Q fuel listed a w → wpAnyIn (Fence.wide.inRound l) n P md ops Q fuel listed a w
  | 0, _, _, _, h => h
  | fuel + 1, _, _, _, h => ⟨h.1, fun i hi => wpOpIn_of hQ hd (fun a' w' => wpAnyIn_of hQ hd fuel _ a' w') (h.2 i hi)⟩
/-- a region of a round that draws its order -/
theorem rgn_held {id : Nat} {a : Act} {w : World} {S : World → Prop} (hQ : ¬ LetsOut Q) (hd : ops.toList.all calm = true) (hm : P.follows .mixedOrders = true) (hS : S w.drew)
    (h : S w.drew → wpAnyH P .any ops Q S ops.size (Array.replicate ops.size false) a w.drew) : (Code.region id ops true).wpIn (Fence.wide.inRound l) n P Q a w :=
  wpIn_region_any hm (wpAnyIn_of hQ hd _ _ _ _ (wpAny_of_held _ _ _ _ (h hS)))
end
section
variable {w w' : World} {row : Option Nat}
/-- only a block that is no cells is turned -/
def Turn (w w' : World) (row : Option Nat) : Prop := w.grownBy w' row ∧ ∀ r, row = some r → ∃ o : Obj, w.heap[r]? = some o ∧ o.isCells = false
theorem Blk.turn {g : Nat} {t : TypeId} {cs : Array Value} (h : Blk w g t cs) (ht : Turn w w' row) : Blk w' g t cs := ⟨h.h.grown ht.1 (fun e => by
  obtain ⟨o, ho, hc⟩ := ht.2 g e.symm
  rw [show w.heap[g]? = _ from h.h] at ho
  cases ho
  cases hc)⟩
theorem Own.turn {B : Nat} {v : Value} {n : Nat} {l : List (BitVec 8)} (h : Own w B v n l) (ht : Turn w w' row) : Own w' B v n l := h.grown ht.1 (by
  rcases h.o.2 with ⟨rfl, _⟩ | ⟨g, cap, cur, rfl, _, hg, _⟩
  · exact .inl rfl
  · refine .inr fun e => ?_
    obtain ⟨o, ho, hc⟩ := ht.2 g (by simpa [Value.ownBlock] using e.symm)
    rw [hg] at ho
    cases ho
    cases hc)
theorem Ext.turn {w0 : World} {B : Nat} (h : Ext w0 w) (ht : w.grownBy w' row) (hB : w0.heap.size ≤ B) (hr : ∀ r, row = some r → B ≤ r) : Ext w0 w' := h.grown ht fun k e => Nat.le_trans hB (hr k e)
end
/-- what lay stays: no more is asked of a round -/
theorem Ext.keeps {w w' : World} (h : Ext w w') (B : Nat) : KeepsFrom B w w' := ⟨h.size, fun k _ _ hk _ => (h.b.block k (Array.getElem?_eq_some_iff.1 hk).1).trans hk⟩
theorem keeps_cells {w w' : World} {row : Option Nat} (B : Nat) (hg : w.grownBy w' row) (hr : ∀ r, row = some r → ∃ cs t fr, w.heap[r]? = some (.cells cs t fr)) : KeepsFrom B w w' :=
  (KeepsOthers.of_grownBy hg fun k o e ho => by
    obtain ⟨cs, t, fr, h⟩ := hr k e
    rw [h] at ho
    cases ho
    rfl).from B
/-- the walk inside a fence stands at a load of what slot k points to -/
theorem at_load_in {P : Program} {F : Fence} {n : Nat} {ops : Array Oper} {rest : List Oper} {a : Act} {w : World} {Q : Exit → Act → World → Prop} {ty t ps af g} (d k : Nat)
    (h : wpListIn F n P ops Q (⟨some d, .load ty (.tmp k), t, ps, af, g⟩ :: rest) a w) : wpListIn F n P ops Q (⟨some d, .load ty (.tmp k), t, ps, af, g⟩ :: rest) a w := h
theorem wpListIn_load_rge {P : Program} {n : Nat} {ops : Array Oper} {rest : List Oper} {op : Oper} {a : Act} {w : World} {Q : Exit → Act → World → Prop} (hgd : op.guard = none) (ty : TypeId) (x : Operand) (ho : op.op = .load ty x)
    (b o : Nat) (l : List (BitVec 8)) (hc : Rge w b o l) (hx : a.eval x = .pointer (some ⟨b, o, none⟩)) (d : TypeDesc)
    (hu : P.underlying ty = some d) (hd : d.isRow = true) (hi : (P.info? ty).map (·.size) = some (bv l).size)
    (h : wpListIn Fence.wide n P ops Q rest (a.put op.dst (.agg (bv l))) w) : wpListIn Fence.wide n P ops Q (op :: rest) a w :=
  wpListIn_plain hgd fun _ hK => wpIn_of_wp0 (by unfold calm; rw [ho]) (wp_load_rge ty x ho b o l hc hx d hu hd hi (hK _ _ h))
end Go.Proofs.YtfipgmjaabggjaaDoor
