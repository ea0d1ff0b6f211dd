/-
  tlv's writer: what it holds, what stays of it; fail.
-/
import Derived.Test.YthookcnkmlmgcaaDoorM11
import Derived.Test.YthookcnkmlmgcaaDoorVHf
import Derived.Test.YthookcnkmlmgcaaDoorVHg
import Derived.Test.YthookcnkmlmgcaaDoorVHh
namespace Go.Proofs.YthookcnkmlmgcaaDoor
open Go Go.RowKit
set_option maxRecDepth 4000

abbrev wtt : TypeId := 103
def vIn (n : Nat) : Value := .int .i64 (n : Int)
theorem vIn_one (n : Nat) : (vIn n).oneCell' = true := rfl
theorem inI : (Tryd.prog.info? 3).map (fun i => (i.zero, i.size, i.bytes)) = some (some (.int .i64 0), 1, 8) := by kernel_rfl
theorem szWt : (Tryd.prog.info? wtt).map (·.size) = some 3 := by kernel_rfl
/-- a writer's cells -/
structure Wt (w : World) (p : Nat) (vw vo : Value) (L : List (BitVec 8)) (P : List Nat) : Prop where
  blk : Blk w p wtt #[vw, vo, .nilIface]
  ow : Own w 0 vw L.length L
  oo : Rw 3 vIn w 0 vo P.length P
/-- the blocks that a writer lies in -/
def fpW (p : Nat) (vw vo : Value) : List Nat := p :: (fpv vw ++ fpv vo)
theorem mem_fpW {p k : Nat} {vw vo : Value} : k ∈ fpW p vw vo ↔ k = p ∨ k ∈ fpv vw ∨ k ∈ fpv vo := by unfold fpW; simp
/-- a writer in its blocks -/
inductive Wr (w : World) (p : Nat) : List Nat → TWs → Prop where
  | ok {vw vo : Value} {cur : List (BitVec 8)} {st : List (BitVec 8 × List (BitVec 8))} (h : Wt w p vw vo (flatT cur st) (posT st)) : Wr w p (fpW p vw vo) (.ok cur st)
  | bad {c : Nat} (h : Blk w p wtt #[.slice none 0 0, .slice none 0 0, err c]) : Wr w p [p] (.bad c)
section
variable {w w' : World} {p : Nat} {vw vo : Value} {L : List (BitVec 8)} {P : List Nat} {G H : List Nat} {s : TWs}
theorem Wt.mds (h : Wt w p vw vo L P) (hm : Mds H w w') (ha : Ap (fpW p vw vo) H) : Wt w' p vw vo L P :=
  ⟨h.blk.mds hm (ha p (mem_fpW.2 (.inl rfl))), (h.ow.rw.mds hm fun k hk => ha k (mem_fpW.2 (.inr (.inl hk)))).own, h.oo.mds hm fun k hk => ha k (mem_fpW.2 (.inr (.inr hk)))⟩
theorem Wt.ext (h : Wt w p vw vo L P) (hx : Ext w w') : Wt w' p vw vo L P := ⟨h.blk.ext hx, h.ow.ext hx, h.oo.ext hx⟩
theorem Wt.hi (h : Wt w p vw vo L P) : Hi w (fpW p vw vo) := fun k hk => by
  rcases mem_fpW.1 hk with rfl | hk | hk
  · exact h.blk.lt
  · exact h.ow.rw.fp_lt k hk
  · exact h.oo.fp_lt k hk
theorem Wr.hi (h : Wr w p G s) : Hi w G := by
  cases h with
  | ok h => exact h.hi
  | bad h => intro k hk; rw [List.mem_singleton.1 hk]; exact h.lt
theorem Wr.mds (h : Wr w p G s) (hm : Mds H w w') (ha : Ap G H) : Wr w' p G s := by
  cases h with
  | ok h => exact .ok (h.mds hm ha)
  | bad h => exact .bad (h.mds hm (ha p (by simp)))
theorem Wr.ext (h : Wr w p G s) (hx : Ext w w') : Wr w' p G s := by
  cases h with
  | ok h => exact .ok (h.ext hx)
  | bad h => exact .bad (h.ext hx)
theorem Wr.mem (h : Wr w p G s) : p ∈ G := by
  cases h with
  | ok h => exact mem_fpW.2 (.inl rfl)
  | bad h => simp
/-- what the writer's field written is turned into -/
theorem Wt.put {vw' : Value} {L' : List (BitVec 8)} (h : Wt w p vw vo L P) (hm : Mvs (fpv vw) (fpv vw') w w') (ho : Own w' 0 vw' L'.length L') :
    Wt (w'.setCell ⟨p, 0, none⟩ vw') p vw' vo L' P ∧ Mvs (fpW p vw vo) (fpW p vw' vo) w (w'.setCell ⟨p, 0, none⟩ vw') := by
  have h1 := h.blk.mds hm.m (h.ow.rw.ne h.blk (by decide))
  have h2 : Rw 3 vIn w' 0 vo P.length P := h.oo.mds hm.m (h.oo.apart h.ow.rw (by decide))
  refine ⟨⟨h1.set_ 0 vw', ?_, ?_⟩, ?_, ?_⟩
  · exact ho.far (p := ⟨p, 0, none⟩) (fun e => ho.rw.ne h1 (by decide) (mem_fpv.2 e)) _
  · exact h2.far (p := ⟨p, 0, none⟩) (fun e => h2.ne h1 (by decide) (mem_fpv.2 e)) _
  · exact (hm.m.mono fun k hk => mem_fpW.2 (.inr (.inl hk))).setCell (p := ⟨p, 0, none⟩) (mem_fpW.2 (.inl rfl)) _
  · intro k hk
    rcases mem_fpW.1 hk with rfl | hk | hk
    · exact .inl (mem_fpW.2 (.inl rfl))
    · rcases hm.f k hk with e | e
      · exact .inl (mem_fpW.2 (.inr (.inl e)))
      · exact .inr e
    · exact .inl (mem_fpW.2 (.inr (.inr hk)))
theorem Wt.at0 {vw' : Value} (h : Wt w p vw vo L P) (hm : Mvs (fpv vw) (fpv vw') w w') : w'.cell? ⟨p, 0, none⟩ = some vw ∧ w'.frozen? ⟨p, 0, none⟩ = false := by
  have h1 := h.blk.mds hm.m (h.ow.rw.ne h.blk (by decide))
  exact ⟨h1.h.cell 0, h1.h.frozen 0⟩
theorem Wt.at1 {vo' : Value} (h : Wt w p vw vo L P) (hm : Mvs (fpv vo) (fpv vo') w w') : w'.cell? ⟨p, 1, none⟩ = some vo ∧ w'.frozen? ⟨p, 1, none⟩ = false := by
  have h1 := h.blk.mds hm.m (h.oo.ne h.blk (by decide))
  exact ⟨h1.h.cell 1, h1.h.frozen 1⟩
theorem fpW_w {k : Nat} (h : k ∈ fpv vw) : k ∈ fpW p vw vo := mem_fpW.2 (.inr (.inl h))
theorem fpW_o {k : Nat} (h : k ∈ fpv vo) : k ∈ fpW p vw vo := mem_fpW.2 (.inr (.inr h))
/-- .. and its field open -/
theorem Wt.hold {vo' : Value} {P' : List Nat} (h : Wt w p vw vo L P) (hm : Mvs (fpv vo) (fpv vo') w w') (ho : Rw 3 vIn w' 0 vo' P'.length P') :
    Wt (w'.setCell ⟨p, 1, none⟩ vo') p vw vo' L P' ∧ Mvs (fpW p vw vo) (fpW p vw vo') w (w'.setCell ⟨p, 1, none⟩ vo') := by
  have h1 := h.blk.mds hm.m (h.oo.ne h.blk (by decide))
  have h2 : Rw 5 vb w' 0 vw L.length L := h.ow.rw.mds hm.m (h.ow.rw.apart h.oo (by decide))
  refine ⟨⟨h1.set_ 1 vo', ?_, ?_⟩, ?_, ?_⟩
  · exact (h2.far (p := ⟨p, 1, none⟩) (fun e => h2.ne h1 (by decide) (mem_fpv.2 e)) _).own
  · exact ho.far (p := ⟨p, 1, none⟩) (fun e => ho.ne h1 (by decide) (mem_fpv.2 e)) _
  · exact (hm.m.mono fun k hk => mem_fpW.2 (.inr (.inr hk))).setCell (p := ⟨p, 1, none⟩) (mem_fpW.2 (.inl rfl)) _
  · intro k hk
    rcases mem_fpW.1 hk with rfl | hk | hk
    · exact .inl (mem_fpW.2 (.inl rfl))
    · exact .inl (mem_fpW.2 (.inr (.inl hk)))
    · rcases hm.f k hk with e | e
      · exact .inl (mem_fpW.2 (.inr (.inr e)))
      · exact .inr e
end
/-- how a writer's call ends -/
def WrR (w : World) (p : Nat) (G : List Nat) (s : TWs) (e : Ending) (w' : World) : Prop := e = .returned (.tuple #[]) ∧ ∃ G', Wr w' p G' s ∧ Mvs G G' w w'
theorem one_bad (c : Int) : (#[Value.slice none 0 0, Value.slice none 0 0, err c] : Array Value).all (·.oneCell') = true := by simp [Value.oneCell']
set_option maxHeartbeats 1000000 in
theorem fail_any {w : World} {p : Nat} {cs : Array Value} (h : Blk w p wtt cs) (hs : cs.size = 3) (c : Nat) :
    Calls Tryd.prog 62 #[.pointer (some ⟨p, 0, none⟩), err c] w fun e w' => e = .returned (.tuple #[]) ∧ Blk w' p wtt #[.slice none 0 0, .slice none 0 0, err c] ∧ Mds [p] w w' := by
  have H := Kp.mk h
  have HS := Kp.mk hs
  clear h hs
  go_enter Tryd.func62, Tryd.ntmps62
  go_wp2_with (first | ((with_reducible refine at_store 7 6 ?_); refine wpList_store_row rfl wtt _ _ rfl p #[.slice none 0 0, .slice none 0 0, err c] rfl rfl wtt _ H.out.h szWt HS.out (one_bad c) ?_) | fail)
  go_end0
  exact ⟨rfl, H.out.row _, (Mds.refl [p] w).setRow (by simp) _⟩
end Go.Proofs.YthookcnkmlmgcaaDoor
