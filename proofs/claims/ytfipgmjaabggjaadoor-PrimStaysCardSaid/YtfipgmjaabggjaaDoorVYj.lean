/-
  slices.AppendSeq, slices.Collect: what the iterator gave, in a block of the call's own.
-/
import Derived.RangeFuncBox
import Derived.OwnWalkIn
import Derived.Maps.AppendAt
import Derived.Test.YtfipgmjaabggjaaDoorVYi
namespace Go.Proofs.YtfipgmjaabggjaaDoor
open Go Go.RowKit Go.Maps
set_option maxRecDepth 4000
attribute [local go_sem] Oper.semAt_some

/-- between two rounds: the box holds a slice that owns what has come -/
structure SeqI (w : World) (pre : List SA) (W : World) : Prop where
  box : ∃ v, Boxed W w.heap.size 67 v ∧ W.ownsRow w.heap.size 24 1 v pre.length (pre.map sv)
  below : Below w.heap.size w W
theorem info_sl : (Tryd.prog.info? 24).map (fun i => (i.zero, i.size, i.bytes)) = some (some (.slice none 0 0), 1, 24) := by kernel_rfl
theorem SeqI.own {w : World} {B : Nat} (hB : w.heap.size ≤ B) : OwnFrom B (SeqI w) := fun s W W' row h hg hr => by
  obtain ⟨v, hv, hrow⟩ := h.box
  obtain ⟨v', hv', hrow', _⟩ := holdsRow_own w.heap.size w.heap.size 67 24 1 (fun s : List SA => s.length) (fun s => s.map sv) (fun _ _ => True) s W W' row ⟨v, hv, hrow, trivial⟩ hg (fun r e => (hr r e).2)
  exact ⟨⟨v', hv', hrow'⟩, h.below.grown hg h.below.size (fun k e => Nat.le_trans hB (hr k e).1)⟩
set_option maxHeartbeats 4000000 in
theorem AppendSeq_any (n : Nat) (hn : 2 ≤ n) (gf : Nat) (lb : Array Value) (eg : ∀ args w, (callFunc gf args).run Tryd.prog w = .ok (.enter gf args) w) (g Bn : Nat) (S : List SA → Prop) (N : Nat) (hN : N ≤ 1000000) (w : World)
    (hg : g < w.heap.size) (hB : Bn < w.heap.size) (hseq : SeqStopsK Fence.wide (n - 1) Tryd.prog gf lb (fun x : SA => #[sv x]) (Kb g Bn) S (fun _ => True) N w) :
    CallsIn Fence.wide n Tryd.prog 88 #[.slice none 0 0, .func (.func gf) #[] lb] w fun e w' => ∃ (v : Value) (ss : List SA), e = .returned v ∧ S ss ∧
      w'.ownsRow w.heap.size 24 1 v ss.length (ss.map sv) ∧ Below w.heap.size w w' := by
  have h1 : 1 ≤ n := by omega
  have hne : 67 ≠ 24 := by decide
  obtain ⟨i0, hi, hz0, hz1, hz2⟩ := info_parts info_sl
  refine callsIn_of_wp_marks Tryd.func88 rfl trivial ?_ rfl
  simp only [Tryd.ntmps88, List.size_toArray, List.length_cons, List.length_nil, Nat.reduceAdd, Nat.reduceSub, Array.replicate_succ, Array.replicate_zero, List.push_toArray, List.append_toArray, List.nil_append, List.cons_append]
  gi_wp2
  have hI0 : SeqI w [] (w.alloc (.cells #[.slice none 0 0] 67)) := ⟨⟨_, Boxed.new w _ _, ⟨rfl, .inl ⟨rfl, rfl⟩⟩⟩, (Below.refl _ w).alloc (Nat.le_refl _) _⟩
  refine wpIn_rangeFunc_ownF (F := Fence.wide) (n := n) rfl h1 (gf := gf) (lb := lb) rfl trivial eg hseq (fun h k => h.trans k) (kb_b (by simp; omega) (by simp; omega)) hI0.below (fun _ => rfl)
    (SeqI w) (fun _ _ _ => False) (SeqI.own (by simp)) (fun _ _ _ _ _ hs _ _ => hs) hI0
    (fun x => { tmps := #[.slice none 0 0, .func (.func gf) #[] lb, .pointer (some ⟨w.heap.size, 0, none⟩), undef, .slice none 0 0, sv x, .func (.func gf) #[] lb, sv x, undef, undef, undef, undef, undef], defers := [] }) ?assign ?body ?done ?stop
  case assign =>
    intro l x W K hK
    refine rgn_lit (fun ⟨_, _, h⟩ => h) rfl ?_
    go_wp2_with fail
    exact hK
  case body =>
    rintro l pre ⟨A, m, c⟩ W hI hlt
    obtain ⟨v, hv, hrow⟩ := hI.box
    have hsz := hI.below.size
    have hc2 := hv.cell
    have hml : pre.length + 1 ≤ maxLen := by have : maxLen = 9223372036854775807 := rfl; omega
    have h24 : (pre.length + 1) * 24 ≤ 140737488355328 := by omega
    have hsz' : w.heap.size ≤ (W.alloc (.cells #[.slice A m c] 24)).heap.size := by simp; omega
    dsimp only [sv]
    refine wpIn_block ?_
    refine rgn_lit (fun ⟨_, _, h⟩ => h) rfl ?_
    have HI := Kp.mk hI
    have HV := Kp.mk hv
    have HR := Kp.mk hrow
    clear hI hv hrow
    go_wp2_with (first
      | (at_builtin
         refine wpList_append_own _ rfl (.tmp 8) (.tmp 10) 67 rfl w.heap.size 24 i0 (.slice none 0 0) 1 24 Tryd.underlying67 hi hz0 hz1 hz2 rfl (by decide) v pre.length (pre.map sv) rfl (HR.out.alloc _) ⟨W.heap.size, 0, none⟩ 1 1 [.slice A m c] rfl rfl (cell_one_new _ _ _) (by simp [Value.oneCell']) hml h24 hsz' ?_
         intro v' w3 hown' hg3 hnil3
         obtain ⟨k1, k2, k3, k4, k5⟩ := Boxed.appended HV.out hne HR.out hsz (Nat.le_refl _) hown' hg3
         obtain ⟨g', cap', rfl⟩ := ownsRow_succ hown'
         have hc3 := k1.cell
         have hf3 := k1.frozen
         have K2 := Kp.mk k2
         have K3 := Kp.mk k3
         have K4 := Kp.mk k4
         have K5 := Kp.mk k5
         clear k1 k2 k3 k4 k5 hown' hg3 hnil3)
      | fail)
    refine ⟨K4.out, ⟨K5.out.block g (by omega), K5.out.block Bn (by omega)⟩, ⟨⟨.slice (some ⟨g', 0, none⟩) (pre.length + 1) cap', K2.out, ?_⟩, HI.out.below.trans K5.out⟩⟩
    rw [List.length_append, List.map_append]
    exact K3.out
  case done =>
    rintro D ss W hD hS hI hK
    obtain ⟨v, hv, hrow⟩ := hI.box
    have hc2 := hv.cell
    gi_wp2
    refine ⟨by simp, .inl ⟨_, _, rfl, run_takeDeferred hK, ?_⟩⟩
    exact ⟨_, results_tmp rfl _ _ _, v, ss, rfl, hS, ownsRow_putObj hrow _ hK rfl, hI.below.grown (grownBy_putObj' _ _ _) hI.below.size (fun k e => by cases e; simp at hD; omega)⟩
  case stop =>
    rintro D c pre W _ _ h _
    exact h.elim
theorem ownsRow_form {w : World} {B e s n : Nat} {v : Value} {xs : List Value} (h : w.ownsRow B e s v n xs) : ∃ A c, v = .slice A n c := by
  rcases h.2 with ⟨rfl, rfl⟩ | ⟨g, cap, _, rfl, _⟩
  · exact ⟨none, 0, rfl⟩
  · exact ⟨_, cap, rfl⟩
/-- what the iterator gave, in a slice of the call's own -/
structure Coll (w : World) (vs : List SA) (w' : World) (A : Option Addr) (n c : Nat) : Prop where
  len : vs.length = n
  row : w'.ownsRow w.heap.size 24 1 (.slice A n c) n (vs.map sv)
  x : Ext w w'
theorem AppendSeq_c (gf : Nat) (lb : Array Value) (eg : ∀ args w, (callFunc gf args).run Tryd.prog w = .ok (.enter gf args) w) (g Bn : Nat) (vs : List SA) (N : Nat) (hl : vs.length = N) (hN : N ≤ 1000000) (w : World)
    (hg : g < w.heap.size) (hB : Bn < w.heap.size) (hseq : SeqStopsK Fence.wide 1 Tryd.prog gf lb (fun x : SA => #[sv x]) (Kb g Bn) (fun ys => ys = vs) (fun _ => True) N w) :
    Calls Tryd.prog 88 #[.slice none 0 0, .func (.func gf) #[] lb] w fun e w' => ∃ A c, e = .returned (.slice A N c) ∧ Coll w vs w' A N c := by
  refine ((callsIn_wide (n := 2)).1 (AppendSeq_any 2 (Nat.le_refl _) gf lb eg g Bn _ N hN w hg hB hseq)).mono ?_
  rintro e w' ⟨v, ss, rfl, rfl, hrow, hb⟩
  rw [hl] at hrow
  obtain ⟨A, c, rfl⟩ := ownsRow_form hrow
  exact ⟨A, c, rfl, hl, hrow, ⟨hb⟩⟩
theorem Collect_c (gf : Nat) (lb : Array Value) (eg : ∀ args w, (callFunc gf args).run Tryd.prog w = .ok (.enter gf args) w) (g Bn : Nat) (vs : List SA) (N : Nat) (hl : vs.length = N) (hN : N ≤ 1000000) (w : World)
    (hg : g < w.heap.size) (hB : Bn < w.heap.size) (hseq : SeqStopsK Fence.wide 1 Tryd.prog gf lb (fun x : SA => #[sv x]) (Kb g Bn) (fun ys => ys = vs) (fun _ => True) N w) :
    Calls Tryd.prog 77 #[.func (.func gf) #[] lb] w fun e w' => ∃ A c, e = .returned (.slice A N c) ∧ Coll w vs w' A N c := by
  have hc := AppendSeq_c gf lb eg g Bn vs N hl hN w hg hB hseq
  have HC := Kp.mk hc
  clear hc hseq eg
  go_enter Tryd.func77, Tryd.ntmps77
  go_wp2_with (first | (go_at_call 88; refine HC.out.mono ?_; rintro e w2 ⟨A, c, rfl, h2⟩) | fail)
  go_ret
  exact ⟨A, c, rfl, h2⟩
end Go.Proofs.YtfipgmjaabggjaaDoor
