/-
  A region that draws its order and writes in place at its end: what reads is taken first, as long as none of the last stores has come up.
  tlv's reader: Leave.
  tlv's reader: marked.
  tlv's reader: Take.
-/
import Derived.Test.YthookcnkmlmgcaaGreatDoorM4
import Derived.OrdersHeld
import Derived.Test.YthookcnkmlmgcaaGreatDoorM12
namespace Go.Proofs.YthookcnkmlmgcaaGreatDoor
open Go Go.RowKit
set_option maxRecDepth 4000

/-- one of the stores has come up -/
def stlB (st : Nat → Bool) (listed : Array Bool) : Bool := (List.range listed.size).any fun s => st s && listed.getD s false
theorem stlB_set {st : Nat → Bool} {listed : Array Bool} {i : Nat} (hi : st i = false) : stlB st (listed.setIfInBounds i true) = stlB st listed := by
  unfold stlB
  rw [Array.size_setIfInBounds, Bool.eq_iff_iff, List.any_eq_true, List.any_eq_true]
  constructor
  · rintro ⟨s, h1, h2⟩
    refine ⟨s, h1, ?_⟩
    rw [Bool.and_eq_true] at h2 ⊢
    have hne : i ≠ s := fun e => by rw [e, h2.1] at hi; cases hi
    rw [getD_set_ne false hne] at h2
    exact h2
  · rintro ⟨s, h1, h2⟩
    refine ⟨s, h1, ?_⟩
    rw [Bool.and_eq_true] at h2 ⊢
    have hne : i ≠ s := fun e => by rw [e, h2.1] at hi; cases hi
    rw [getD_set_ne false hne]
    exact h2
section
variable (P : Program) (md : Region.Mode) (ops : Array Oper) (Q : Exit → Act → World → Prop) (st : Nat → Bool) (R : World → Prop)
/-- whatever order is picked; R holds till a store has come up -/
def wpAnyR : Nat → Array Bool → Act → World → Prop
  | 0, listed, a, w => Region.ready md ops listed = [] ∧ Q .normal a w
  | fuel + 1, listed, a, w =>
    (Region.ready md ops listed = [] → Q .normal a w) ∧
    ∀ i ∈ Region.ready md ops listed, wpOp P ops Q i (fun a' w' => (stlB st (listed.setIfInBounds i true) = true ∨ R w') ∧ wpAnyR fuel (listed.setIfInBounds i true) a' w') a w
end
section
variable {P : Program} {md : Region.Mode} {ops : Array Oper} {Q : Exit → Act → World → Prop} {st : Nat → Bool} {R : World → Prop}
theorem wpAny_of_R : ∀ (fuel : Nat) (listed : Array Bool) (a : Act) (w : World), wpAnyR P md ops Q st R fuel listed a w → wpAny P md ops Q fuel listed a w
  | 0, _, _, _, h => h
  | fuel + 1, _, _, _, h => ⟨h.1, fun i hi => wpOp_mono (fun a' w' h' => wpAny_of_R fuel _ a' w' h'.2) (h.2 i hi)⟩
theorem wpAnyR_first {i : Nat} {oi : Oper} {v : Value} (hi : ops[i]? = some oi) (hsel : ∀ (j : Nat) (o : Oper) cs b, ops[j]? = some o → o.op ≠ .select cs b)
    (hQ : ∀ c a w, Q (.panic c) (a.put oi.dst v) w → Q (.panic c) a w) (hst : st i = false)
    (hdep : ∀ (s : Nat) (os : Oper), st s = true → ops[s]? = some os → ∃ e ∈ os.after, Region.binds md e = true ∧ e.on = i) :
    ∀ (fuel : Nat) (listed : Array Bool) (a : Act) (w : World),
      (∀ j oj, ops[j]? = some oj → j ≠ i → listed.getD j true = false → (∀ e ∈ oj.after, Region.binds md e = true → e.on ≠ i) → oi.apart ops oj = true) →
      i ∈ Region.ready md ops listed → YieldsIf P ops R oi v a → R w → stlB st listed = false →
      wpAnyR P md ops Q st R fuel (listed.setIfInBounds i true) (a.put oi.dst v) w → wpAnyR P md ops Q st R (fuel + 1) listed a w := by
  intro fuel
  induction fuel with
  | zero =>
    intro listed a w _ hr hy hS _ H
    refine ⟨fun h => (by rw [h] at hr; cases hr), fun j hj => ?_⟩
    by_cases hji : j = i
    · subst hji; exact hy.wpOp hi hS ⟨.inr hS, H⟩
    · have := ready_mono hj hji
      rw [H.1] at this
      cases this
  | succ fuel ih =>
    intro listed a w hfree hr hy hS hl H
    refine ⟨fun h => (by rw [h] at hr; cases hr), fun j hj => ?_⟩
    by_cases hji : j = i
    · subst hji; exact hy.wpOp hi hS ⟨.inr hS, H⟩
    · have h1 := H.2 j (ready_mono hj hji)
      obtain ⟨hjun, oj, hoj, hall⟩ := mem_ready.1 hj
      have hnot : ∀ e ∈ oj.after, Region.binds md e = true → e.on ≠ i := fun e he hb heq => by
        have h1 := hall e he hb
        have h0 := (mem_ready.1 hr).1
        rw [heq] at h1
        rcases Nat.lt_or_ge i listed.size with h' | h'
        · simp [h'] at h0 h1; rw [h0] at h1; cases h1
        · simp [Array.getElem?_eq_none h'] at h1
      have hsj : st j = false := by
        cases hq : st j with
        | false => rfl
        | true =>
          obtain ⟨e, he, hb, heq⟩ := hdep j oj hq hoj
          exact absurd heq (hnot e he hb)
      have h2 := wpOp_putIf hoj (hfree j oj hoj hji hjun hnot) (fun cs b => hsel i oi cs b hi) (fun cs b => hsel j oj cs b hoj) hQ hy h1
      have hfree' : ∀ k ok, ops[k]? = some ok → k ≠ i → (listed.setIfInBounds j true).getD k true = false →
          (∀ e ∈ ok.after, Region.binds md e = true → e.on ≠ i) → oi.apart ops ok = true := fun k ok hk hki hun hno => by
        refine hfree k ok hk hki ?_ hno
        by_cases hjk : j = k
        · subst hjk; exact hjun
        · rw [getD_set_ne true hjk] at hun; exact hun
      refine wpOp_mono (fun a' w' h3 => ?_) h2
      obtain ⟨h4, h5, h6⟩ := h3
      rw [stlB_set hsj, stlB_set hst, hl] at h5
      have hR : R w' := h5.resolve_left (by simp)
      refine ⟨.inr hR, ih (listed.setIfInBounds j true) a' w' hfree' (ready_mono hr (Ne.symm hji)) h4 hR (by rw [stlB_set hsj]; exact hl) ?_⟩
      rw [Array.setIfInBounds_comm _ _ hji]
      exact h6
theorem wpAnyR_first0 {i : Nat} {oi : Oper} {v : Value} (hi : ops[i]? = some oi) (hsel : ∀ (j : Nat) (o : Oper) cs b, ops[j]? = some o → o.op ≠ .select cs b)
    (hQ : ∀ c a w, Q (.panic c) (a.put oi.dst v) w → Q (.panic c) a w) (hst : st i = false) :
    ∀ (fuel : Nat) (listed : Array Bool) (a : Act) (w : World),
      (∀ j oj, ops[j]? = some oj → j ≠ i → listed.getD j true = false → (∀ e ∈ oj.after, Region.binds md e = true → e.on ≠ i) → oi.apart ops oj = true) →
      i ∈ Region.ready md ops listed → YieldsIf P ops (fun _ => True) oi v a → (stlB st listed = true ∨ R w) →
      wpAnyR P md ops Q st R fuel (listed.setIfInBounds i true) (a.put oi.dst v) w → wpAnyR P md ops Q st R (fuel + 1) listed a w := by
  intro fuel
  induction fuel with
  | zero =>
    intro listed a w _ hr hy hS H
    refine ⟨fun h => (by rw [h] at hr; cases hr), fun j hj => ?_⟩
    by_cases hji : j = i
    · subst hji; exact hy.wpOp hi trivial ⟨by rw [stlB_set hst]; exact hS, H⟩
    · have := ready_mono hj hji
      rw [H.1] at this
      cases this
  | succ fuel ih =>
    intro listed a w hfree hr hy hS H
    refine ⟨fun h => (by rw [h] at hr; cases hr), fun j hj => ?_⟩
    by_cases hji : j = i
    · subst hji; exact hy.wpOp hi trivial ⟨by rw [stlB_set hst]; exact hS, H⟩
    · have h1 := H.2 j (ready_mono hj hji)
      obtain ⟨hjun, oj, hoj, hall⟩ := mem_ready.1 hj
      have hnot : ∀ e ∈ oj.after, Region.binds md e = true → e.on ≠ i := fun e he hb heq => by
        have h1 := hall e he hb
        have h0 := (mem_ready.1 hr).1
        rw [heq] at h1
        rcases Nat.lt_or_ge i listed.size with h' | h'
        · simp [h'] at h0 h1; rw [h0] at h1; cases h1
        · simp [Array.getElem?_eq_none h'] at h1
      have h2 := wpOp_putIf hoj (hfree j oj hoj hji hjun hnot) (fun cs b => hsel i oi cs b hi) (fun cs b => hsel j oj cs b hoj) hQ hy h1
      have hfree' : ∀ k ok, ops[k]? = some ok → k ≠ i → (listed.setIfInBounds j true).getD k true = false →
          (∀ e ∈ ok.after, Region.binds md e = true → e.on ≠ i) → oi.apart ops ok = true := fun k ok hk hki hun hno => by
        refine hfree k ok hk hki ?_ hno
        by_cases hjk : j = k
        · subst hjk; exact hjun
        · rw [getD_set_ne true hjk] at hun; exact hun
      refine wpOp_mono (fun a' w' h3 => ?_) h2
      obtain ⟨h4, h5, h6⟩ := h3
      rw [Array.setIfInBounds_comm _ _ (fun e => hji e.symm), stlB_set hst] at h5
      refine ⟨h5, ih (listed.setIfInBounds j true) a' w' hfree' (ready_mono hr (Ne.symm hji)) h4 h5 ?_⟩
      rw [Array.setIfInBounds_comm _ _ hji]
      exact h6
/-- each store waits for this operation -/
def depB (md : Region.Mode) (ops : Array Oper) (st : Nat → Bool) (i : Nat) : Bool :=
  (List.range ops.size).all fun s => !st s || (match ops[s]? with | some os => os.after.toList.any fun e => Region.binds md e && e.on == i | none => true)
theorem depB_spec {i : Nat} (h : depB md ops st i = true) : ∀ (s : Nat) (os : Oper), st s = true → ops[s]? = some os → ∃ e ∈ os.after, Region.binds md e = true ∧ e.on = i := fun s os hs ho => by
  unfold depB at h
  rw [List.all_eq_true] at h
  have h1 := h s (by simp; exact (Array.getElem?_eq_some_iff.1 ho).1)
  rw [hs, ho] at h1
  simp only [Bool.not_true, Bool.false_or, List.any_eq_true, Bool.and_eq_true, beq_iff_eq] at h1
  obtain ⟨e, he, h2, h3⟩ := h1
  exact ⟨e, by simpa using he, h2, h3⟩
theorem wpAnyR_take {i : Nat} {oi : Oper} {v : Value} {fuel : Nat} {listed : Array Bool} {a : Act} {w : World} (hi : ops[i]? = some oi)
    (hs : Region.noSelect ops = true) (hf : Region.free md ops listed i = true) (hr : (Region.ready md ops listed).contains i = true) (hst : st i = false) (hd : depB md ops st i = true) (hl : stlB st listed = false)
    (hQ : ∀ c a w, Q (.panic c) (a.put oi.dst v) w → Q (.panic c) a w) (hy : YieldsIf P ops R oi v a) (hR : R w)
    (h : wpAnyR P md ops Q st R fuel (listed.setIfInBounds i true) (a.put oi.dst v) w) : wpAnyR P md ops Q st R (fuel + 1) listed a w :=
  wpAnyR_first hi (Region.noSelect_spec hs) hQ hst (depB_spec hd) fuel listed a w (Region.free_spec hi hf) (by simpa using hr) hy hR hl h
/-- .. an operation that tells the same in whatever world -/
theorem wpAnyR_take0 {i : Nat} {oi : Oper} {v : Value} {fuel : Nat} {listed : Array Bool} {a : Act} {w : World} (hi : ops[i]? = some oi)
    (hs : Region.noSelect ops = true) (hf : Region.free md ops listed i = true) (hr : (Region.ready md ops listed).contains i = true) (hst : st i = false)
    (hQ : ∀ c a w, Q (.panic c) (a.put oi.dst v) w → Q (.panic c) a w) (hy : YieldsIf P ops (fun _ => True) oi v a) (hR : stlB st listed = true ∨ R w)
    (h : wpAnyR P md ops Q st R fuel (listed.setIfInBounds i true) (a.put oi.dst v) w) : wpAnyR P md ops Q st R (fuel + 1) listed a w :=
  wpAnyR_first0 hi (Region.noSelect_spec hs) hQ hst fuel listed a w (Region.free_spec hi hf) (by simpa using hr) hy hR h
theorem wpAnyR_done {listed : Array Bool} {a : Act} {w : World} (hr : Region.ready md ops listed = []) (h : Q .normal a w) : ∀ fuel, wpAnyR P md ops Q st R fuel listed a w
  | 0 => ⟨hr, h⟩
  | _ + 1 => ⟨fun _ => h, by rw [hr]; simp⟩
theorem wp_region_R {id : Nat} {a : Act} {w : World} (hm : P.follows .mixedOrders = true) (hR : R w.drew)
    (h : R w.drew → wpAnyR P .any ops Q st R ops.size (Array.replicate ops.size false) a w.drew) : (Code.region id ops true).wp P Q a w :=
  wp_region_any hm (wpAny_of_R _ _ _ _ (h hR))
theorem nextR {fuel : Nat} {listed : Array Bool} {a : Act} {w : World} (i : Nat) {o : Oper} (hr : Region.ready md ops listed = [i]) (hi : ops[i]? = some o) (hw : Region.wanted o (yielded ops a.tmps) = true)
    (h : ∀ K' : Act → World → Prop, Hid (∀ a w, (stlB st (listed.setIfInBounds i true) = true ∨ R w) → wpAnyR P md ops Q st R fuel (listed.setIfInBounds i true) a w → K' a w) → o.wp P a w K' Q) : wpAnyR P md ops Q st R (fuel + 1) listed a w := by
  refine ⟨fun h0 => (by rw [hr] at h0; cases h0), fun j hj => ?_⟩
  rw [hr] at hj
  obtain rfl := List.mem_singleton.1 hj
  unfold wpOp
  simp only [hi, hw, if_true]
  exact .inl (h _ fun a w hs hk => ⟨hs, hk⟩)
theorem nextR2 {fuel : Nat} {listed : Array Bool} {a : Act} {w : World} (i k : Nat) {oi ok : Oper} (hr : Region.ready md ops listed = [i, k]) (hi : ops[i]? = some oi) (hk : ops[k]? = some ok) (hwi : Region.wanted oi (yielded ops a.tmps) = true) (hwk : Region.wanted ok (yielded ops a.tmps) = true)
    (h1 : ∀ K' : Act → World → Prop, Hid (∀ a w, (stlB st (listed.setIfInBounds i true) = true ∨ R w) → wpAnyR P md ops Q st R fuel (listed.setIfInBounds i true) a w → K' a w) → oi.wp P a w K' Q)
    (h2 : ∀ K' : Act → World → Prop, Hid (∀ a w, (stlB st (listed.setIfInBounds k true) = true ∨ R w) → wpAnyR P md ops Q st R fuel (listed.setIfInBounds k true) a w → K' a w) → ok.wp P a w K' Q) : wpAnyR P md ops Q st R (fuel + 1) listed a w := by
  refine ⟨fun h0 => (by rw [hr] at h0; cases h0), fun j hj => ?_⟩
  rw [hr] at hj
  simp only [List.mem_cons, List.not_mem_nil, or_false] at hj
  rcases hj with rfl | rfl
  · unfold wpOp
    simp only [hi, hwi, if_true]
    exact .inl (h1 _ fun a w hs hk => ⟨hs, hk⟩)
  · unfold wpOp
    simp only [hk, hwk, if_true]
    exact .inl (h2 _ fun a w hs hk => ⟨hs, hk⟩)
end
end Go.Proofs.YthookcnkmlmgcaaGreatDoor
namespace Go.Proofs.YthookcnkmlmgcaaGreatDoor
open Go Go.RowKit
set_option maxRecDepth 4000

section
variable {w : World} {p : Nat} {G : List Nat} {rest : List (BitVec 8)} {bs : List (List (BitVec 8))}
set_option maxHeartbeats 1000000 in
theorem Leave_none (h : Rr w p G rest []) : Calls Tryz.prog 25 #[.pointer (some ⟨p, 0, none⟩)] w fun e w' => e = .returned (err 17) ∧ w' = w := by
  obtain ⟨ds, A, n, c, vb, ts, h, rfl⟩ := h
  obtain ⟨Ab, cb, rfl⟩ := h.bo.form
  have hc1 := fun (w' : World) (hx : Ext w w') => h.blk.cell hx 1
  have hl2 := h.len
  rw [show ts.length = 0 from hl2] at hc1
  clear h hl2
  go_enter Tryz.func25, Tryz.ntmps25
  go_wp2_with fail
  go_ret
  exact ⟨rfl, rfl⟩
set_option maxHeartbeats 1000000 in
theorem Leave_more {x : List (BitVec 8)} (h : Rr w p G rest (bs ++ [x])) (hr : rest ≠ []) (hlt : bs.length < 1000000) : Calls Tryz.prog 25 #[.pointer (some ⟨p, 0, none⟩)] w fun e w' => e = .returned (err 3) ∧ w' = w := by
  obtain ⟨ds, A, n, c, vb, ts, h, rfl⟩ := h
  obtain ⟨Ab, cb, rfl⟩ := h.bo.form
  have hc0 := fun (w' : World) (hx : Ext w w') => h.blk.cell hx 0
  have hc1 := fun (w' : World) (hx : Ext w w') => h.blk.cell hx 1
  have hl2 := h.len
  have hl := h.rs.len
  have hn : 0 < n := by
    have := List.length_pos_iff.2 hr
    omega
  rw [List.length_append, List.length_singleton] at hl2
  obtain ⟨M, hM⟩ : ∃ M, ts.length = M := ⟨_, rfl⟩
  rw [hM] at hl2 hc1
  have b1 : IntKind.i64.wrap ((M : Int) - 1) = (bs.length : Int) := by rw [IntKind.wrap_i64]; omega
  have b2 : decide ((bs.length : Int) < 0) = false := decide_eq_false (by omega)
  have b3 : 0 < (n : Int) := by omega
  generalize bs.length = D at *
  clear h hl2 hl hM hn
  go_enter Tryz.func25, Tryz.ntmps25
  go_wp2_with fail
  go_ret
  exact ⟨rfl, rfl⟩
theorem szSl' : (Tryz.prog.info? 22).map (·.size) = some 1 := szSl
set_option maxHeartbeats 4000000 in
theorem Leave_ok {x : List (BitVec 8)} (h : Rr w p G [] (bs ++ [x])) (hlt : bs.length < 1000000) : Calls Tryz.prog 25 #[.pointer (some ⟨p, 0, none⟩)] w fun e w' => e = .returned .nilIface ∧ ∃ G', Rr w' p G' x bs ∧ Mvs G G' w w' := by
  obtain ⟨ds, A, n, c, vb, ts, h, rfl⟩ := h
  obtain ⟨Ab, cb, rfl⟩ := h.bo.form
  have hl2 := h.len
  rw [List.length_append, List.length_singleton] at hl2
  obtain rfl : n = 0 := by have := h.rs.len; simpa using this.symm
  obtain ⟨M, hM⟩ : ∃ M, ts.length = M := ⟨_, rfl⟩
  obtain ⟨D, hD⟩ : ∃ D, bs.length = D := ⟨_, rfl⟩
  have hDM : D < M := by omega
  obtain ⟨t, ht⟩ : ∃ t, ts[D]? = some t := ⟨ts[D]'(by omega), by simp [show D < ts.length by omega]⟩
  obtain ⟨At, nt, ct⟩ := t
  have hx := h.each D (At, nt, ct) x ht (by rw [List.getElem?_append_right (by omega), ← hD, Nat.sub_self]; rfl)
  rw [hM] at h hl2 ⊢
  rw [hD] at hl2 hlt
  obtain ⟨gb', rfl, _, _⟩ := (by have h1 := h.bo; rw [hM] at h1; exact h1.some_ (by omega) : ∃ g, Ab = some ⟨g, 0, none⟩ ∧ 0 ≤ g ∧ g < w.heap.size)
  have hcap : M ≤ cb := by
    have h1 := h.bo
    rw [hM] at h1
    exact h1.rd.cap
  have hc0 := fun (w' : World) (hx : Ext w w') => h.blk.cell hx 0
  have hc1 := fun (w' : World) (hx : Ext w w') => h.blk.cell hx 1
  have hcb : ∀ (w' : World), Ext w w' → w'.cell? ⟨gb', D, none⟩ = some (.slice At nt ct) := fun w' hx => by
    have h1 := (h.ext hx).bo
    rw [hM] at h1
    exact h1.cell D (At, nt, ct) ht
  have b1 : IntKind.i64.wrap ((M : Int) - 1) = (D : Int) := by rw [IntKind.wrap_i64]; omega
  have b2 : decide ((D : Int) < 0) = false := decide_eq_false (by omega)
  have b3 : (D : Int) < (M : Int) := by omega
  have hs1 := fun W => run_upto (P := Tryz.prog) (some ⟨gb', 0, none⟩) M cb 49 22 Tryz.underlying49 szSl' D (D : Int) rfl (by omega) W
  have H := Kp.mk h
  have HX := Kp.mk hx
  have HM := Kp.mk hM
  have HD := Kp.mk hD
  have HDM : Kp (D ≤ M) := ⟨by omega⟩
  have f0 := fun (w' : World) (hx : Ext w w') => h.blk.free hx 0
  have f1 := fun (w' : World) (hx : Ext w w') => h.blk.free hx 1
  clear h hx hM hD hDM hl2 ht hcap hlt
  go_enter Tryz.func25, Tryz.ntmps25
  go_wp2_with fail
  refine wp_region_R (st := fun s => s == 17 || s == 20) (R := fun w' => Ext w w') (by kernel_rfl) (Ext.refl w).drew (fun hR => ?_)
  refine wpAnyR_take0 (i := 0) (oi := ⟨some 20, _, _, _, _, _⟩) (v := ?_) rfl (by kernel_rfl) (by kernel_rfl) (by kernel_rfl) rfl (fun _ _ _ h => h) (Or.inl ⟨by rfl, ?_⟩) (by first | exact .inr (by assumption) | exact .inl (by kernel_rfl)) ?_
  rotate_left
  · (intro w hSw; (try dsimp only at hSw); go_simp; try with_reducible rfl)
  try simp only [Act.put, List.setIfInBounds_toArray, List.set_cons_zero, List.set_cons_succ]
  refine wpAnyR_take0 (i := 1) (oi := ⟨some 21, _, _, _, _, _⟩) (v := ?_) rfl (by kernel_rfl) (by kernel_rfl) (by kernel_rfl) rfl (fun _ _ _ h => h) (Or.inl ⟨by rfl, ?_⟩) (by first | exact .inr (by assumption) | exact .inl (by kernel_rfl)) ?_
  rotate_left
  · (intro w hSw; (try dsimp only at hSw); go_simp; try with_reducible rfl)
  try simp only [Act.put, List.setIfInBounds_toArray, List.set_cons_zero, List.set_cons_succ]
  refine wpAnyR_take0 (i := 2) (oi := ⟨some 22, _, _, _, _, _⟩) (v := ?_) rfl (by kernel_rfl) (by kernel_rfl) (by kernel_rfl) rfl (fun _ _ _ h => h) (Or.inl ⟨by rfl, ?_⟩) (by first | exact .inr (by assumption) | exact .inl (by kernel_rfl)) ?_
  rotate_left
  · (intro w hSw; (try dsimp only at hSw); go_simp; try with_reducible rfl)
  try simp only [Act.put, List.setIfInBounds_toArray, List.set_cons_zero, List.set_cons_succ]
  refine wpAnyR_take0 (i := 3) (oi := ⟨some 23, _, _, _, _, _⟩) (v := ?_) rfl (by kernel_rfl) (by kernel_rfl) (by kernel_rfl) rfl (fun _ _ _ h => h) (Or.inl ⟨by rfl, ?_⟩) (by first | exact .inr (by assumption) | exact .inl (by kernel_rfl)) ?_
  rotate_left
  · (intro w hSw; (try dsimp only at hSw); go_simp; try with_reducible rfl)
  try simp only [Act.put, List.setIfInBounds_toArray, List.set_cons_zero, List.set_cons_succ]
  refine wpAnyR_take0 (i := 4) (oi := ⟨some 24, _, _, _, _, _⟩) (v := ?_) rfl (by kernel_rfl) (by kernel_rfl) (by kernel_rfl) rfl (fun _ _ _ h => h) (Or.inl ⟨by rfl, ?_⟩) (by first | exact .inr (by assumption) | exact .inl (by kernel_rfl)) ?_
  rotate_left
  · (intro w hSw; (try dsimp only at hSw); go_simp; try with_reducible rfl)
  try simp only [Act.put, List.setIfInBounds_toArray, List.set_cons_zero, List.set_cons_succ]
  refine wpAnyR_take (i := 5) (oi := ⟨some 25, _, _, _, _, _⟩) (v := ?_) rfl (by kernel_rfl) (by kernel_rfl) (by kernel_rfl) rfl (by kernel_rfl) (by kernel_rfl) (fun _ _ _ h => h) (Or.inl ⟨by rfl, ?_⟩) (by assumption) ?_
  rotate_left
  · (intro w hSw; (try dsimp only at hSw); go_simp; try with_reducible rfl)
  try simp only [Act.put, List.setIfInBounds_toArray, List.set_cons_zero, List.set_cons_succ]
  refine wpAnyR_take0 (i := 6) (oi := ⟨some 26, _, _, _, _, _⟩) (v := ?_) rfl (by kernel_rfl) (by kernel_rfl) (by kernel_rfl) rfl (fun _ _ _ h => h) (Or.inl ⟨by rfl, ?_⟩) (by first | exact .inr (by assumption) | exact .inl (by kernel_rfl)) ?_
  rotate_left
  · (intro w hSw; (try dsimp only at hSw); go_simp; try with_reducible rfl)
  try simp only [Act.put, List.setIfInBounds_toArray, List.set_cons_zero, List.set_cons_succ]
  refine wpAnyR_take0 (i := 7) (oi := ⟨some 27, _, _, _, _, _⟩) (v := ?_) rfl (by kernel_rfl) (by kernel_rfl) (by kernel_rfl) rfl (fun _ _ _ h => h) (Or.inl ⟨by rfl, ?_⟩) (by first | exact .inr (by assumption) | exact .inl (by kernel_rfl)) ?_
  rotate_left
  · (intro w hSw; (try dsimp only at hSw); go_simp; try with_reducible rfl)
  try simp only [Act.put, List.setIfInBounds_toArray, List.set_cons_zero, List.set_cons_succ]
  refine wpAnyR_take (i := 8) (oi := ⟨some 28, _, _, _, _, _⟩) (v := ?_) rfl (by kernel_rfl) (by kernel_rfl) (by kernel_rfl) rfl (by kernel_rfl) (by kernel_rfl) (fun _ _ _ h => h) (Or.inl ⟨by rfl, ?_⟩) (by assumption) ?_
  rotate_left
  · (intro w hSw; (try dsimp only at hSw); go_simp; try with_reducible rfl)
  try simp only [Act.put, List.setIfInBounds_toArray, List.set_cons_zero, List.set_cons_succ]
  refine wpAnyR_take0 (i := 9) (oi := ⟨some 29, _, _, _, _, _⟩) (v := ?_) rfl (by kernel_rfl) (by kernel_rfl) (by kernel_rfl) rfl (fun _ _ _ h => h) (Or.inl ⟨by rfl, ?_⟩) (by first | exact .inr (by assumption) | exact .inl (by kernel_rfl)) ?_
  rotate_left
  · (intro w hSw; (try dsimp only at hSw); go_simp; try with_reducible rfl)
  try simp only [Act.put, List.setIfInBounds_toArray, List.set_cons_zero, List.set_cons_succ]
  refine wpAnyR_take0 (i := 10) (oi := ⟨some 30, _, _, _, _, _⟩) (v := ?_) rfl (by kernel_rfl) (by kernel_rfl) (by kernel_rfl) rfl (fun _ _ _ h => h) (Or.inl ⟨by rfl, ?_⟩) (by first | exact .inr (by assumption) | exact .inl (by kernel_rfl)) ?_
  rotate_left
  · (intro w hSw; (try dsimp only at hSw); go_simp; try with_reducible rfl)
  try simp only [Act.put, List.setIfInBounds_toArray, List.set_cons_zero, List.set_cons_succ]
  refine wpAnyR_take0 (i := 11) (oi := ⟨some 31, _, _, _, _, _⟩) (v := ?_) rfl (by kernel_rfl) (by kernel_rfl) (by kernel_rfl) rfl (fun _ _ _ h => h) (Or.inl ⟨by rfl, ?_⟩) (by first | exact .inr (by assumption) | exact .inl (by kernel_rfl)) ?_
  rotate_left
  · (intro w hSw; (try dsimp only at hSw); go_simp; try with_reducible rfl)
  try simp only [Act.put, List.setIfInBounds_toArray, List.set_cons_zero, List.set_cons_succ]
  refine wpAnyR_take (i := 12) (oi := ⟨some 32, _, _, _, _, _⟩) (v := ?_) rfl (by kernel_rfl) (by kernel_rfl) (by kernel_rfl) rfl (by kernel_rfl) (by kernel_rfl) (fun _ _ _ h => h) (Or.inl ⟨by rfl, ?_⟩) (by assumption) ?_
  rotate_left
  · (intro w hSw; (try dsimp only at hSw); go_simp; try with_reducible rfl)
  try simp only [Act.put, List.setIfInBounds_toArray, List.set_cons_zero, List.set_cons_succ]
  refine wpAnyR_take0 (i := 13) (oi := ⟨some 33, _, _, _, _, _⟩) (v := ?_) rfl (by kernel_rfl) (by kernel_rfl) (by kernel_rfl) rfl (fun _ _ _ h => h) (Or.inl ⟨by rfl, ?_⟩) (by first | exact .inr (by assumption) | exact .inl (by kernel_rfl)) ?_
  rotate_left
  · (intro w hSw; (try dsimp only at hSw); go_simp; try with_reducible rfl)
  try simp only [Act.put, List.setIfInBounds_toArray, List.set_cons_zero, List.set_cons_succ]
  refine wpAnyR_take0 (i := 14) (oi := ⟨some 34, _, _, _, _, _⟩) (v := ?_) rfl (by kernel_rfl) (by kernel_rfl) (by kernel_rfl) rfl (fun _ _ _ h => h) (Or.inl ⟨by rfl, ?_⟩) (by first | exact .inr (by assumption) | exact .inl (by kernel_rfl)) ?_
  rotate_left
  · (intro w hSw; (try dsimp only at hSw); go_simp; try with_reducible rfl)
  try simp only [Act.put, List.setIfInBounds_toArray, List.set_cons_zero, List.set_cons_succ]
  refine nextR 15 (by kernel_rfl) rfl (by rfl) fun K' HK' => ?_
  go_simp
  refine held_go HK' (.inr (hR)) (fun _ => ?_)
  clear HK'
  try simp only [Act.put, List.setIfInBounds_toArray, List.set_cons_zero, List.set_cons_succ]
  refine nextR 16 (by kernel_rfl) rfl (by rfl) fun K' HK' => ?_
  go_simp
  refine held_go HK' (.inr (hR)) (fun _ => ?_)
  clear HK'
  try simp only [Act.put, List.setIfInBounds_toArray, List.set_cons_zero, List.set_cons_succ]
  have hcd := hc0 _ hR
  have hfd := f0 _ hR
  have hcd1 := hc1 _ hR
  have hfd1 := f1 _ hR
  refine nextR 17 (by kernel_rfl) rfl (by rfl) fun K' HK' => ?_
  go_simp
  refine held_go HK' (.inl (by kernel_rfl)) (fun _ => ?_)
  clear HK'
  try simp only [Act.put, List.setIfInBounds_toArray, List.set_cons_zero, List.set_cons_succ]
  refine nextR 18 (by kernel_rfl) rfl (by rfl) fun K' HK' => ?_
  go_simp
  refine held_go HK' (.inl (by kernel_rfl)) (fun _ => ?_)
  clear HK'
  try simp only [Act.put, List.setIfInBounds_toArray, List.set_cons_zero, List.set_cons_succ]
  refine nextR 19 (by kernel_rfl) rfl (by rfl) fun K' HK' => ?_
  go_simp
  refine held_go HK' (.inl (by kernel_rfl)) (fun _ => ?_)
  clear HK'
  try simp only [Act.put, List.setIfInBounds_toArray, List.set_cons_zero, List.set_cons_succ]
  refine nextR 20 (by kernel_rfl) rfl (by rfl) fun K' HK' => ?_
  go_simp
  refine held_go HK' (.inl (by kernel_rfl)) (fun _ => ?_)
  clear HK'
  try simp only [Act.put, List.setIfInBounds_toArray, List.set_cons_zero, List.set_cons_succ]
  refine wpAnyR_done (by kernel_rfl) ?_ _
  clear hc0 hc1 hcb f0 f1 hcd hfd hcd1 hfd1 hR
  go_wp2_with fail
  go_ret
  have P1 := H.out.put HX.out.1 HX.out.2
  have P2 := P1.1.hold (vb' := .slice (some ⟨gb', 0, none⟩) D cb) (ts' := ts.take D) (bs' := bs) (Mvs.same (.inl rfl)) (by
    have h1 := P1.1.bo
    rw [HM.out] at h1
    have h2 := h1.take HDM.out
    rw [show (ts.take D).length = D by rw [List.length_take, HM.out]; exact Nat.min_eq_left HDM.out]
    exact h2) (by rw [List.length_take, HM.out, HD.out]; exact Nat.min_eq_left HDM.out) (fun j t l h1 h2 => by
    have hj : j < D := by have := (List.getElem?_eq_some_iff.1 h2).1; rwa [HD.out] at this
    rw [List.getElem?_take, if_pos hj] at h1
    exact P1.1.each j t l h1 (by rw [List.getElem?_append_left (by rw [HD.out]; exact hj)]; exact h2))
  refine ⟨rfl, _, ⟨_, _, _, _, _, _, P2.1.ext (by (repeat (first | assumption | exact Ext.refl _ | apply Ext.drew | apply Ext.drewN | apply Ext.alloc | refine Ext.trans ?_ (by assumption))); first | done | fail), rfl⟩, (P1.2.trans P2.2).post (by (repeat (first | assumption | exact Ext.refl _ | apply Ext.drew | apply Ext.drewN | apply Ext.alloc | refine Ext.trans ?_ (by assumption))); first | done | fail)⟩
end
end Go.Proofs.YthookcnkmlmgcaaGreatDoor
namespace Go.Proofs.YthookcnkmlmgcaaGreatDoor
open Go Go.RowKit
set_option maxRecDepth 4000

section
variable {w : World} {p : Nat} {m : BitVec 8} {G : List Nat} {rest : List (BitVec 8)} {bs : List (List (BitVec 8))} {kd : Bool}
set_option maxHeartbeats 4000000 in
theorem marked_none (h : Rr w p G [] bs) : Calls Tryz.prog 36 #[.pointer (some ⟨p, 0, none⟩), .int .u8 (ub m), .bool kd] w (ElN w 13) := by
  have hx0 : Ext w (w.alloc (.cells #[.slice none 0 0, .slice none 0 0, .slice none 0 0] elt)) := (by (repeat (first | assumption | exact Ext.refl _ | apply Ext.drew | apply Ext.drewN | apply Ext.alloc | refine Ext.trans ?_ (by assumption))); first | done | fail)
  have HB0 := Kp.mk (Blk.new w elt #[.slice none 0 0, .slice none 0 0, .slice none 0 0])
  have HX0 := Kp.mk hx0
  have NX := Kp.mk (fun u (hx : Ext w u) => Next_any (h.ext hx))
  obtain ⟨ds, A, n, c, vb, ts, h, rfl⟩ := h
  have hc0 := fun (w' : World) (hx : Ext w w') => h.blk.cell hx 0
  have hc00 := hc0 _ hx0
  have hl := h.rs.len
  obtain rfl : n = 0 := by simpa using hl.symm
  have EO := Kp.mk (fun u (_ : Ext w u) => elementOf_none (A := A) (c := c) (w := u))
  clear h hl
  have hnx : nxV [] = .tuple #[.int .u8 0, .bool false] := rfl
  rw [hnx] at NX
  go_enter Tryz.func36, Tryz.ntmps36
  go_wp2_with (first | (go_at_call 24; refine (NX.out _ HX0.out).mono ?_; rintro e w1 ⟨rfl, rfl⟩) | (go_at_call 49; refine (EO.out _ HX0.out).mono ?_; rintro e w2 ⟨rfl, hx2⟩; have HX2 := Kp.mk (HX0.out.trans hx2); have hx3 : Ext (w.alloc (.cells #[.slice none 0 0, .slice none 0 0, .slice none 0 0] elt)) ((w2.alloc (.cells #[.slice none 0 0, .slice none 0 0, .slice none 0 0] elt)).setRow w2.heap.size #[.slice none 0 0, .slice none 0 0, .slice none 0 0]) := (hx2.alloc _).setRow hx2.size _; have HX3 := Kp.mk (HX0.out.trans hx3); have HB3 := Kp.mk (HB0.out.ext hx3); have HN2 := Kp.mk (Blk.new w2 elt #[.slice none 0 0, .slice none 0 0, .slice none 0 0]); have HN3 := Kp.mk ((Blk.new w2 elt #[.slice none 0 0, .slice none 0 0, .slice none 0 0]).row #[.slice none 0 0, .slice none 0 0, .slice none 0 0]); have HY3 := Kp.mk (Ext.setRow ((by (repeat (first | assumption | exact Ext.refl _ | apply Ext.drew | apply Ext.drewN | apply Ext.alloc | refine Ext.trans ?_ (by assumption))); first | done | fail) : Ext w2 (w2.alloc (.cells #[.slice none 0 0, .slice none 0 0, .slice none 0 0] elt))) (Nat.le_refl _) #[.slice none 0 0, .slice none 0 0, .slice none 0 0]); clear hx2 hx3) | ((with_reducible refine at_store 10 31 ?_); refine wpList_store_row rfl elt _ _ rfl w2.heap.size #[.slice none 0 0, .slice none 0 0, .slice none 0 0] rfl rfl elt _ HN2.out.h szEl rfl (one_three _ _ _ _ _ _ _ _ _) ?_) | ((with_reducible refine at_store 6 35 ?_); refine wpList_store_row rfl elt _ _ rfl w.heap.size #[.slice none 0 0, .slice none 0 0, .slice none 0 0] rfl rfl elt _ HB3.out.h szEl rfl (one_three _ _ _ _ _ _ _ _ _) ?_) | fail)
  refine bodyPost_ret (results_el rfl _ _ w.heap.size _ _ _ _ rfl rfl (HB3.out.row _)) rfl ?_
  exact ⟨rfl, HX3.out.setRow (Nat.le_refl _) _⟩
set_option maxHeartbeats 4000000 in
/-- what stands there begins otherwise -/
theorem marked_kind (h : Rr w p G rest bs) (hr : rest ≠ []) (hm : gb rest 0 ≠ m) : Calls Tryz.prog 36 #[.pointer (some ⟨p, 0, none⟩), .int .u8 (ub m), .bool kd] w (ElN w 6) := by
  have hx0 : Ext w (w.alloc (.cells #[.slice none 0 0, .slice none 0 0, .slice none 0 0] elt)) := (by (repeat (first | assumption | exact Ext.refl _ | apply Ext.drew | apply Ext.drewN | apply Ext.alloc | refine Ext.trans ?_ (by assumption))); first | done | fail)
  have HB0 := Kp.mk (Blk.new w elt #[.slice none 0 0, .slice none 0 0, .slice none 0 0])
  have HX0 := Kp.mk hx0
  have NX := Kp.mk (fun u (hx : Ext w u) => Next_any (h.ext hx))
  obtain ⟨ds, A, n, c, vb, ts, h, rfl⟩ := h
  have hc0 := fun (w' : World) (hx : Ext w w') => h.blk.cell hx 0
  have hc00 := hc0 _ hx0
  have hl := h.rs.len
  have hnx : nxV rest = .tuple #[.int .u8 (ub (gb rest 0)), .bool true] := by
    unfold nxV
    rw [if_neg (fun e => hr (List.eq_nil_of_length_eq_zero e))]
  rw [hnx] at NX
  obtain ⟨d1, d2⟩ := ub_ne hm (ub m) rfl
  generalize gb rest 0 = x0 at *
  clear h hl hnx hm hr
  go_enter Tryz.func36, Tryz.ntmps36
  go_wp2_with (first | (go_at_call 24; refine (NX.out _ HX0.out).mono ?_; rintro e w1 ⟨rfl, rfl⟩) | ((with_reducible refine at_store 6 23 ?_); refine wpList_store_row rfl elt _ _ rfl w.heap.size #[.slice none 0 0, .slice none 0 0, .slice none 0 0] rfl rfl elt _ HB0.out.h szEl rfl (one_three _ _ _ _ _ _ _ _ _) ?_) | fail)
  refine bodyPost_ret (results_el rfl _ _ w.heap.size _ _ _ _ rfl rfl (HB0.out.row _)) rfl ?_
  exact ⟨rfl, HX0.out.setRow (Nat.le_refl _) _⟩
set_option maxHeartbeats 4000000 in
/-- it begins so, and no element is there -/
theorem marked_form (h : Rr w p G rest bs) (hr : rest ≠ []) (hm : gb rest 0 = m) (hx : rest.length ≤ 1000000000000) (he : ¬ ∃ m x r, El rest m x r) : Calls Tryz.prog 36 #[.pointer (some ⟨p, 0, none⟩), .int .u8 (ub m), .bool kd] w (ElN w 2) := by
  have hx0 : Ext w (w.alloc (.cells #[.slice none 0 0, .slice none 0 0, .slice none 0 0] elt)) := (by (repeat (first | assumption | exact Ext.refl _ | apply Ext.drew | apply Ext.drewN | apply Ext.alloc | refine Ext.trans ?_ (by assumption))); first | done | fail)
  have HB0 := Kp.mk (Blk.new w elt #[.slice none 0 0, .slice none 0 0, .slice none 0 0])
  have HX0 := Kp.mk hx0
  have NX := Kp.mk (fun u (hx : Ext w u) => Next_any (h.ext hx))
  obtain ⟨ds, A, n, c, vb, ts, h, rfl⟩ := h
  have hc0 := fun (w' : World) (hx : Ext w w') => h.blk.cell hx 0
  have hc00 := hc0 _ hx0
  have hl := h.rs.len
  have hnx : nxV rest = .tuple #[.int .u8 (ub m), .bool true] := by
    unfold nxV
    rw [if_neg (fun e => hr (List.eq_nil_of_length_eq_zero e)), hm]
  rw [hnx] at NX
  have hn : 0 < n := by have := List.length_pos_iff.2 hr; omega
  have EO := Kp.mk (fun u (hx : Ext w u) => elementOf_form (h.rs.ext hx) hn (by omega) he)
  clear h hl hnx hm hr hn hx he
  go_enter Tryz.func36, Tryz.ntmps36
  go_wp2_with (first | (go_at_call 24; refine (NX.out _ HX0.out).mono ?_; rintro e w1 ⟨rfl, rfl⟩) | (go_at_call 49; refine (EO.out _ HX0.out).mono ?_; rintro e w2 ⟨rfl, hx2⟩; have HX2 := Kp.mk (HX0.out.trans hx2); have hx3 : Ext (w.alloc (.cells #[.slice none 0 0, .slice none 0 0, .slice none 0 0] elt)) ((w2.alloc (.cells #[.slice none 0 0, .slice none 0 0, .slice none 0 0] elt)).setRow w2.heap.size #[.slice none 0 0, .slice none 0 0, .slice none 0 0]) := (hx2.alloc _).setRow hx2.size _; have HX3 := Kp.mk (HX0.out.trans hx3); have HB3 := Kp.mk (HB0.out.ext hx3); have HN2 := Kp.mk (Blk.new w2 elt #[.slice none 0 0, .slice none 0 0, .slice none 0 0]); have HN3 := Kp.mk ((Blk.new w2 elt #[.slice none 0 0, .slice none 0 0, .slice none 0 0]).row #[.slice none 0 0, .slice none 0 0, .slice none 0 0]); have HY3 := Kp.mk (Ext.setRow ((by (repeat (first | assumption | exact Ext.refl _ | apply Ext.drew | apply Ext.drewN | apply Ext.alloc | refine Ext.trans ?_ (by assumption))); first | done | fail) : Ext w2 (w2.alloc (.cells #[.slice none 0 0, .slice none 0 0, .slice none 0 0] elt))) (Nat.le_refl _) #[.slice none 0 0, .slice none 0 0, .slice none 0 0]); clear hx2 hx3) | ((with_reducible refine at_store 10 31 ?_); refine wpList_store_row rfl elt _ _ rfl w2.heap.size #[.slice none 0 0, .slice none 0 0, .slice none 0 0] rfl rfl elt _ HN2.out.h szEl rfl (one_three _ _ _ _ _ _ _ _ _) ?_) | ((with_reducible refine at_store 6 35 ?_); refine wpList_store_row rfl elt _ _ rfl w.heap.size #[.slice none 0 0, .slice none 0 0, .slice none 0 0] rfl rfl elt _ HB3.out.h szEl rfl (one_three _ _ _ _ _ _ _ _ _) ?_) | fail)
  refine bodyPost_ret (results_el rfl _ _ w.heap.size _ _ _ _ rfl rfl (HB3.out.row _)) rfl ?_
  exact ⟨rfl, HX3.out.setRow (Nat.le_refl _) _⟩
set_option maxHeartbeats 4000000 in
/-- an element is there, of the other kind -/
theorem marked_other {x r : List (BitVec 8)} (h : Rr w p G rest bs) (hx : rest.length ≤ 1000000000000) (he : El rest m x r) : Calls Tryz.prog 36 #[.pointer (some ⟨p, 0, none⟩), .int .u8 (ub m), .bool false] w (ElN w 2) := by
  have hx0 : Ext w (w.alloc (.cells #[.slice none 0 0, .slice none 0 0, .slice none 0 0] elt)) := (by (repeat (first | assumption | exact Ext.refl _ | apply Ext.drew | apply Ext.drewN | apply Ext.alloc | refine Ext.trans ?_ (by assumption))); first | done | fail)
  have HB0 := Kp.mk (Blk.new w elt #[.slice none 0 0, .slice none 0 0, .slice none 0 0])
  have HX0 := Kp.mk hx0
  have NX := Kp.mk (fun u (hx : Ext w u) => Next_any (h.ext hx))
  obtain ⟨ds, A, n, c, vb, ts, h, rfl⟩ := h
  have hc0 := fun (w' : World) (hx : Ext w w') => h.blk.cell hx 0
  have hc00 := hc0 _ hx0
  have hl := h.rs.len
  have hp := el_parts he
  have hlo := hdn_lo x.length
  have hnx : nxV rest = .tuple #[.int .u8 (ub m), .bool true] := by
    unfold nxV
    rw [if_neg (by omega), hp.1]
  rw [hnx] at NX
  have EO := Kp.mk (fun u (hx : Ext w u) => elementOf_ok (h.rs.ext hx) h.ri (by omega) he)
  clear h hl hnx hp hlo hx he
  go_enter Tryz.func36, Tryz.ntmps36
  go_wp2_with (first | (go_at_call 24; refine (NX.out _ HX0.out).mono ?_; rintro e w1 ⟨rfl, rfl⟩) | (go_at_call 49; refine (EO.out _ HX0.out).mono ?_; rintro e w2 ⟨A1, n1, c1, A2, n2, c2, A3, n3, c3, rfl, q1, q2, q3, j1, j2, j3, hx2⟩; have Q1 := Kp.mk q1; have Q2 := Kp.mk q2; have Q3 := Kp.mk q3; clear q1 q2 q3; have HX2 := Kp.mk (HX0.out.trans hx2); have hx3 : Ext (w.alloc (.cells #[.slice none 0 0, .slice none 0 0, .slice none 0 0] elt)) ((w2.alloc (.cells #[.slice none 0 0, .slice none 0 0, .slice none 0 0] elt)).setRow w2.heap.size #[.slice A1 n1 c1, .slice A2 n2 c2, .slice A3 n3 c3]) := (hx2.alloc _).setRow hx2.size _; have HX3 := Kp.mk (HX0.out.trans hx3); have HB3 := Kp.mk (HB0.out.ext hx3); have HN2 := Kp.mk (Blk.new w2 elt #[.slice none 0 0, .slice none 0 0, .slice none 0 0]); have HN3 := Kp.mk ((Blk.new w2 elt #[.slice none 0 0, .slice none 0 0, .slice none 0 0]).row #[.slice A1 n1 c1, .slice A2 n2 c2, .slice A3 n3 c3]); have HY3 := Kp.mk (Ext.setRow ((by (repeat (first | assumption | exact Ext.refl _ | apply Ext.drew | apply Ext.drewN | apply Ext.alloc | refine Ext.trans ?_ (by assumption))); first | done | fail) : Ext w2 (w2.alloc (.cells #[.slice none 0 0, .slice none 0 0, .slice none 0 0] elt))) (Nat.le_refl _) #[.slice A1 n1 c1, .slice A2 n2 c2, .slice A3 n3 c3]); clear hx2 hx3) | ((with_reducible refine at_store 10 31 ?_); refine wpList_store_row rfl elt _ _ rfl w2.heap.size #[.slice A1 n1 c1, .slice A2 n2 c2, .slice A3 n3 c3] rfl rfl elt _ HN2.out.h szEl rfl (one_three _ _ _ _ _ _ _ _ _) ?_) | ((with_reducible refine at_store 6 39 ?_); refine wpList_store_row rfl elt _ _ rfl w.heap.size #[.slice none 0 0, .slice none 0 0, .slice none 0 0] rfl rfl elt _ HB3.out.h szEl rfl (one_three _ _ _ _ _ _ _ _ _) ?_) | fail)
  refine bodyPost_ret (results_el rfl _ _ w.heap.size _ _ _ _ rfl rfl (HB3.out.row _)) rfl ?_
  exact ⟨rfl, HX3.out.setRow (Nat.le_refl _) _⟩
set_option maxHeartbeats 4000000 in
/-- an element is there, of the kind that is asked for -/
theorem marked_ok {x r : List (BitVec 8)} {ds : List Nat} {A : Option Addr} {n c : Nat} {vb : Value} {ts : List (Option Addr × Nat × Nat)} (h : Rt w p ds A n c vb rest ts bs) (hx : rest.length ≤ 1000000000000) (he : El rest m x r) : Calls Tryz.prog 36 #[.pointer (some ⟨p, 0, none⟩), .int .u8 (ub m), .bool true] w (ElR w ds m x r) := by
  have hx0 : Ext w (w.alloc (.cells #[.slice none 0 0, .slice none 0 0, .slice none 0 0] elt)) := (by (repeat (first | assumption | exact Ext.refl _ | apply Ext.drew | apply Ext.drewN | apply Ext.alloc | refine Ext.trans ?_ (by assumption))); first | done | fail)
  have HB0 := Kp.mk (Blk.new w elt #[.slice none 0 0, .slice none 0 0, .slice none 0 0])
  have HX0 := Kp.mk hx0
  have NX := Kp.mk (fun u (hx : Ext w u) => Next_any (⟨_, _, _, _, _, _, h.ext hx, rfl⟩ : Rr u p (fpR p vb ds) rest bs))
  have hc0 := fun (w' : World) (hx : Ext w w') => h.blk.cell hx 0
  have hc00 := hc0 _ hx0
  have hl := h.rs.len
  have hp := el_parts he
  have hlo := hdn_lo x.length
  have hnx : nxV rest = .tuple #[.int .u8 (ub m), .bool true] := by
    unfold nxV
    rw [if_neg (by omega), hp.1]
  rw [hnx] at NX
  have HI := Kp.mk h.hid
  have EO := Kp.mk (fun u (hx : Ext w u) => elementOf_ok (h.rs.ext hx) h.ri (by omega) he)
  clear h hl hnx hp hlo hx he
  go_enter Tryz.func36, Tryz.ntmps36
  go_wp2_with (first | (go_at_call 24; refine (NX.out _ HX0.out).mono ?_; rintro e w1 ⟨rfl, rfl⟩) | (go_at_call 49; refine (EO.out _ HX0.out).mono ?_; rintro e w2 ⟨A1, n1, c1, A2, n2, c2, A3, n3, c3, rfl, q1, q2, q3, j1, j2, j3, hx2⟩; have Q1 := Kp.mk q1; have Q2 := Kp.mk q2; have Q3 := Kp.mk q3; clear q1 q2 q3; have HX2 := Kp.mk (HX0.out.trans hx2); have hx3 : Ext (w.alloc (.cells #[.slice none 0 0, .slice none 0 0, .slice none 0 0] elt)) ((w2.alloc (.cells #[.slice none 0 0, .slice none 0 0, .slice none 0 0] elt)).setRow w2.heap.size #[.slice A1 n1 c1, .slice A2 n2 c2, .slice A3 n3 c3]) := (hx2.alloc _).setRow hx2.size _; have HX3 := Kp.mk (HX0.out.trans hx3); have HB3 := Kp.mk (HB0.out.ext hx3); have HN2 := Kp.mk (Blk.new w2 elt #[.slice none 0 0, .slice none 0 0, .slice none 0 0]); have HN3 := Kp.mk ((Blk.new w2 elt #[.slice none 0 0, .slice none 0 0, .slice none 0 0]).row #[.slice A1 n1 c1, .slice A2 n2 c2, .slice A3 n3 c3]); have HY3 := Kp.mk (Ext.setRow ((by (repeat (first | assumption | exact Ext.refl _ | apply Ext.drew | apply Ext.drewN | apply Ext.alloc | refine Ext.trans ?_ (by assumption))); first | done | fail) : Ext w2 (w2.alloc (.cells #[.slice none 0 0, .slice none 0 0, .slice none 0 0] elt))) (Nat.le_refl _) #[.slice A1 n1 c1, .slice A2 n2 c2, .slice A3 n3 c3]); clear hx2 hx3) | ((with_reducible refine at_store 10 31 ?_); refine wpList_store_row rfl elt _ _ rfl w2.heap.size #[.slice A1 n1 c1, .slice A2 n2 c2, .slice A3 n3 c3] rfl rfl elt _ HN2.out.h szEl rfl (one_three _ _ _ _ _ _ _ _ _) ?_) | ((with_reducible refine at_load_to 41 10 ?_); refine wpList_load_row rfl elt _ rfl w2.heap.size rfl elt #[.slice A1 n1 c1, .slice A2 n2 c2, .slice A3 n3 c3] (0, 0) _ HN3.out.h Tryz.underlying77 rfl szEl ?_) | ((with_reducible refine at_store 6 41 ?_); refine wpList_store_row rfl elt _ _ rfl w.heap.size #[.slice A1 n1 c1, .slice A2 n2 c2, .slice A3 n3 c3] rfl rfl elt _ HB3.out.h szEl rfl (one_three _ _ _ _ _ _ _ _ _) ?_) | fail)
  refine bodyPost_ret (results_el rfl _ _ w.heap.size _ _ _ _ rfl rfl (HB3.out.row _)) rfl ?_
  have hz := HX3.out.setRow (Nat.le_refl _) #[Value.slice A1 n1 c1, .slice A2 n2 c2, .slice A3 n3 c3]
  have hy := (HY3.out.mds [w.heap.size]).setRow (g := w.heap.size) (by simp) #[Value.slice A1 n1 c1, .slice A2 n2 c2, .slice A3 n3 c3]
  have ha : Ap ds [w.heap.size] := fun k hk h1 => by
    have := HI.out k hk
    rw [List.mem_singleton.1 h1] at this
    exact Nat.lt_irrefl _ this
  exact ⟨_, _, _, _, _, _, _, _, _, rfl, Q1.out.mds hy (j1.off ha), Q2.out.mds hy (j2.off ha), Q3.out.mds hy (j3.off ha), j1, j2, j3, hz⟩
end
end Go.Proofs.YthookcnkmlmgcaaGreatDoor
namespace Go.Proofs.YthookcnkmlmgcaaGreatDoor
open Go Go.RowKit
set_option maxRecDepth 4000

section
variable {w : World} {p : Nat} {m : BitVec 8} {G : List Nat} {rest : List (BitVec 8)} {bs : List (List (BitVec 8))}
/-- what marked tells where the element that is asked for isn't there -/
def erC (rest : List (BitVec 8)) (m : BitVec 8) : Nat := if rest.length = 0 then 13 else if gb rest 0 = m then 2 else 6
theorem marked_bad (kd : Bool) (h : Rr w p G rest bs) (hx : rest.length ≤ 1000000000000) (he : ¬ (kd = true ∧ ∃ x r, El rest m x r)) : Calls Tryz.prog 36 #[.pointer (some ⟨p, 0, none⟩), .int .u8 (ub m), .bool kd] w (ElN w (erC rest m)) := by
  unfold erC
  by_cases h0 : rest.length = 0
  · obtain rfl : rest = [] := List.eq_nil_of_length_eq_zero h0
    rw [if_pos h0]
    exact marked_none h
  · rw [if_neg h0]
    have hr : rest ≠ [] := fun e => h0 (by rw [e]; rfl)
    by_cases hm : gb rest 0 = m
    · rw [if_pos hm]
      by_cases hel : ∃ m' x r, El rest m' x r
      · obtain ⟨m', x, r, hel⟩ := hel
        obtain rfl : m = m' := by rw [← hm]; exact (el_parts hel).1
        cases kd with
        | false => exact marked_other h hx hel
        | true => exact absurd ⟨rfl, x, r, hel⟩ he
      · exact marked_form h hr hm hx hel
    · rw [if_neg hm]
      exact marked_kind h hr hm
set_option maxHeartbeats 2000000 in
theorem Take_err (h : Rr w p G rest bs) (hx : rest.length ≤ 1000000000000) (he : ¬ (isP m = true ∧ ∃ x r, El rest m x r)) : Calls Tryz.prog 38 #[.pointer (some ⟨p, 0, none⟩), .int .u8 (ub m)] w fun e w' => e = .returned (.tuple #[.slice none 0 0, err (erC rest m)]) ∧ Ext w w' := by
  have C := Kp.mk (marked_bad (m := m) (isP m) h hx he)
  generalize erC rest m = k at *
  obtain ⟨kd, hk⟩ : ∃ kd, isP m = kd := ⟨_, rfl⟩
  rw [hk] at C
  clear h hx he
  go_enter Tryz.func38, Tryz.ntmps38
  go_wp2_with (first | (go_at_call 51; refine (isPart_any m kd hk _).mono ?_; rintro e w1 ⟨rfl, rfl⟩) | (go_at_call 36; refine C.out.mono ?_; rintro e w2 ⟨rfl, hx2⟩; have HX2 := Kp.mk hx2; have HN2 := Kp.mk (Blk.new w2 elt #[.slice none 0 0, .slice none 0 0, .slice none 0 0]); clear hx2) | ((with_reducible refine at_store 6 14 ?_); refine wpList_store_row rfl elt _ _ rfl w2.heap.size #[.slice none 0 0, .slice none 0 0, .slice none 0 0] rfl rfl elt _ HN2.out.h szEl rfl (one_three _ _ _ _ _ _ _ _ _) ?_) | fail)
  go_ret2
  exact ⟨rfl, HX2.out.trans (Ext.setRow ((by (repeat (first | assumption | exact Ext.refl _ | apply Ext.drew | apply Ext.drewN | apply Ext.alloc | refine Ext.trans ?_ (by assumption))); first | done | fail) : Ext w2 (w2.alloc (.cells #[.slice none 0 0, .slice none 0 0, .slice none 0 0] elt))) (Nat.le_refl _) _)⟩
/-- how Take answers where it takes -/
def TakR (w : World) (p : Nat) (G : List Nat) (x r : List (BitVec 8)) (bs : List (List (BitVec 8))) (e : Ending) (w' : World) : Prop :=
  ∃ A n c, e = .returned (.tuple #[.slice A n c, .nilIface]) ∧ Own w' w.heap.size (.slice A n c) n x ∧ Rr w' p G r bs ∧ Mds G w w'
set_option maxHeartbeats 4000000 in
theorem Take_ok {x r : List (BitVec 8)} (h : Rr w p G rest bs) (hx : rest.length ≤ 1000000000000) (hm : isP m = true) (he : El rest m x r) : Calls Tryz.prog 38 #[.pointer (some ⟨p, 0, none⟩), .int .u8 (ub m)] w (TakR w p G x r bs) := by
  obtain ⟨ds, A, n, c, vb, ts, h, rfl⟩ := h
  have C := Kp.mk (marked_ok h hx he)
  have hc0 := fun (w' : World) (hx : Ext w w') => h.blk.cell hx 0
  have hf0 := fun (w' : World) (hx : Ext w w') => h.blk.free hx 0
  have hxl := Kp.mk he.2.1
  have H := Kp.mk h
  have HPL := Kp.mk h.blk.lt
  clear h hx he
  go_enter Tryz.func38, Tryz.ntmps38
  go_wp2_with (first | (go_at_call 51; refine (isPart_any m true hm _).mono ?_; rintro e w1 ⟨rfl, rfl⟩) | (go_at_call 36; refine C.out.mono ?_; rintro e w2 ⟨A1, n1, c1, A2, n2, c2, A3, n3, c3, rfl, q1, q2, q3, j1, j2, j3, hx2⟩; have HX2 := Kp.mk hx2; have HN2 := Kp.mk (Blk.new w2 elt #[.slice none 0 0, .slice none 0 0, .slice none 0 0]); have HN3 := Kp.mk ((Blk.new w2 elt #[.slice none 0 0, .slice none 0 0, .slice none 0 0]).row #[.slice A1 n1 c1, .slice A2 n2 c2, .slice A3 n3 c3]); have HY3 := Kp.mk (Ext.setRow ((by (repeat (first | assumption | exact Ext.refl _ | apply Ext.drew | apply Ext.drewN | apply Ext.alloc | refine Ext.trans ?_ (by assumption))); first | done | fail) : Ext w2 (w2.alloc (.cells #[.slice none 0 0, .slice none 0 0, .slice none 0 0] elt))) (Nat.le_refl _) #[.slice A1 n1 c1, .slice A2 n2 c2, .slice A3 n3 c3]); have Q2 := Kp.mk q2; have Q3 := Kp.mk q3; have J2 := Kp.mk j2; have J3 := Kp.mk j3; clear q1 q2 q3 j1 j2 j3 hx2) | ((with_reducible refine at_store 6 14 ?_); refine wpList_store_row rfl elt _ _ rfl w2.heap.size #[.slice A1 n1 c1, .slice A2 n2 c2, .slice A3 n3 c3] rfl rfl elt _ HN2.out.h szEl rfl (one_three _ _ _ _ _ _ _ _ _) ?_; generalize (w2.alloc (.cells #[.slice none 0 0, .slice none 0 0, .slice none 0 0] elt)).setRow w2.heap.size #[.slice A1 n1 c1, .slice A2 n2 c2, .slice A3 n3 c3] = w3 at *; have HX3 := Kp.mk (HX2.out.trans HY3.out); have hk2 := HN3.out.h.cell 2; have hc3 := hc0 w3 HX3.out; have hf3 := hf0 w3 HX3.out; have hne : w2.heap.size ≠ p := fun e => Nat.lt_irrefl _ (Nat.lt_of_lt_of_le HPL.out (e ▸ HX2.out.size)); have hk1 := (HN3.out.far (p := ⟨p, 0, none⟩) hne (.slice A3 n3 c3)).h.cell 1; have W4 := Kp.mk ((H.out.ext HX3.out).put (Q3.out.ext HY3.out) J3.out); have CL := Kp.mk (Clone_any ((Q2.out.ext HY3.out).mds ((Mds.refl [p] w3).setCell (p := ⟨p, 0, none⟩) (by simp) (.slice A3 n3 c3)) (J2.out.off (fun k hk h1 => H.out.apd k hk (by rw [List.mem_singleton.1 h1]; simp)))) (by have h1 := Q2.out.len; have h2 := hxl.out; omega)); clear hne) | (go_at_call 22; refine CL.out.mono ?_; rintro e w5 ⟨A5, c5, rfl, hs5, ho5, hx5⟩) | fail)
  go_ret2
  exact ⟨_, _, _, rfl, ho5.lower (Nat.le_trans HX3.out.size W4.out.2.m.size), ⟨_, _, _, _, _, _, W4.out.1.ext hx5, rfl⟩, (HX3.out.mds _).trans (W4.out.2.m.trans (hx5.mds _))⟩
end
end Go.Proofs.YthookcnkmlmgcaaGreatDoor
