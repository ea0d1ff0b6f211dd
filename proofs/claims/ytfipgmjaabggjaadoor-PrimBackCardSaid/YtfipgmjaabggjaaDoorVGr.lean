/-
  A region that draws its order, all of whose operations but the last one make memory or read: whatever the order, each slot holds what its operation tells.
-/
import Derived.Test.YtfipgmjaabggjaaDoorM1
namespace Go.Proofs.YtfipgmjaabggjaaDoor
open Go Go.RowKit
set_option maxRecDepth 4000

theorem getD_set (l : Array Bool) (i j : Nat) (hi : i < l.size) (d : Bool) : (l.setIfInBounds i true).getD j d = if j = i then true else l.getD j d := by
  simp only [Array.getD_eq_getD_getElem?, Array.getElem?_setIfInBounds]
  by_cases h : i = j
  · subst h
    simp [hi]
  · rw [if_neg h, if_neg (fun e => h e.symm)]
theorem countP_lt {l : List Nat} {p q : Nat → Bool} {x : Nat} (hx : x ∈ l) (h : ∀ j, p j = true → q j = true) (hp : p x = false) (hq : q x = true) : l.countP p < l.countP q := by
  induction l with
  | nil => cases hx
  | cons y r ih =>
    have hle : r.countP p ≤ r.countP q := List.countP_mono_left fun j _ => h j
    rw [List.countP_cons, List.countP_cons]
    rcases List.mem_cons.1 hx with rfl | hm
    · rw [hp, hq]
      simp
      omega
    · have h1 := ih hm
      cases hpy : p y with
      | false => simp; split <;> omega
      | true => rw [h y hpy]; simp; omega
/-- what holds of a state of such a region: L is the last operation, ds the slots, Pr what an operation's value is -/
structure Grw (ops : Array Oper) (ds : Nat → Nat) (L : Nat) (w0 : World) (a0 : Act) (Pr : Nat → Value → World → Prop) (listed : Array Bool) (a : Act) (w : World) : Prop where
  size : listed.size = L + 1
  un : listed.getD L true = false
  ext : Ext w0 w
  tm : a.tmps.size = a0.tmps.size
  df : a.defers = a0.defers
  old : ∀ s, (∀ i, i < L → ds i ≠ s) → a.tmps[s]? = a0.tmps[s]?
  pr : ∀ i, i < L → listed.getD i true = true → Pr i (a.tmps.getD (ds i) undef) w
/-- what the region is -/
structure Grs (md : Region.Mode) (ops : Array Oper) (ds : Nat → Nat) (L : Nat) (a0 : Act) (Pr : Nat → Value → World → Prop) : Prop where
  size : ops.size = L + 1
  guard : ∀ (i : Nat) (o : Oper), ops[i]? = some o → o.guard = none
  back : ∀ (i : Nat) (o : Oper), ops[i]? = some o → ∀ e ∈ o.after, e.on < i
  dst : ∀ (i : Nat) (o : Oper), i < L → ops[i]? = some o → o.dst = some (ds i)
  inj : ∀ i j, i < L → j < L → ds i = ds j → i = j
  fit : ∀ i, i < L → ds i < a0.tmps.size
  last : ∀ (o : Oper), ops[L]? = some o → ∀ j, j < L → ∃ e ∈ o.after, e.on = j ∧ Region.binds md e = true
  keep : ∀ i v w w', Pr i v w → Ext w w' → Pr i v w'
theorem Grw.put {ops : Array Oper} {ds : Nat → Nat} {L : Nat} {w0 w w' : World} {a0 a : Act} {Pr : Nat → Value → World → Prop} {listed : Array Bool} {md : Region.Mode} (h : Grw ops ds L w0 a0 Pr listed a w) (hs : Grs md ops ds L a0 Pr)
    {i : Nat} (hi : i < L) {v : Value} (hx : Ext w w') (hv : Pr i v w') : Grw ops ds L w0 a0 Pr (listed.setIfInBounds i true) (a.put (some (ds i)) v) w' := by
  have hsz := h.size
  refine ⟨by simpa using h.size, ?_, h.ext.trans hx, by simpa [Act.put] using h.tm, by simpa [Act.put] using h.df, fun s hsn => ?_, fun j hj hl => ?_⟩
  · rw [getD_set _ _ _ (by omega), if_neg (by omega)]
    exact h.un
  · have h1 := hsn i hi
    simp only [Act.put, Array.getElem?_setIfInBounds]
    rw [if_neg h1]
    exact h.old s hsn
  · by_cases hji : j = i
    · subst hji
      have h1 : ds j < a.tmps.size := by rw [h.tm]; exact hs.fit j hj
      have h2 : (a.put (some (ds j)) v).tmps.getD (ds j) undef = v := by
        simp [Act.put, Array.getD_eq_getD_getElem?, Array.getElem?_setIfInBounds, h1]
      rw [h2]
      exact hv
    · have h1 : ds i ≠ ds j := fun e => hji (hs.inj i j hi hj e).symm
      have h2 : (a.put (some (ds i)) v).tmps.getD (ds j) undef = a.tmps.getD (ds j) undef := by
        simp only [Act.put, Array.getD_eq_getD_getElem?, Array.getElem?_setIfInBounds]
        rw [if_neg h1]
      rw [h2]
      rw [getD_set _ _ _ (by omega), if_neg hji] at hl
      exact hs.keep _ _ _ _ (h.pr j hj hl) hx
theorem grow_region {P : Program} {md : Region.Mode} {ops : Array Oper} {Q : Exit → Act → World → Prop} {ds : Nat → Nat} {L : Nat} {w0 : World} {a0 : Act} {Pr : Nat → Value → World → Prop} (hs : Grs md ops ds L a0 Pr)
    (step : ∀ (i : Nat) (o : Oper), i < L → ops[i]? = some o → ∀ (a : Act) (w : World), Ext w0 w → (∀ s, (∀ j, j < L → ds j ≠ s) → a.tmps[s]? = a0.tmps[s]?) → (∀ e ∈ o.after, Region.binds md e = true → ∃ v, a.tmps[ds e.on]? = some v ∧ Pr e.on v w) →
      o.wp P a w (fun a' w' => ∃ v, a' = a.put (some (ds i)) v ∧ Ext w w' ∧ Pr i v w') Q)
    (fin : ∀ (o : Oper), ops[L]? = some o → ∀ (a : Act) (w : World), Ext w0 w → a.tmps.size = a0.tmps.size → a.defers = a0.defers → (∀ s, (∀ j, j < L → ds j ≠ s) → a.tmps[s]? = a0.tmps[s]?) → (∀ j, j < L → ∃ v, a.tmps[ds j]? = some v ∧ Pr j v w) →
      o.wp P a w (fun a' w' => Ext w0 w' ∧ Q .normal a' w') Q) :
    ∀ (fuel : Nat) (listed : Array Bool) (a : Act) (w : World), Grw ops ds L w0 a0 Pr listed a w → ((List.range (L + 1)).countP fun i => !listed.getD i true) ≤ fuel → wpAnyH P md ops Q (fun w' => Ext w0 w') fuel listed a w := by
  intro fuel
  induction fuel with
  | zero =>
    intro listed a w h hc
    have h1 : L ∈ List.range (L + 1) := by simp
    have h2 := List.countP_eq_zero.1 (Nat.le_zero.1 hc) L h1
    rw [h.un] at h2
    simp at h2
  | succ f ih =>
    intro listed a w h hc
    have hsz := h.size
    refine ⟨fun hr => ?_, fun i hir => ?_⟩
    · exfalso
      -- the first one that hasn't come up is ready
      have hex : ∃ n, n ≤ L ∧ listed.getD n true = false ∧ ∀ m, m < n → listed.getD m true = true := by
        have : ∀ n, n ≤ L + 1 → (∃ m, m < n ∧ listed.getD m true = false ∧ ∀ k, k < m → listed.getD k true = true) ∨ (∀ m, m < n → listed.getD m true = true) := by
          intro n
          induction n with
          | zero => intro _; exact .inr fun m hm => absurd hm (Nat.not_lt_zero _)
          | succ n ihn =>
            intro hn
            rcases ihn (by omega) with ⟨m, h1, h2, h3⟩ | h1
            · exact .inl ⟨m, by omega, h2, h3⟩
            · cases hq : listed.getD n true with
              | false => exact .inl ⟨n, by omega, hq, h1⟩
              | true =>
                refine .inr fun m hm => ?_
                rcases Nat.lt_or_ge m n with h2 | h2
                · exact h1 m h2
                · rw [show m = n by omega]
                  exact hq
        rcases this (L + 1) (Nat.le_refl _) with ⟨m, h1, h2, h3⟩ | h1
        · exact ⟨m, by omega, h2, h3⟩
        · have := h1 L (by omega)
          rw [h.un] at this
          cases this
      obtain ⟨n, hn, hun, hall⟩ := hex
      have hlt : n < ops.size := by rw [hs.size]; omega
      have hmem : n ∈ Region.ready md ops listed := by
        rw [mem_ready]
        refine ⟨hun, ops[n], by simp [hlt], fun e he _ => ?_⟩
        have h1 := hs.back n ops[n] (by simp [hlt]) e he
        have h2 := hall e.on h1
        rw [Array.getD_eq_getD_getElem?] at h2 ⊢
        have h3 : e.on < listed.size := by omega
        rw [Array.getElem?_eq_getElem h3] at h2 ⊢
        exact h2
      rw [hr] at hmem
      cases hmem
    · obtain ⟨hun, o, ho, hall⟩ := mem_ready.1 hir
      have hio : i < ops.size := (Array.getElem?_eq_some_iff.1 ho).1
      rw [hs.size] at hio
      have hw : Region.wanted o (yielded ops a.tmps) = true := by simp [Region.wanted, hs.guard i o ho]
      have hlist : ∀ e ∈ o.after, Region.binds md e = true → listed.getD e.on true = true := fun e he hb => by
        have h1 := hall e he hb
        have h2 := hs.back i o ho e he
        have h3 : e.on < listed.size := by omega
        rw [Array.getD_eq_getD_getElem?, Array.getElem?_eq_getElem h3] at h1 ⊢
        exact h1
      have hin : ∀ j, j < L → a.tmps[ds j]? = some (a.tmps.getD (ds j) undef) := fun j hj => by
        have h1 : ds j < a.tmps.size := by rw [h.tm]; exact hs.fit j hj
        simp [Array.getD_eq_getD_getElem?, h1]
      have hcnt : ((List.range (L + 1)).countP fun j => !(listed.setIfInBounds i true).getD j true) ≤ f := by
        have h1 : (List.range (L + 1)).countP (fun j => !(listed.setIfInBounds i true).getD j true) < (List.range (L + 1)).countP (fun j => !listed.getD j true) := by
          refine countP_lt (x := i) (by simp; omega) (fun j hj => ?_) ?_ ?_
          · rw [getD_set _ _ _ (by omega)] at hj
            by_cases e : j = i
            · rw [if_pos e] at hj; simp at hj
            · rw [if_neg e] at hj; exact hj
          · rw [getD_set _ _ _ (by omega), if_pos rfl]; rfl
          · rw [hun]; rfl
        omega
      unfold wpOp
      rw [ho]
      simp only [hw, if_true]
      left
      rcases Nat.lt_or_ge i L with hiL | hiL
      · refine Oper.wp_mono (fun a' w' hk => ?_) (step i o hiL ho a w h.ext h.old (fun e he hb => ⟨_, hin e.on (by have := hs.back i o ho e he; omega), h.pr e.on (by have := hs.back i o ho e he; omega) (hlist e he hb)⟩))
        obtain ⟨v, rfl, hx, hv⟩ := hk
        exact ⟨h.ext.trans hx, ih _ _ _ (h.put hs hiL hx hv) hcnt⟩
      · obtain rfl : i = L := by omega
        have hal : ∀ j, j < i → listed.getD j true = true := fun j hj => by
          obtain ⟨e, he, e1, e2⟩ := hs.last o ho j hj
          rw [← e1]
          exact hlist e he e2
        refine Oper.wp_mono (fun a' w' hk => ?_) (fin o ho a w h.ext h.tm h.df h.old (fun j hj => ⟨_, hin j hj, h.pr j hj (hal j hj)⟩))
        refine ⟨hk.1, wpAnyH_done ?_ hk.2 f⟩
        rcases hq : Region.ready md ops (listed.setIfInBounds i true) with _ | ⟨x, r⟩
        · rfl
        · exfalso
          have hx : x ∈ Region.ready md ops (listed.setIfInBounds i true) := by rw [hq]; simp
          obtain ⟨hun2, o2, ho2, _⟩ := mem_ready.1 hx
          have hxo : x < ops.size := (Array.getElem?_eq_some_iff.1 ho2).1
          rw [hs.size] at hxo
          rw [getD_set _ _ _ (by omega)] at hun2
          by_cases e : x = i
          · rw [if_pos e] at hun2; cases hun2
          · rw [if_neg e, hal x (by omega)] at hun2; cases hun2
/-- what a region has to be, reckoned -/
def grsOk (md : Region.Mode) (ops : Array Oper) (ds : Nat → Nat) (L n : Nat) : Bool :=
  ops.size == L + 1 && (List.range (L + 1)).all (fun i => match ops[i]? with
    | none => false
    | some o => o.guard.isNone && o.after.toList.all (fun e => decide (e.on < i)) && (if i < L then o.dst == some (ds i) else (List.range L).all fun j => o.after.toList.any fun e => e.on == j && Region.binds md e)) &&
  (List.range L).all (fun i => decide (ds i < n) && (List.range L).all fun j => i == j || !(ds i == ds j))
theorem Grs.of {md : Region.Mode} {ops : Array Oper} {ds : Nat → Nat} {L n : Nat} {a0 : Act} {Pr : Nat → Value → World → Prop} (h : grsOk md ops ds L n = true) (hn : a0.tmps.size = n) (keep : ∀ i v w w', Pr i v w → Ext w w' → Pr i v w') : Grs md ops ds L a0 Pr := by
  unfold grsOk at h
  simp only [Bool.and_eq_true, beq_iff_eq, List.all_eq_true, List.mem_range] at h
  obtain ⟨⟨h1, h2⟩, h3⟩ := h
  have hop : ∀ (i : Nat) (o : Oper), ops[i]? = some o → (o.guard.isNone = true ∧ ∀ e ∈ o.after.toList, e.on < i) ∧ (if i < L then o.dst == some (ds i) else (List.range L).all fun j => o.after.toList.any fun e => e.on == j && Region.binds md e) = true := fun i o ho => by
    have hlt : i < ops.size := (Array.getElem?_eq_some_iff.1 ho).1
    have h4 := h2 i (by omega)
    rw [ho] at h4
    simpa only [Bool.and_eq_true, List.all_eq_true, decide_eq_true_eq] using h4
  refine ⟨h1, fun i o ho => ?_, fun i o ho e he => ?_, fun i o hi ho => ?_, fun i j hi hj e => ?_, fun i hi => ?_, fun o ho j hj => ?_, keep⟩
  · exact Option.isNone_iff_eq_none.1 (hop i o ho).1.1
  · exact (hop i o ho).1.2 e (by simpa using he)
  · have h4 := (hop i o ho).2
    rw [if_pos hi] at h4
    exact beq_iff_eq.1 h4
  · have h4 := (h3 i hi).2 j hj
    rw [e] at h4
    simpa using h4
  · have h4 := (h3 i hi).1
    rw [hn]
    simpa using h4
  · have h4 := (hop L o ho).2
    rw [if_neg (Nat.lt_irrefl _)] at h4
    simp only [List.all_eq_true, List.mem_range, List.any_eq_true, Bool.and_eq_true, beq_iff_eq] at h4
    obtain ⟨e, he, e1, e2⟩ := h4 j hj
    exact ⟨e, by simpa using he, e1, e2⟩
theorem Grw.start {ops : Array Oper} {ds : Nat → Nat} {L : Nat} {w0 w : World} {a0 : Act} {Pr : Nat → Value → World → Prop} (hx : Ext w0 w) : Grw ops ds L w0 a0 Pr (Array.replicate (L + 1) false) a0 w :=
  ⟨by simp, by simp [Array.getD_eq_getD_getElem?], hx, rfl, rfl, fun _ _ => rfl, fun i hi hl => by
    rw [Array.getD_eq_getD_getElem?, Array.getElem?_replicate, if_pos (by omega)] at hl
    cases hl⟩
theorem count_start (L : Nat) : ((List.range (L + 1)).countP fun i => !(Array.replicate (L + 1) false).getD i true) ≤ L + 1 := by
  have h := List.countP_le_length (p := fun i => !(Array.replicate (L + 1) false).getD i true) (l := List.range (L + 1))
  rwa [List.length_range] at h
/-- the slots that the region has written, put in -/
def putsOf (t : Array Value) (ds : Nat → Nat) (v : Nat → Value) : Nat → Array Value
  | 0 => t
  | k + 1 => (putsOf t ds v k).setIfInBounds (ds k) (v k)
theorem putsOf_size (t : Array Value) (ds : Nat → Nat) (v : Nat → Value) : ∀ k, (putsOf t ds v k).size = t.size
  | 0 => rfl
  | k + 1 => by rw [putsOf, Array.size_setIfInBounds, putsOf_size t ds v k]
theorem act_puts {a a0 : Act} {ds : Nat → Nat} {L : Nat} (tm : a.tmps.size = a0.tmps.size) (df : a.defers = a0.defers) (old : ∀ s, (∀ i, i < L → ds i ≠ s) → a.tmps[s]? = a0.tmps[s]?) (inj : ∀ i j, i < L → j < L → ds i = ds j → i = j) :
    a = ⟨putsOf a0.tmps ds (fun i => a.tmps.getD (ds i) undef) L, a0.defers⟩ := by
  have hk : ∀ k, k ≤ L → ∀ s, (putsOf a0.tmps ds (fun i => a.tmps.getD (ds i) undef) k)[s]? = if (∃ i, i < k ∧ ds i = s) then a.tmps[s]? else a0.tmps[s]? := by
    intro k
    induction k with
    | zero => intro _ s; rw [if_neg (by rintro ⟨i, hi, _⟩; omega)]; rfl
    | succ k ih =>
      intro hk s
      rw [putsOf, Array.getElem?_setIfInBounds, ih (by omega) s, putsOf_size]
      by_cases h : ds k = s
      · subst h
        have hex : ∃ i, i < k + 1 ∧ ds i = ds k := ⟨k, by omega, rfl⟩
        rw [if_pos rfl]
        by_cases h1 : ds k < a0.tmps.size
        · have h2 : ds k < a.tmps.size := by rw [tm]; exact h1
          rw [if_pos h1, if_pos hex]
          simp [Array.getD_eq_getD_getElem?, h2]
        · rw [if_neg h1, if_pos hex, Array.getElem?_eq_none (by rw [tm]; omega)]
      · rw [if_neg h]
        by_cases h1 : ∃ i, i < k ∧ ds i = s
        · obtain ⟨i, hi, e⟩ := h1
          rw [if_pos ⟨i, hi, e⟩, if_pos ⟨i, by omega, e⟩]
        · rw [if_neg h1, if_neg]
          rintro ⟨i, hi, e⟩
          rcases Nat.lt_or_ge i k with h2 | h2
          · exact h1 ⟨i, h2, e⟩
          · obtain rfl : i = k := by omega
            exact h e
  cases a with
  | mk tmps defers =>
    simp only at df
    subst df
    congr 1
    apply Array.ext_getElem?
    intro s
    rw [hk L (Nat.le_refl _) s]
    by_cases h : ∃ i, i < L ∧ ds i = s
    · rw [if_pos h]
    · rw [if_neg h]
      exact old s fun i hi e => h ⟨i, hi, e⟩
end Go.Proofs.YtfipgmjaabggjaaDoor
