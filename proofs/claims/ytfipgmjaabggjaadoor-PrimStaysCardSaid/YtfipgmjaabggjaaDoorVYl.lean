/-
  slices.SortFunc at any slice; slices.SortedFunc, slices.Values, prim.Sorted.
-/
import Derived.Test.YtfipgmjaabggjaaDoorVYk
import Derived.Test.YtfipgmjaabggjaaDoorVYk0
import Derived.Test.YtfipgmjaabggjaaDoorM22
namespace Go.Proofs.YtfipgmjaabggjaaDoor
open Go Go.RowKit Go.Shelf Go.Sort
set_option maxRecDepth 4000

/-- slices.Values' iterator -/
def vf (B : Nat) : Value := .func (.func 79) #[] #[.pointer (some ⟨B, 0, none⟩)]
def cmpF : Value := .func (.func 62) #[] #[]
theorem len0 (w : World) : Calls Tryd.prog 90 #[.int .u64 0] w fun e w' => e = .returned (.int .i64 0) ∧ w' = w := by
  have h := Any.bits_Len (SlLaysF0.n15.bits (P := Tryd.prog) { SortLaid with }) (0 : Int) w (by omega) (by omega)
  exact h
theorem SortFunc_nil (w : World) : Calls Tryd.prog 78 #[.slice none 0 0, cmpF] w fun e w' => e = .returned (.tuple #[]) ∧ w' = w := by
  have HL := Kp.mk len0
  have HP := Kp.mk pdq_nil
  unfold cmpF
  go_enter Tryd.func78, Tryd.ntmps78
  go_wp2_with (first | (go_at_call 90; refine (HL.out _).mono ?_; rintro e w2 ⟨rfl, rfl⟩) | (go_at_call 89; refine (HP.out _ _).mono ?_; rintro e w2 ⟨rfl, rfl⟩) | fail)
  go_end0
  exact ⟨rfl, rfl⟩
/-- what a sort leaves: a slice of the call's own, which reads in order -/
def SortR (w : World) (ps : List SP) (n : Nat) (e : Ending) (w' : World) : Prop :=
  ∃ A c qs, e = .returned (.slice A n c) ∧ qs.Perm ps ∧ Asc qs ∧ Sls w' A n c qs ∧ Ext w w'
theorem Values_any (A : Option Addr) (n c : Nat) (w : World) : Calls Tryd.prog 61 #[.slice A n c] w fun e w' => e = .returned (vf w.heap.size) ∧ w' = w.alloc (.cells #[.slice A n c] 67) := by
  unfold vf
  go_enter Tryd.func61, Tryd.ntmps61
  go_wp2_with fail
  go_ret
  exact ⟨rfl, rfl⟩
theorem SortFunc_any {w0 w : World} (hx : Ext w0 w) (ps : List SP) (hbs : ∀ p ∈ ps, Bs w0 p.1.1 p.1.2.1 p.1.2.2 p.2) (A : Option Addr) (n c : Nat) (hl : ps.length = n)
    (hrow : w.ownsRow w0.heap.size 24 1 (.slice A n c) n (ps.map fun p => sv p.1)) (hn : n ≤ 1000000) :
    Calls Tryd.prog 78 #[.slice A n c, cmpF] w fun e w' => e = .returned (.tuple #[]) ∧ ∃ qs : List SP, qs.Perm ps ∧ Asc qs ∧ Sls w' A n c qs ∧ Ext w0 w' := by
  rcases hrow.2 with ⟨e, rfl⟩ | ⟨g, cap, cur, e, hB, hg, hc, hm, hs, ht⟩
  · cases e
    obtain rfl : ps = [] := List.eq_nil_of_length_eq_zero hl
    refine (SortFunc_nil w).mono ?_
    rintro e w' ⟨rfl, rfl⟩
    exact ⟨rfl, [], List.Perm.refl _, fun i j p q _ hi => by simp at hi, ⟨rfl, Nat.le_refl _, fun _ => ⟨rfl, rfl⟩, fun h => absurd h (Nat.lt_irrefl 0), fun p hp => by simp at hp⟩, hx⟩
  · cases e
    have hb : g < w.heap.size := (Array.getElem?_eq_some_iff.1 hg).1
    refine (SortFunc_some hx ps hbs g c n hl hB hb (fun k p hk => ?_) (fun k => hrow.frozenAt k) hn).mono ?_
    · have hkl := (List.getElem?_eq_some_iff.1 hk).1
      refine (hrow.cellAt k (by omega)).trans ?_
      rw [List.getElem?_map, hk]
      rfl
    · rintro e w' ⟨rfl, qs, hp, ha, hx', hq⟩
      refine ⟨rfl, qs, hp, ha, ⟨hp.length_eq.trans hl, hc, (fun h => by cases h), fun _ => ⟨g, 0, rfl, fun k p hk => by rw [Nat.zero_add]; exact hq k p hk⟩, fun p hm => (hbs p (hp.mem_iff.1 hm)).ext hx'⟩, hx'⟩
theorem SortedFunc_any {w : World} {A : Option Addr} {n c B : Nat} {ps : List SP} (h : Sls w A n c ps) (hn : n ≤ 1000000) (hB : B < w.heap.size) (hb : w.cell? ⟨B, 0, none⟩ = some (.slice A n c)) :
    Calls Tryd.prog 60 #[vf B, cmpF] w (SortR w ps n) := by
  have hl := h.len
  obtain ⟨g, o, hg, hA, hs⟩ : ∃ g o, g < w.heap.size ∧ (0 < n → A = some ⟨g, o, none⟩) ∧ ∀ (k : Nat) (v : SA), (ps.map Prod.fst)[k]? = some v → w.cell? ⟨g, o + k, none⟩ = some (sv v) := by
    by_cases h0 : 0 < n
    · obtain ⟨g, o, e, hc⟩ := h.at_ h0
      obtain ⟨p, hp⟩ : ∃ p, ps[0]? = some p := ⟨_, List.getElem?_eq_getElem (by omega)⟩
      refine ⟨g, o, World.block_lt_of_cell? _ _ (hc 0 p hp), fun _ => e, fun k v hv => ?_⟩
      rw [List.getElem?_map] at hv
      cases hk : ps[k]? with
      | none => rw [hk] at hv; cases hv
      | some p => rw [hk] at hv; cases hv; exact hc k p hk
    · obtain rfl : ps = [] := List.eq_nil_of_length_eq_zero (by omega)
      exact ⟨B, 0, hB, fun e => absurd e h0, fun k v hv => by simp at hv⟩
  have hst := vals_stops 1 (Nat.le_refl _) B g o n c A (ps.map Prod.fst) (by rw [List.length_map]; exact hl) (by omega) hA w hg hB hb hs
  have hcol := Collect_c 79 #[.pointer (some ⟨B, 0, none⟩)] (enters_of Tryd.func79 (by kernel_rfl) rfl) g B (ps.map Prod.fst) n (by rw [List.length_map]; exact hl) hn w hg hB hst
  have hsort := fun (w2 : World) (A2 : Option Addr) (c2 : Nat) (h2 : Coll w (ps.map Prod.fst) w2 A2 n c2) => SortFunc_any h2.x ps h.bs A2 n c2 hl (by have := h2.row; rwa [List.map_map] at this) hn
  have HC := Kp.mk hcol
  have HS := Kp.mk hsort
  clear hcol hsort hst hs hA h hb hB hg
  unfold vf cmpF at *
  go_enter Tryd.func60, Tryd.ntmps60
  go_wp2_with (first
    | (go_at_call 77; refine HC.out.mono ?_; rintro e w2 ⟨A2, c2, rfl, h2⟩; have HS2 := Kp.mk (HS.out w2 A2 c2 h2))
    | (go_at_call 78; refine HS2.out.mono ?_; rintro e w3 ⟨rfl, qs, hq1, hq2, hq3, hq4⟩)
    | fail)
  go_ret
  exact ⟨A2, c2, qs, rfl, hq1, hq2, hq3, hq4⟩
theorem Sorted_any {w : World} {A : Option Addr} {n c : Nat} {ps : List SP} (h : Sls w A n c ps) (hn : n ≤ 1000000) : Calls Tryd.prog 31 #[.slice A n c] w (SortR w ps n) := by
  have hx : Ext w (w.alloc (.cells #[.slice A n c] 67)) := (by (repeat (first | assumption | exact Ext.refl _ | apply Ext.drew | apply Ext.drewN | apply Ext.alloc | refine Ext.trans ?_ (by assumption))); first | done | fail)
  have hs := SortedFunc_any (B := w.heap.size) (h.ext hx) hn (by simp) (by simp)
  have HS := Kp.mk hs
  have HV := Kp.mk (Values_any A n c w)
  clear hs h
  unfold vf cmpF at *
  go_enter Tryd.func31, Tryd.ntmps31
  go_wp2_with (first
    | (go_at_call 61; refine HV.out.mono ?_; rintro e w2 ⟨rfl, rfl⟩)
    | (go_at_call 60; refine HS.out.mono ?_; rintro e w3 ⟨A2, c2, qs, rfl, hq1, hq2, hq3, hq4⟩)
    | fail)
  go_ret
  exact ⟨A2, c2, qs, rfl, hq1, hq2, hq3, hx.trans hq4⟩
end Go.Proofs.YtfipgmjaabggjaaDoor
