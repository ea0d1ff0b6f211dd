/-
  The reference's Parts.
-/
import Derived.Test.YtkdjhklnlnfhfaaGreatDoorVXf
import Derived.Test.YtkdjhklnlnfhfaaGreatDoorM29
import Derived.Test.YtkdjhklnlnfhfaaGreatDoorM5
import Derived.Test.YtkdjhklnlnfhfaaGreatDoorM34
namespace Go.Proofs.YtkdjhklnlnfhfaaGreatDoor
open Go Go.RowKit
set_option maxRecDepth 4000

def cuE (v : Option Addr × Nat × Nat) : Value := .slice v.1 v.2.1 v.2.2
theorem inCu : (Tryz.prog.info? 39).map (fun i => (i.zero, i.size, i.bytes)) = some (some (.slice none 0 0), 1, 24) := by kernel_rfl
/-- what Parts tells -/
def PtR (w : World) (A : Option Addr) (n c : Nat) (b : List (BitVec 8)) (e : Ending) (w' : World) : Prop :=
  Ext w w' ∧ ((prtL b = none ∧ e = .returned (.tuple #[.slice none 0 0, .bool false])) ∨
    (∃ (vs : List ((Option Addr × Nat × Nat) × List (BitVec 8))) (A' : Option Addr) (c' : Nat), prtL b = some (vs.map Prod.snd) ∧ e = .returned (.tuple #[.slice A' vs.length c', .bool true]) ∧ Rd cuE w' A' vs.length c' (vs.map Prod.fst) ∧ ∀ v ∈ vs, Sub A n c b v.1.1 v.1.2.1 v.1.2.2 v.2))
theorem el_cut1 : Cut1 IsEl (fun z => z) where
  cut a b r s ha hb h := by
    obtain ⟨m, x, hm, hx, rfl⟩ := ha
    obtain ⟨m', x', hm', hx', rfl⟩ := hb
    obtain ⟨rfl, rfl, e⟩ := elm_cut h hx hx' hm hm'
    exact ⟨rfl, e⟩
  ne a ha := ha.ne
/-- where no element begins, they are none -/
theorem prt_no {b : List (BitVec 8)} {l : List (List (BitVec 8))} {x : List (BitVec 8)} (he : l.flatten ++ x = b) (hl : ∀ z ∈ l, IsEl z) (hx : x ≠ []) (hf : fstL x = none) : prtL b = none := by
  cases hp : prtL b with
  | none => rfl
  | some k =>
    obtain ⟨h1, h2⟩ := prt_iff.1 hp
    obtain ⟨t, _, e⟩ := el_cut1.pre l k x hl h2 (by rw [List.map_id', List.map_id', he, h1])
    cases t with
    | nil => exact absurd e hx
    | cons z t =>
      obtain ⟨m, y, hm, hy, rfl⟩ := h2 z (by simp_all)
      have hel : El x m y (t.map fun z => z).flatten := ⟨hm, hy, by rw [e]; rfl⟩
      rw [el_fst hel] at hf
      cases hf
/-- between two rounds -/
structure PtI (w wr : World) (A : Option Addr) (n c : Nat) (b : List (BitVec 8)) (k : Nat) (v : Value) (vs : List ((Option Addr × Nat × Nat) × List (BitVec 8))) : Prop where
  o : Rw 39 cuE wr w.heap.size v vs.length (vs.map Prod.fst)
  eq : (vs.map Prod.snd).flatten ++ b.drop k = b
  len : vs.length ≤ k
  el : ∀ z ∈ vs.map Prod.snd, IsEl z
  bs : ∀ q ∈ vs, Sub A n c b q.1.1 q.1.2.1 q.1.2.2 q.2
  ext : Ext w wr
theorem lit_cu (w : World) (v : Option Addr × Nat × Nat) : Rd cuE (w.alloc (.cells #[.slice v.1 v.2.1 v.2.2] 39)) (some ⟨w.heap.size, 0, none⟩) 1 1 [v] := by
  refine ⟨rfl, Nat.le_refl _, (fun e => by cases e), fun _ => ⟨w.heap.size, 0, rfl, fun j y hj => ?_⟩⟩
  have hj0 : j = 0 := by have := (List.getElem?_eq_some_iff.1 hj).1; simp at this; exact this
  subst hj0
  obtain rfl : v = y := by simpa using hj
  exact (Blk.new w 39 #[.slice v.1 v.2.1 v.2.2]).h.cell 0
set_option maxHeartbeats 8000000 in
theorem Parts_any {b : List (BitVec 8)} {A : Option Addr} {n c : Nat} {w : World} (h : Bs w A n c b) (hn : n ≤ 1000000) :
    Calls Tryz.prog 63 #[.slice A n c] w (PtR w A n c b) := by
  have hl := h.len
  have hcap := h.s.2.1
  have HB := Kp.mk h
  clear h
  go_enter Tryz.func63, Tryz.ntmps63
  go_wp2_with fail
  go_loopw [4, 5] (fun v4 iv wr => ∃ (k : Nat) (A4 : Option Addr) (c4 : Nat) (vs : List ((Option Addr × Nat × Nat) × List (BitVec 8))), k ≤ n ∧ v4 = .slice A4 vs.length c4 ∧ iv = .int .i64 (k : Int) ∧ PtI w wr A n c b k (.slice A4 vs.length c4) vs) (fun _ iv _ => n - (intOf iv).toNat)
  case atStart => exact ⟨0, none, 0, [], Nat.zero_le _, rfl, rfl, ⟨⟨rfl, .inl ⟨rfl, rfl⟩⟩, rfl, Nat.le_refl _, (fun z h => by cases h), (fun z h => by cases h), Ext.refl _⟩⟩
  case round =>
    obtain ⟨k, A4, c4, vs, hk, rfl, rfl, hI⟩ := hrel
    obtain ⟨wo, rfl⟩ : ∃ wo : World, wo = wr := ⟨_, rfl⟩
    have HI := Kp.mk hI
    clear hI
    by_cases hkn : k < n
    · have b1 : (k : Int) < (n : Int) := by omega
      have hvk : vs.length ≤ k := HI.out.len
      obtain ⟨A', hA', hD⟩ := HB.out.cut k (by omega)
      obtain ⟨g, o, rfl, _⟩ := HB.out.s.2.2.2 (by omega)
      have hck : ¬ c = k := by omega
      rw [if_neg hck] at hA'
      have hA2 : A' = some ⟨g, o + k, none⟩ := by
        rw [← hA']
        simp [Addr.add]
      subst hA2
      have hSB : Sub (some ⟨g, o, none⟩) n c b (some ⟨g, o + k, none⟩) (n - k) (c - k) (b.drop k) := fun W hW => by
        obtain ⟨A2, hA2, h2⟩ := hW.cut k (by omega)
        rw [if_neg hck] at hA2
        rw [← hA', hA2]
        exact h2
      have HSB := Kp.mk hSB
      have HC := Kp.mk (First_any (hD.ext HI.out.ext) (by omega))
      have a1 : (0 : Int) ≤ (k : Int) := by omega
      have a2 : (k : Int) ≤ (n : Int) := by omega
      clear hA' hD hSB
      cases hf : fstL (b.drop k) with
      | none =>
        have HN : Kp (prtL b = none) := ⟨prt_no HI.out.eq HI.out.el (fun e => by have := congrArg List.length e; rw [List.length_drop] at this; simp at this; omega) hf⟩
        rw [hf] at HC
        have e1 : fsV none = .tuple #[.int .i64 0, .int .i64 0, .bool false] := rfl
        rw [e1] at HC
        clear e1 hf
        go_wp2_with fail
        refine HC.out.mono ?_
        rintro e w1 ⟨rfl, x1⟩
        have X1 := Kp.mk (HI.out.ext.trans x1)
        clear x1
        go_wp2_with fail
        go_ret2
        exact ⟨X1.out, .inl ⟨HN.out, rfl⟩⟩
      | some p =>
        obtain ⟨s, t⟩ := p
        obtain ⟨hs2, hst⟩ := fst_lo hf
        rw [List.length_drop] at hst
        obtain ⟨hel, hsh, hxl⟩ := fst_el hf
        have hz := (el_parts hel).2.2.2.1
        rw [hxl, ← hsh] at hz
        have HEL : Kp (IsEl ((b.drop k).take (s + t))) := ⟨⟨_, _, hel.1, hel.2.1, hz⟩⟩
        rw [hf] at HC
        have e1 : fsV (some (s, t)) = .tuple #[.int .i64 (s : Int), .int .i64 (t : Int), .bool true] := rfl
        rw [e1] at HC
        have r1 : IntKind.i64.wrap ((k : Int) + (s : Int)) = ((k + s : Nat) : Int) := by rw [IntKind.wrap_i64]; omega
        have r2 : IntKind.i64.wrap (((k + s : Nat) : Int) + (t : Int)) = ((k + (s + t) : Nat) : Int) := by rw [IntKind.wrap_i64]; omega
        have HZ : Kp (Sub (some ⟨g, o, none⟩) n c b (some ⟨g, o + k, none⟩) (s + t) (c - k) ((b.drop k).take (s + t))) := ⟨fun W hW => (HSB.out W hW).take (s + t) (by omega)⟩
        have a3 : (k : Int) ≤ ((k + (s + t) : Nat) : Int) := by omega
        have a4 : ((k + (s + t) : Nat) : Int) ≤ (c : Int) := by omega
        have e5 : k + (s + t) - k = s + t := by omega
        clear e1 hf hel hsh hxl hz
        go_wp2_with fail
        refine HC.out.mono ?_
        rintro e w1 ⟨rfl, x1⟩
        have X1 := Kp.mk (HI.out.ext.trans x1)
        have O1 := Kp.mk (HI.out.o.ext x1)
        clear x1
        have e6 : k + s + t - k = s + t := by omega
        have HZ2 : Kp (Sub (some ⟨g, o, none⟩) n c b (some ⟨g, o + k, none⟩) (k + s + t - k) (c - k) ((b.drop k).take (s + t))) := ⟨by rw [e6]; exact HZ.out⟩
        have hnb : n ≤ 1000000 := hn
        clear e6 e5
        have hx6 : Ext w1 (w1.alloc (.cells #[.slice (some ⟨g, o + k, none⟩) (k + s + t - k) (c - k)] 39)) := (by (repeat (first | assumption | exact Ext.refl _ | apply Ext.drew | apply Ext.drewN | apply Ext.alloc | refine Ext.trans ?_ (by assumption))); first | done | fail)
        have hlit : Rd cuE (w1.alloc (.cells #[.slice (some ⟨g, o + k, none⟩) (k + s + t - k) (c - k)] 39)) (some ⟨w1.heap.size, 0, none⟩) 1 1 [(some ⟨g, o + k, none⟩, k + s + t - k, c - k)] := lit_cu w1 (some ⟨g, o + k, none⟩, k + s + t - k, c - k)
        have hX6 := X1.out.trans hx6
        have HO1 := Kp.mk (O1.out.ext hx6)
        have HLT := Kp.mk hlit
        have HX6 := Kp.mk hX6
        have hvn : (vs.length + 1) * 24 ≤ 140737488355328 := by omega
        have HVN := Kp.mk hvn
        clear hx6 hlit hX6 hvn
        go_wp2_with (first | (at_builtin; refine wpList_append_rd 108 (.slice none 0 0) 24 Tryz.underlying108 inCu rfl (by decide) (fun _ => rfl) rfl (.tmp 23) (.tmp 32) rfl w.heap.size _ vs.length (vs.map Prod.fst) rfl HO1.out (some ⟨w1.heap.size, 0, none⟩) 1 1 [(some ⟨g, o + k, none⟩, k + s + t - k, c - k)] rfl HLT.out HVN.out (vs.length + 1) rfl _ rfl w HX6.out (Nat.le_refl _) HX6.out.size ?_; intro A6 c6 w6 ho6 hx6 _; have O6 := Kp.mk ho6; have X6 := Kp.mk hx6; clear ho6 hx6) | fail)
        go_roundw
        case rel =>
          refine ⟨k + (s + t), A6, c6, vs ++ [((some ⟨g, o + k, none⟩, k + s + t - k, c - k), (b.drop k).take (s + t))], by omega, by simp, by go_num, ⟨?_, ?_, by simp; omega, fun z hz => ?_, fun q hq => ?_, X6.out⟩⟩
          · rw [List.map_append]
            simpa using O6.out
          · rw [List.map_append, List.flatten_append, List.append_assoc]
            show _ ++ (((b.drop k).take (s + t) ++ []) ++ b.drop (k + (s + t))) = b
            rw [List.append_nil, ← List.drop_drop, List.take_append_drop]
            exact HI.out.eq
          · rw [List.map_append] at hz
            rcases List.mem_append.1 hz with e | e
            · exact HI.out.el z e
            · rw [List.mem_singleton.1 e]; exact HEL.out
          · rcases List.mem_append.1 hq with e | e
            · exact HI.out.bs q e
            · rw [List.mem_singleton.1 e]
              exact HZ2.out
        case measure => simp [intOf]; omega
    · obtain rfl : k = n := by omega
      have b1 : ¬ (k : Int) < (k : Int) := by omega
      go_wp2_with fail
      go_ret2
      have he := HI.out.eq
      rw [List.drop_of_length_le (by omega), List.append_nil] at he
      exact ⟨HI.out.ext, .inr ⟨vs, A4, c4, prt_iff.2 ⟨he, HI.out.el⟩, rfl, HI.out.o.rd, HI.out.bs⟩⟩
end Go.Proofs.YtkdjhklnlnfhfaaGreatDoor
