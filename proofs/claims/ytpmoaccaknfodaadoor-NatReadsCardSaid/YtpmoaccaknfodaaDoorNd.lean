/-
  The reference's To, Same, May; light.
-/
import Derived.Test.YtpmoaccaknfodaaDoorNb
namespace Go.Proofs.YtpmoaccaknfodaaDoor
open Go Go.RowKit

abbrev lt_ : TypeId := 39
theorem inL : (Tryd.prog.info? lt_).map (fun i => (i.zero, i.size, i.bytes)) = some (some (.int .u32 0), 1, 4) := by kernel_rfl
abbrev Rm (w : World) (B : Nat) (v : Value) (n : Nat) (l : List Nat) : Prop := Rw lt_ vL w B v n l
theorem lim1 (w : World) (x : Nat) (a : Int) (ha : a = (x : Int)) : Rd vL (w.alloc (.cells #[.int .u32 a] lt_)) (some ⟨w.heap.size, 0, none⟩) 1 1 [x] := by
  subst ha
  exact (Rw.has (B := 0) (Has.new w lt_ _ _ rfl) (by rfl) (Nat.zero_le _) (by decide) : Rm _ 0 _ 1 [x]).rd
theorem wpList_append_L {w : World} {ops : Array Oper} {rest : List Oper} {o : Oper} {a : Act} {Q : Exit → Act → World → Prop} (hgd : o.guard = none) (s x : Operand)
    (ho : o.op = .call { callee := .builtin .append, args := #[s, x], argTypes := #[nt, nt] })
    (B : Nat) (v : Value) (n : Nat) (l1 : List Nat) (hs : a.eval s = v) (hown : Rm w B v n l1)
    (A : Option Addr) (m c : Nat) (l2 : List Nat) (hx : a.eval x = .slice A m c) (hl : Rd vL w A m c l2)
    (h47 : (n + m) * 4 ≤ 140737488355328) (N : Nat) (hN : n + m = N) (L : List Nat) (hL : l1 ++ l2 = L) (w0 : World) (hx0 : Ext w0 w) (hB : w0.heap.size ≤ B) (hBw : B ≤ w.heap.size)
    (h : ∀ A' c' w', Rm w' B (.slice A' N c') N L → Ext w0 w' → Apd w w' v (.slice A' N c') → wpList Tryd.prog ops Q rest (a.put o.dst (.slice A' N c')) w') : wpList Tryd.prog ops Q (o :: rest) a w :=
  wpList_append_rd nt (.int .u32 0) 4 Tryd.underlying25 inL rfl (by decide) (fun _ => rfl) hgd s x ho B v n l1 hs hown A m c l2 hx hl h47 N hN L hL w0 hx0 hB hBw h
theorem jn_two (B : Nat) : ∀ (l : List Nat) (x y : Nat), l.length % 2 = 0 → jn B (l ++ [x, y]) = jn B l ++ [x + y * B]
  | [], _, _, _ => rfl
  | [a], x, y, h => by simp at h
  | a :: b :: l, x, y, h => by
    rw [List.cons_append, List.cons_append, jn, jn, jn_two B l x y (by simp only [List.length_cons] at h; omega)]; rfl
theorem jn_one (B : Nat) : ∀ (l : List Nat) (x : Nat), l.length % 2 = 0 → jn B (l ++ [x]) = jn B l ++ [x]
  | [], _, _ => rfl
  | [a], x, h => by simp at h
  | a :: b :: l, x, h => by
    rw [List.cons_append, List.cons_append, jn, jn, jn_one B l x (by simp only [List.length_cons] at h; omega)]; rfl
theorem jn_take2 (B : Nat) (l : List Nat) (j : Nat) (h : 2 * j + 1 < l.length) : jn B (l.take (2 * (j + 1))) = jn B (l.take (2 * j)) ++ [dg l (2 * j) + dg l (2 * j + 1) * B] := by
  rw [show 2 * (j + 1) = 2 * j + 1 + 1 by omega, take_succ_dg l _ h, take_succ_dg l _ (by omega), List.append_assoc]
  exact jn_two B _ _ _ (by rw [List.length_take]; omega)
theorem jn_take1 (B : Nat) (l : List Nat) (j : Nat) (h : 2 * j + 1 = l.length) : jn B (l.take (2 * (j + 1))) = jn B (l.take (2 * j)) ++ [dg l (2 * j)] := by
  rw [show l.take (2 * (j + 1)) = l.take (2 * j + 1) by rw [List.take_of_length_le (by omega), List.take_of_length_le (by omega)], take_succ_dg l _ (by omega)]
  exact jn_one B _ _ (by rw [List.length_take]; omega)
set_option maxHeartbeats 1000000 in
theorem To_any {l : List Nat} {A : Option Addr} {n c : Nat} {w : World} (h : Rd vI w A n c l) (hd : Dg 65536 l) (hn : n ≤ 1000000000000) :
    Calls Tryd.prog 17 #[.slice A n c] w fun e w' => ∃ A' k c', e = .returned (.slice A' k c') ∧ Rd vL w' A' k c' (jn 65536 l) ∧ Ext w w' := by
  have hlen := h.len
  have HR := Kp.mk h
  have HD := Kp.mk hd
  clear h hd
  go_enter Tryd.func17, Tryd.ntmps17
  go_wp2_with fail
  go_loopw [3, 4] (fun ov iv wr => ∃ j : Nat, 2 * j ≤ n + 1 ∧ iv = .int .i64 ((2 * j : Nat) : Int) ∧ (∃ A c, ov = .slice A j c) ∧ Rm wr w.heap.size ov j (jn 65536 (l.take (2 * j))) ∧ Ext w wr) (fun _ i _ => n + 2 - (intOf i).toNat)
  case atStart => exact ⟨0, by omega, rfl, ⟨_, _, rfl⟩, Rw.nil _ _, Ext.refl _⟩
  case round =>
    obtain ⟨j, hj, rfl, ⟨Ao, co, rfl⟩, ho, hx⟩ := hrel
    obtain ⟨i, hi⟩ : ∃ i, 2 * j = i := ⟨_, rfl⟩
    by_cases hlt : i < n
    · obtain ⟨g, o, rfl⟩ := HR.out.some_ (by omega)
      have b0 : (i : Int) < (n : Int) := by omega
      have k1 : wr.cell? ⟨g, o + i, none⟩ = some (.int .i64 (dg l i : Int)) := (HR.out.ext hx).dig i hlt
      have h1 := HD.out.at (by decide) i
      have b1 : ((dg l i : Nat) : Int) < 65536 := by omega
      have HRO := Kp.mk ho
      have HX := Kp.mk hx
      by_cases h2 : i + 1 < n
      · have b2 : (i : Int) + 1 < (n : Int) := by omega
        have k2 : wr.cell? ⟨g, o + (i + 1), none⟩ = some (.int .i64 (dg l (i + 1) : Int)) := (HR.out.ext hx).dig (i + 1) h2
        have h3 := HD.out.at (by decide) (i + 1)
        have b3 : ((dg l (i + 1) : Nat) : Int) < 65536 := by omega
        have HT := Kp.mk (jn_take2 65536 l j (by omega))
        rw [hi] at HT HRO ⊢
        have HI := Kp.mk hi
        have e3 : ((i : Int) + 1).toNat = i + 1 := by omega
        have b4 : (0 : Int) ≤ (i : Int) + 1 := by omega
        clear ho hx h1 h3 hi
        generalize dg l i = x at *
        generalize dg l (i + 1) = y at *
        obtain ⟨z, hz⟩ : ∃ z : Nat, x + y * 65536 = z := ⟨_, rfl⟩
        obtain ⟨v, hv⟩ : ∃ v : Nat, y * 65536 = v := ⟨_, rfl⟩
        have e6 : (y : Int) * 65536 = (v : Int) := by omega
        have e5 : (x : Int) + (v : Int) = (z : Int) := by omega
        have b6 : (v : Int) < 4294967296 := by omega
        have b5 : (z : Int) < 4294967296 := by omega
        rw [hz] at HT
        clear hz hv
        go_wp2_with (first | (at_builtin; refine wpList_append_L rfl (.tmp 31) (.tmp 33) rfl w.heap.size (.slice Ao j co) j _ rfl (HRO.out.ext (by (repeat (first | assumption | exact Ext.refl _ | apply Ext.drew | apply Ext.drewN | apply Ext.alloc | refine Ext.trans ?_ (by assumption))); first | done | fail)) _ 1 1 [z] rfl (lim1 _ _ _ rfl) (by omega) (j + 1) rfl _ HT.out.symm w (HX.out.trans (by (repeat (first | assumption | exact Ext.refl _ | apply Ext.drew | apply Ext.drewN | apply Ext.alloc | refine Ext.trans ?_ (by assumption))); first | done | fail)) (Nat.le_refl _) (HX.out.trans (by (repeat (first | assumption | exact Ext.refl _ | apply Ext.drew | apply Ext.drewN | apply Ext.alloc | refine Ext.trans ?_ (by assumption))); first | done | fail)).size ?_; intro A5 c5 w5 ho5 hx5 _) | fail)
        go_roundw
        case rel => have hi := HI.out; exact ⟨j + 1, by omega, by go_num, ⟨_, _, rfl⟩, ho5, hx5⟩
        case measure => simp [intOf]; omega
      · have b2 : decide ((i : Int) + 1 < (n : Int)) = false := decide_eq_false (by omega)
        have HT := Kp.mk (jn_take1 65536 l j (by omega))
        rw [hi] at HT HRO ⊢
        have HI := Kp.mk hi
        clear ho hx h1 hi
        generalize dg l i = x at *
        go_wp2_with (first | (at_builtin; refine wpList_append_L rfl (.tmp 31) (.tmp 33) rfl w.heap.size (.slice Ao j co) j _ rfl (HRO.out.ext (by (repeat (first | assumption | exact Ext.refl _ | apply Ext.drew | apply Ext.drewN | apply Ext.alloc | refine Ext.trans ?_ (by assumption))); first | done | fail)) _ 1 1 [x] rfl (lim1 _ _ _ (by omega)) (by omega) (j + 1) rfl _ HT.out.symm w (HX.out.trans (by (repeat (first | assumption | exact Ext.refl _ | apply Ext.drew | apply Ext.drewN | apply Ext.alloc | refine Ext.trans ?_ (by assumption))); first | done | fail)) (Nat.le_refl _) (HX.out.trans (by (repeat (first | assumption | exact Ext.refl _ | apply Ext.drew | apply Ext.drewN | apply Ext.alloc | refine Ext.trans ?_ (by assumption))); first | done | fail)).size ?_; intro A5 c5 w5 ho5 hx5 _) | fail)
        go_roundw
        case rel => have hi := HI.out; exact ⟨j + 1, by omega, by go_num, ⟨_, _, rfl⟩, ho5, hx5⟩
        case measure => simp [intOf]; omega
    · rw [List.take_of_length_le (by omega)] at ho
      rw [hi]
      have b0 : (n : Int) ≤ (i : Int) := by omega
      go_wp2_with fail
      go_ret
      exact ⟨Ao, j, co, rfl, ho.rd, hx⟩
end Go.Proofs.YtpmoaccaknfodaaDoor
