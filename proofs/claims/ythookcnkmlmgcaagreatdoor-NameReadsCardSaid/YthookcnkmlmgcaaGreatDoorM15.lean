/-
  prim: numbersOf, ReadOid.
  Names of the call's own, in their blocks; name.readAttr.
  Attributes and steps of the call's own, in rows that grow: what lies in them, and what an append does.
  name.listIn over attributes, readStep.
-/
import Derived.Test.YthookcnkmlmgcaaGreatDoorM14
import Derived.Test.YthookcnkmlmgcaaGreatDoorM11
import Derived.Laws.BitsLemmas
import Derived.Test.YthookcnkmlmgcaaGreatDoorM1
import Derived.Test.YthookcnkmlmgcaaGreatDoorM8
import Derived.Test.YthookcnkmlmgcaaGreatDoorM13
import Derived.Maps.AppendAt
namespace Go.Proofs.YthookcnkmlmgcaaGreatDoor
open Go Go.RowKit
set_option maxRecDepth 4000

/-- a step of the numbers that groups make, all of 32 bits -/
def stO (s : List Nat × Nat) (x : BitVec 8) : List Nat × Nat := if x.toNat < 128 then (s.1 ++ [(s.2 * 128 + x.toNat % 128) % 4294967296], 0) else (s.1, (s.2 * 128 + x.toNat % 128) % 4294967296)
def stT (b : List (BitVec 8)) (j : Nat) : List Nat × Nat := (b.take j).foldl stO ([], 0)
/-- all numbers of a body -/
def pmO (b : List (BitVec 8)) : List Nat := (stT b b.length).1
theorem stT_succ (b : List (BitVec 8)) (j : Nat) (h : j < b.length) : stT b (j + 1) = stO (stT b j) (gb b j) := by
  unfold stT
  rw [take_gb b j h, List.foldl_append]
  rfl
theorem stO_p7 : ∀ (b : List (BitVec 8)) (acc : List Nat) (n : Nat), (b.foldl stO (acc, n % 4294967296)).1 = acc ++ (p7 n b).map (· % 4294967296)
  | [], acc, n => by simp [p7]
  | x :: r, acc, n => by
    rw [List.foldl_cons]
    unfold stO
    by_cases h : x.toNat < 128
    · rw [if_pos h]
      have := stO_p7 r (acc ++ [(n % 4294967296 * 128 + x.toNat % 128) % 4294967296]) 0
      rw [Nat.zero_mod] at this
      show (r.foldl stO (acc ++ [(n % 4294967296 * 128 + x.toNat % 128) % 4294967296], 0)).1 = _
      rw [this, p7, if_pos h, List.map_cons, List.append_assoc, show (n % 4294967296 * 128 + x.toNat % 128) % 4294967296 = (n * 128 + x.toNat % 128) % 4294967296 by omega]
      rfl
    · rw [if_neg h]
      show (r.foldl stO (acc, (n % 4294967296 * 128 + x.toNat % 128) % 4294967296)).1 = _
      rw [show (n % 4294967296 * 128 + x.toNat % 128) % 4294967296 = (n * 128 + x.toNat % 128) % 4294967296 by omega, stO_p7 r acc (n * 128 + x.toNat % 128), p7, if_neg h]
theorem pmO_back {l : List Nat} (h : OidP l) : oidU (pmO (oidB l)) = l := by
  have e : pmO (oidB l) = oidL l := by
    unfold pmO stT
    rw [List.take_length]
    have := stO_p7 (oidB l) [] 0
    rw [Nat.zero_mod] at this
    rw [this]
    unfold oidB
    rw [p7_all, List.nil_append]
    obtain ⟨a, b, r, rfl, h1, ha, hb, hc, hr⟩ := h
    show ((40 * a + b) :: r).map _ = (40 * a + b) :: r
    rw [List.map_cons, Nat.mod_eq_of_lt (by omega)]
    congr 1
    exact (List.map_congr_left fun x hx => Nat.mod_eq_of_lt (hr x hx)).trans (List.map_id _)
  rw [e, oidU_L h]
theorem oidU_app (l : List Nat) (x : Nat) (h : l ≠ []) : oidU (l ++ [x]) = oidU l ++ [x] := by
  match l, h with
  | z :: r, _ => rfl
theorem oidU_one (z : Nat) : oidU [z] = [(if z / 40 > 2 then 2 else z / 40), z - 40 * (if z / 40 > 2 then 2 else z / 40)] := rfl
theorem oidU_len (l : List Nat) : (oidU l).length ≤ l.length + 1 := by
  match l with
  | [] => exact Nat.zero_le _
  | z :: r => exact Nat.le_refl _
theorem stT_len (b : List (BitVec 8)) (j : Nat) (h : j ≤ b.length) : (stT b j).1.length ≤ j ∧ (stT b j).2 < 4294967296 ∧ Dg 4294967296 (stT b j).1 := by
  induction j with
  | zero => exact ⟨Nat.le_refl _, (by decide : 0 < 4294967296), fun d hd => by cases hd⟩
  | succ j ih =>
    obtain ⟨i1, i2, i3⟩ := ih (by omega)
    rw [stT_succ b j (by omega)]
    unfold stO
    split
    · refine ⟨by rw [List.length_append, List.length_singleton]; omega, (by decide : 0 < 4294967296), fun d hd => ?_⟩
      rcases List.mem_append.1 hd with hd | hd
      · exact i3 d hd
      · rw [List.mem_singleton.1 hd]
        exact Nat.mod_lt _ (by decide)
    · exact ⟨Nat.le_trans i1 (Nat.le_succ _), Nat.mod_lt _ (by decide), i3⟩
theorem oidU_dg {l : List Nat} (h : Dg 4294967296 l) : Dg 4294967296 (oidU l) := by
  match l, h with
  | [], _ => exact fun d hd => by cases hd
  | z :: r, h =>
    intro d hd
    have hz := h z (by simp)
    rcases List.mem_cons.1 hd with rfl | hd
    · split <;> omega
    · rcases List.mem_cons.1 hd with rfl | hd
      · omega
      · exact h d (by simp [hd])
abbrev u32t : TypeId := 69
theorem inU : (Tryz.prog.info? u32t).map (fun i => (i.zero, i.size, i.bytes)) = some (some (.int .u32 0), 1, 4) := by kernel_rfl
theorem lit_u (w : World) (x : Nat) : Rd vL (w.alloc (.cells #[.int .u32 (x : Int)] u32t)) (some ⟨w.heap.size, 0, none⟩) 1 1 [x] := by
  have := Rw.has (T := u32t) (e := vL) (B := 0) (n := 1) (l := [x]) (g := w.heap.size) (w := w.alloc (.cells #[.int .u32 (x : Int)] u32t)) (Has.new w u32t _ _ rfl) rfl (Nat.zero_le _) (by decide)
  exact this.rd
section
variable {w : World} {ops : Array Oper} {rest : List Oper} {o : Oper} {a : Act} {Q : Exit → Act → World → Prop}
theorem wpList_append_u (hgd : o.guard = none) (s x : Operand)
    (ho : o.op = .call { callee := .builtin .append, args := #[s, x], argTypes := #[36, 36] })
    (B : Nat) (v : Value) (n : Nat) (l1 : List Nat) (hs : a.eval s = v) (hown : Rw u32t vL w B v n l1)
    (A : Option Addr) (m c : Nat) (l2 : List Nat) (hx : a.eval x = .slice A m c) (hl : Rd vL w A m c l2)
    (h47 : (n + m) * 4 ≤ 140737488355328) (N : Nat) (hN : n + m = N) (L : List Nat) (hL : l1 ++ l2 = L) (w0 : World) (hx0 : Ext w0 w) (hB : w0.heap.size ≤ B) (hBw : B ≤ w.heap.size)
    (h : ∀ A' c' w', Rw u32t vL w' B (.slice A' N c') N L → Ext w0 w' → Apd w w' v (.slice A' N c') → wpList Tryz.prog ops Q rest (a.put o.dst (.slice A' N c')) w') : wpList Tryz.prog ops Q (o :: rest) a w :=
  wpList_append_rd 36 (.int .u32 0) 4 Tryz.underlying36 inU rfl (by decide) (fun _ => rfl) hgd s x ho B v n l1 hs hown A m c l2 hx hl h47 N hN L hL w0 hx0 hB hBw h
end
/-- the sums of a round -/
structure OStep (s : Nat) (x : BitVec 8) (q c n : Nat) (y : BitVec 8) : Prop where
  sh : IntKind.u32.wrap ((s : Int) * 128) = (q : Int)
  an : bits .andNot .u8 (ub x) 128 = ub y
  cv : IntKind.u32.wrap (ub y) = (c : Int)
  or_ : bits .or .u32 (q : Int) (c : Int) = (n : Int)
  val : n = (s * 128 + x.toNat % 128) % 4294967296
theorem ostep (s : Nat) (x : BitVec 8) : ∃ q c n y, OStep s x q c n y := by
  have hy : (BitVec.ofNat 8 (x.toNat % 128)).toNat = x.toNat % 128 := by rw [BitVec.toNat_ofNat]; omega
  refine ⟨s * 128 % 4294967296, x.toNat % 128, s * 128 % 4294967296 + x.toNat % 128, BitVec.ofNat 8 (x.toNat % 128), ?_, andnot128 x, ?_, ?_, by omega⟩
  · rw [IntKind.wrap_u32]; omega
  · unfold ub; rw [hy, IntKind.wrap_u32]; omega
  · rw [bits_join .u32 32 (by decide) (fun n h0 h1 => by rw [IntKind.wrap_u32]; omega) 7 _ _ (by omega) (by omega) (by omega) (by omega) (by omega) (by omega)]
    omega
set_option maxHeartbeats 4000000 in
theorem numbersOf_any {b : List (BitVec 8)} {A : Option Addr} {n c : Nat} {w : World} (h : Bs w A n c b) (hn : n ≤ 1000) :
    Calls Tryz.prog 52 #[.slice A n c] w fun e w' => ∃ A' c', e = .returned (.slice A' (oidU (pmO b)).length c') ∧ Rw u32t vL w' w.heap.size (.slice A' (oidU (pmO b)).length c') (oidU (pmO b)).length (oidU (pmO b)) ∧ Ext w w' := by
  have hl := h.len
  have HB := Kp.mk h
  have HL := Kp.mk hl
  clear h hl
  go_enter Tryz.func52, Tryz.ntmps52
  go_wp2_with fail
  go_loopw [3, 4, 10] (fun v m i wr => ∃ j N : Nat, ∃ A2 c2, j ≤ n ∧ N = (oidU (stT b j).1).length ∧ i = .int .i64 (j : Int) ∧ m = .int .u32 ((stT b j).2 : Int) ∧ v = .slice A2 N c2 ∧ Rw u32t vL wr w.heap.size (.slice A2 N c2) N (oidU (stT b j).1) ∧ Ext w wr) (fun _ _ i _ => n - (intOf i).toNat)
  case atStart => exact ⟨0, 0, none, 0, Nat.zero_le _, rfl, rfl, rfl, rfl, Rw.nil _ _, Ext.refl _⟩
  case round =>
    obtain ⟨j, N, A2, c2, hj, hN, rfl, rfl, rfl, ho, hx⟩ := hrel
    by_cases hlt : j < n
    · have b4 : (j : Int) < (n : Int) := by omega
      obtain ⟨g, o, rfl, hc⟩ := (HB.out.ext hx).s.2.2.2 (by omega)
      have k1 := hc j hlt
      have hst := stT_succ b j (by rw [HL.out]; exact hlt)
      obtain ⟨i1, i2, i3⟩ := stT_len b j (by rw [HL.out]; exact hj)
      have hUl := oidU_len (stT b j).1
      obtain ⟨q, z, m, y, hS⟩ := ostep (stT b j).2 (gb b j)
      obtain ⟨s1, s2, s3, s4, s5⟩ := hS
      have s6 := and128b (gb b j)
      have hm32 : m < 4294967296 := by rw [s5]; exact Nat.mod_lt _ (by decide)
      clear hc
      unfold stO at hst
      rw [← s5] at hst
      by_cases hx8 : (gb b j).toNat < 128
      · rw [if_pos hx8] at hst
        rw [if_neg (by omega)] at s6
        have HT := Kp.mk hst
        clear hst
        generalize gb b j = x at *
        cases hS1 : (stT b j).1 with
        | nil =>
          rw [hS1] at hN ho
          generalize (stT b j).2 = s at *
          obtain rfl : N = 0 := hN
          obtain ⟨f, hf⟩ : ∃ f, (if m / 40 > 2 then 2 else m / 40) = f := ⟨_, rfl⟩
          have f1 : (m : Int).tdiv 40 = ((m / 40 : Nat) : Int) := by rw [Int.tdiv_eq_ediv_of_nonneg (by omega)]; omega
          have f2 : IntKind.u32.wrap ((m / 40 : Nat) : Int) = ((m / 40 : Nat) : Int) := by rw [IntKind.wrap_u32]; omega
          have f3 : min ((m / 40 : Nat) : Int) 2 = (f : Int) := by rw [← hf]; split <;> omega
          have f4 : IntKind.u32.wrap (40 * (f : Int)) = ((40 * f : Nat) : Int) := by rw [IntKind.wrap_u32, ← hf]; split <;> omega
          have f5 : IntKind.u32.wrap ((m : Int) - ((40 * f : Nat) : Int)) = ((m - 40 * f : Nat) : Int) := by
            have : 40 * f ≤ m := by rw [← hf]; split <;> omega
            rw [IntKind.wrap_u32]; omega
          have H3 := Kp.mk (show oidU [m] = [f, m - 40 * f] by rw [oidU_one, hf])
          have HS1 := Kp.mk hS1
          clear hf hS1
          generalize m / 40 = m40 at *
          generalize hd : m - 40 * f = d at *
          generalize 40 * f = f40 at *
          have H1 := Kp.mk (show Rw u32t vL wr w.heap.size (.slice A2 0 c2) 0 [] from ho)
          have H2 := Kp.mk hx
          clear ho hx hd s5 hx8 i1 i2 i3 hUl
          go_wp2_with (first | (at_builtin; refine wpList_append_u rfl (.tmp 29) (.tmp 31) rfl w.heap.size _ 0 [] rfl (H1.out.ext (by (repeat (first | assumption | exact Ext.refl _ | apply Ext.drew | apply Ext.drewN | apply Ext.alloc | refine Ext.trans ?_ (by assumption))); first | done | fail)) _ 1 1 [f] rfl (lit_u wr f) (by omega) 1 rfl [f] rfl w (H2.out.trans (by (repeat (first | assumption | exact Ext.refl _ | apply Ext.drew | apply Ext.drewN | apply Ext.alloc | refine Ext.trans ?_ (by assumption))); first | done | fail)) (Nat.le_refl _) (H2.out.trans (by (repeat (first | assumption | exact Ext.refl _ | apply Ext.drew | apply Ext.drewN | apply Ext.alloc | refine Ext.trans ?_ (by assumption))); first | done | fail)).size ?_; intro A4 c4 w4 ho4 hx4 hap4) | (at_builtin; refine wpList_append_u rfl (.tmp 37) (.tmp 39) rfl w.heap.size _ 1 [f] rfl (ho4.ext (by (repeat (first | assumption | exact Ext.refl _ | apply Ext.drew | apply Ext.drewN | apply Ext.alloc | refine Ext.trans ?_ (by assumption))); first | done | fail)) _ 1 1 [d] rfl (lit_u w4 d) (by omega) 2 rfl [f, d] rfl w (hx4.trans (by (repeat (first | assumption | exact Ext.refl _ | apply Ext.drew | apply Ext.drewN | apply Ext.alloc | refine Ext.trans ?_ (by assumption))); first | done | fail)) (Nat.le_refl _) (hx4.trans (by (repeat (first | assumption | exact Ext.refl _ | apply Ext.drew | apply Ext.drewN | apply Ext.alloc | refine Ext.trans ?_ (by assumption))); first | done | fail)).size ?_; intro A5 c5 w5 ho5 hx5 hap5) | fail)
          go_roundw
          case rel =>
            have e : stT b (j + 1) = ([m], 0) := by rw [HT.out, HS1.out]; rfl
            refine ⟨j + 1, 2, A5, c5, hlt, by rw [e]; rfl, by go_num, by rw [e]; rfl, rfl, ?_, hx5⟩
            rw [e]
            show Rw u32t vL w5 w.heap.size (.slice A5 2 c5) 2 (oidU [m])
            rw [H3.out]
            exact ho5
          case measure => simp [intOf]; omega
        | cons a r =>
          have hne : (stT b j).1 ≠ [] := by rw [hS1]; exact fun h => by cases h
          have hU := oidU_app (stT b j).1 m hne
          have hN0 : N ≠ 0 := by rw [hN, hS1]; exact fun h => by cases h
          have d1 : ((N : Int) == 0) = false := beq_eq_false_iff_ne.2 (by omega)
          have d2 : ¬ N = 0 := hN0
          have hNm : N ≤ 1002 := by omega
          generalize (stT b j).2 = s at *
          generalize hT1 : (stT b j).1 = T at *
          have H1 := Kp.mk ho
          have H2 := Kp.mk hx
          have H3 := Kp.mk hU
          have H4 := Kp.mk hN
          clear ho hx hU hN s5 hx8 hS1 i1 i2 i3 hUl hne hN0 hT1
          go_wp2_with (first | (at_builtin; refine wpList_append_u rfl (.tmp 37) (.tmp 39) rfl w.heap.size _ N (oidU T) rfl (H1.out.ext (by (repeat (first | assumption | exact Ext.refl _ | apply Ext.drew | apply Ext.drewN | apply Ext.alloc | refine Ext.trans ?_ (by assumption))); first | done | fail)) _ 1 1 [m] rfl (lit_u wr m) (by omega) (N + 1) rfl (oidU T ++ [m]) rfl w (H2.out.trans (by (repeat (first | assumption | exact Ext.refl _ | apply Ext.drew | apply Ext.drewN | apply Ext.alloc | refine Ext.trans ?_ (by assumption))); first | done | fail)) (Nat.le_refl _) (H2.out.trans (by (repeat (first | assumption | exact Ext.refl _ | apply Ext.drew | apply Ext.drewN | apply Ext.alloc | refine Ext.trans ?_ (by assumption))); first | done | fail)).size ?_; intro A5 c5 w5 ho5 hx5 hap5) | fail)
          go_roundw
          case rel =>
            rw [← H3.out] at ho5
            refine ⟨j + 1, N + 1, A5, c5, hlt, ?_, by go_num, by rw [HT.out]; rfl, by first | rfl | (congr 1; omega), by rw [HT.out]; exact ho5, hx5⟩
            rw [HT.out]
            show N + 1 = (oidU (T ++ [m])).length
            rw [H3.out, List.length_append, ← H4.out]
            rfl
          case measure => simp [intOf]; omega
      · rw [if_neg hx8] at hst
        rw [if_pos (by omega)] at s6
        have HT := Kp.mk hst
        clear hst
        generalize gb b j = x at *
        generalize (stT b j).2 = s at *
        generalize (stT b j).1 = T at *
        have H1 := Kp.mk ho
        have H2 := Kp.mk hx
        have H4 := Kp.mk hN
        clear ho hx hN s5 hx8 i1 i2 i3 hUl
        go_wp2_with fail
        go_roundw
        case rel =>
          exact ⟨j + 1, N, A2, c2, hlt, by rw [HT.out]; exact H4.out, by go_num, by rw [HT.out], rfl, by rw [HT.out]; exact H1.out, H2.out.trans (by (repeat (first | assumption | exact Ext.refl _ | apply Ext.drew | apply Ext.drewN | apply Ext.alloc | refine Ext.trans ?_ (by assumption))); first | done | fail)⟩
        case measure => simp [intOf]; omega
    · obtain rfl : j = n := by omega
      have b4 : ¬ (j : Int) < (j : Int) := by omega
      have e : (stT b j).1 = pmO b := by unfold pmO; rw [HL.out]
      rw [e] at hN ho
      subst hN
      have H1 := Kp.mk ho
      have H2 := Kp.mk hx
      clear ho hx e
      go_wp2_with fail
      go_ret
      exact ⟨_, _, rfl, H1.out, H2.out.trans (by (repeat (first | assumption | exact Ext.refl _ | apply Ext.drew | apply Ext.drewN | apply Ext.alloc | refine Ext.trans ?_ (by assumption))); first | done | fail)⟩
set_option maxHeartbeats 4000000 in
theorem ReadOid_any {b : List (BitVec 8)} {A : Option Addr} {n c : Nat} {w : World} (h : Bs w A n c b) :
    Calls Tryz.prog 39 #[.slice A n c] w fun e w' =>
      (¬ (OidP (oidU (pmO b)) ∧ oidB (oidU (pmO b)) = b) ∧ e = .returned (.tuple #[.slice none 0 0, err 2]) ∧ Ext w w') ∨
      (OidP (oidU (pmO b)) ∧ oidB (oidU (pmO b)) = b ∧ ∃ A' c', e = .returned (.tuple #[.slice A' (oidU (pmO b)).length c', .nilIface]) ∧ Rw u32t vL w' w.heap.size (.slice A' (oidU (pmO b)).length c') (oidU (pmO b)).length (oidU (pmO b)) ∧ Ext w w') := by
  have hl := h.len
  have hDg : Dg 4294967296 (oidU (pmO b)) := oidU_dg (stT_len b b.length (Nat.le_refl _)).2.2
  by_cases h75 : 75 < n
  · have hno : ¬ (OidP (oidU (pmO b)) ∧ oidB (oidU (pmO b)) = b) := fun ⟨h1, h2⟩ => by
      have := oidB_len h1
      rw [h2] at this
      omega
    refine Calls.mono (R := fun e w' => e = .returned (.tuple #[.slice none 0 0, err 2]) ∧ Ext w w') ?_ fun _ _ h => .inl ⟨hno, h⟩
    have b1 : decide ((75 : Int) < (n : Int)) = true := decide_eq_true (by omega)
    clear hDg hno h hl h75
    go_enter Tryz.func39, Tryz.ntmps39
    go_wp2_with fail
    go_ret2
    exact ⟨rfl, (by (repeat (first | assumption | exact Ext.refl _ | apply Ext.drew | apply Ext.drewN | apply Ext.alloc | refine Ext.trans ?_ (by assumption))); first | done | fail)⟩
  · have b1 : decide ((75 : Int) < (n : Int)) = false := decide_eq_false (by omega)
    have hC := numbersOf_any h (by omega)
    obtain ⟨Q, hQ⟩ : ∃ Q, Q = oidU (pmO b) := ⟨_, rfl⟩
    rw [← hQ] at hDg hC ⊢
    obtain ⟨N, hN⟩ : ∃ N, N = Q.length := ⟨_, rfl⟩
    rw [← hN] at hC ⊢
    have HB := Kp.mk h
    have HD := Kp.mk hDg
    clear h hQ hDg hl
    by_cases hP : OidP Q
    · by_cases hE : oidB Q = b
      · refine Calls.mono (R := fun e w' => ∃ A' c', e = .returned (.tuple #[.slice A' N c', .nilIface]) ∧ Rw u32t vL w' w.heap.size (.slice A' N c') N Q ∧ Ext w w') ?_ fun _ _ h => .inr ⟨hP, hE, h⟩
        have HE := Kp.mk hE
        have HP := Kp.mk hP
        have HN := Kp.mk hN
        clear hE hP hN
        go_enter Tryz.func39, Tryz.ntmps39
        go_wp2_with fail
        refine hC.mono ?_
        rintro e w1 ⟨A1, c1, rfl, ho1, hx1⟩
        go_wp2_with fail
        refine (Oid_any ho1.rd HD.out).mono ?_
        rintro e w2 (⟨hno, rfl, hx2⟩ | ⟨_, A2, c2, rfl, hs2, ho2, hx2⟩)
        · exact absurd HP.out hno
        have hEq := Equal_any hs2 ((HB.out.ext hx1).ext hx2)
        have e1 : (oidB Q == b) = true := by rw [HE.out, beq_self_eq_true]
        rw [e1] at hEq
        clear hs2 ho2 e1
        generalize (oidB Q).length = M at *
        have H1 := Kp.mk (ho1.ext hx2)
        have H2 := Kp.mk (hx1.trans hx2)
        clear ho1 hx1 hx2 hC
        go_wp2_with (go_at_call 54; refine (hEq).mono ?_; rintro e w3 ⟨rfl, hw⟩; obtain rfl : w2 = w3 := hw.symm)
        go_ret2
        exact ⟨_, _, rfl, H1.out, H2.out⟩
      · refine Calls.mono (R := fun e w' => e = .returned (.tuple #[.slice none 0 0, err 2]) ∧ Ext w w') ?_ fun _ _ h => .inl ⟨fun h => hE h.2, h⟩
        have HE := Kp.mk hE
        have HP := Kp.mk hP
        clear hE hP hN
        go_enter Tryz.func39, Tryz.ntmps39
        go_wp2_with fail
        refine hC.mono ?_
        rintro e w1 ⟨A1, c1, rfl, ho1, hx1⟩
        go_wp2_with fail
        refine (Oid_any ho1.rd HD.out).mono ?_
        rintro e w2 (⟨hno, rfl, hx2⟩ | ⟨_, A2, c2, rfl, hs2, ho2, hx2⟩)
        · exact absurd HP.out hno
        have hEq := Equal_any hs2 ((HB.out.ext hx1).ext hx2)
        rw [beq_eq_false_iff_ne.2 HE.out] at hEq
        clear hs2 ho2
        generalize (oidB Q).length = M at *
        have H2 := Kp.mk (hx1.trans hx2)
        clear ho1 hx1 hx2 hC
        go_wp2_with (go_at_call 54; refine (hEq).mono ?_; rintro e w3 ⟨rfl, hw⟩; obtain rfl : w2 = w3 := hw.symm)
        go_ret2
        exact ⟨rfl, H2.out⟩
    · refine Calls.mono (R := fun e w' => e = .returned (.tuple #[.slice none 0 0, err 2]) ∧ Ext w w') ?_ fun _ _ h => .inl ⟨fun h => hP h.1, h⟩
      have HP := Kp.mk hP
      clear hP hN
      go_enter Tryz.func39, Tryz.ntmps39
      go_wp2_with fail
      refine hC.mono ?_
      rintro e w1 ⟨A1, c1, rfl, ho1, hx1⟩
      go_wp2_with fail
      refine (Oid_any ho1.rd HD.out).mono ?_
      rintro e w2 (⟨_, rfl, hx2⟩ | ⟨hyes, A2, c2, rfl, hs2, ho2, hx2⟩)
      · have H2 := Kp.mk (hx1.trans hx2)
        clear ho1 hx1 hx2 hC
        go_wp2_with fail
        go_ret2
        exact ⟨rfl, H2.out⟩
      · exact absurd hyes HP.out
end Go.Proofs.YthookcnkmlmgcaaGreatDoor
namespace Go.Proofs.YthookcnkmlmgcaaGreatDoor
open Go Go.RowKit
set_option maxRecDepth 4000

theorem szAt : (Tryz.prog.info? 38).map (·.size) = some 3 := by kernel_rfl
theorem one3 (A B : Option Addr) (n c m d : Nat) (k : Int) : (#[Value.slice A n c, Value.int .u8 k, Value.slice B m d]).all (·.oneCell') = true := by simp [Value.oneCell']
/-- an attribute's type and text, in rows of these blocks -/
structure AnR (w : World) (F : List Nat) (p : SV × Atr) : Prop where
  kd : Rw u32t vL w 0 (kdV p.1) p.1.1.2.1 p.2.ty
  dg : Dg 4294967296 p.2.ty
  tx : Own w 0 (txV p.1) p.1.2.2.1 p.2.tx
  fk : ∀ k, k ∈ fpv (kdV p.1) → k ∈ F
  ft : ∀ k, k ∈ fpv (txV p.1) → k ∈ F
theorem AnR.mds {w w' : World} {F G : List Nat} {p : SV × Atr} (h : AnR w F p) (hm : Mds G w w') (ha : Ap F G) : AnR w' F p :=
  ⟨h.kd.mds hm fun k hk => ha k (h.fk k hk), h.dg, (h.tx.rw.mds hm fun k hk => ha k (h.ft k hk)).own, h.fk, h.ft⟩
theorem AnR.mono {w : World} {F F' : List Nat} {p : SV × Atr} (h : AnR w F p) (hF : ∀ k, k ∈ F → k ∈ F') : AnR w F' p :=
  ⟨h.kd, h.dg, h.tx, fun k hk => hF k (h.fk k hk), fun k hk => hF k (h.ft k hk)⟩
theorem Mds.setNew {G : List Nat} {w w' : World} {g : Nat} (h : Mds G w w') (hg : w.heap.size ≤ g) (cs : Array Value) : Mds G w (w'.setRow g cs) :=
  ⟨h.os, h.tape, h.output, by simpa using h.size, fun k hk hn => (setRow_other w' g k cs (by omega)).trans (h.block k hk hn)⟩
/-- what stands where an attribute can be read -/
theorem at_el {a : Atr} {rest r : List (BitVec 8)} (h : AtW a) (he : rest = atrB a ++ r) :
    El rest 48 (elm 6 (oidB a.ty) ++ elm a.mark a.tx) r ∧ El (elm 6 (oidB a.ty) ++ elm a.mark a.tx) 6 (oidB a.ty) (elm a.mark a.tx) ∧ El (elm a.mark a.tx) a.mark a.tx [] :=
  ⟨⟨by decide, h.bd, he⟩, ⟨by decide, h.ol, rfl⟩, ⟨isP_mk h.pm, h.tx, by rw [List.append_nil]⟩⟩
theorem nx_form (y : List (BitVec 8)) : ∃ b : Bool, nxV y = .tuple #[.int .u8 (ub (gb y 0)), .bool b] := by
  unfold nxV
  cases y with
  | nil => exact ⟨false, rfl⟩
  | cons a t => exact ⟨true, rfl⟩
/-- what readAttr tells -/
def RdA (w : World) (q : Nat) (G : List Nat) (rest : List (BitVec 8)) (bs : List (List (BitVec 8))) (e : Ending) (w' : World) : Prop :=
  (∃ (a : Atr) (r : List (BitVec 8)) (v : SV) (F G' : List Nat), AtW a ∧ rest = atrB a ++ r ∧ e = .returned (.tuple #[.agg #[kdV v, .int .u8 (ub a.mark), txV v], .nilIface]) ∧ AnR w' F (v, a) ∧ Hi w' F ∧ Lo w.heap.size F ∧ Rr w' q G' r bs ∧ Mvs G G' w w' ∧ Ap F G') ∨
  ((¬ ∃ (a : Atr) (r : List (BitVec 8)), AtW a ∧ rest = atrB a ++ r) ∧ (∃ (A B : Option Addr) (n c m d : Nat) (z k : Int), e = .returned (.tuple #[.agg #[.slice A n c, .int .u8 z, .slice B m d], err k])) ∧ Mds G w w')
set_option maxHeartbeats 16000000 in
theorem readAttr_any {w : World} {q : Nat} {G : List Nat} {rest : List (BitVec 8)} {bs : List (List (BitVec 8))} (h : Rr w q G rest bs) (hx : rest.length ≤ 1000000000) (hd : bs.length < 24) :
    Calls Tryz.prog 27 #[.pointer (some ⟨q, 0, none⟩)] w (RdA w q G rest bs) := by
  have hhi := h.hi
  obtain ⟨w0, hw0⟩ : ∃ w0, w.alloc (.cells #[.slice none 0 0, .int .u8 0, .slice none 0 0] 38) = w0 := ⟨_, rfl⟩
  have hB0 : Blk w0 w.heap.size 38 #[.slice none 0 0, .int .u8 0, .slice none 0 0] := by rw [← hw0]; exact Blk.new _ _ _
  have hx0 : Ext w w0 := by rw [← hw0]; exact (by (repeat (first | assumption | exact Ext.refl _ | apply Ext.drew | apply Ext.drewN | apply Ext.alloc | refine Ext.trans ?_ (by assumption))); first | done | fail)
  have hng : w.heap.size ∉ G := fun hk => Nat.lt_irrefl _ (hhi _ hk)
  have HB0 := Kp.mk hB0
  have HX0 := Kp.mk hx0
  have HNG := Kp.mk hng
  have HW0 := Kp.mk hw0
  have HR0 := Kp.mk (h.ext hx0)
  clear hB0 hx0 hng hw0 h hhi
  by_cases hE : ∃ x r, El rest 48 x r
  · obtain ⟨x, r, hel⟩ := hE
    have HEL := Kp.mk hel
    have hxl : x.length ≤ 65535 := hel.2.1
    clear hel
    go_enter Tryz.func27, Tryz.ntmps27
    go_wp2_with fail
    rw [HW0.out]
    refine (Enter_ok (m := 48) HR0.out (by omega) (by decide) HEL.out hd).mono ?_
    rintro e w1 ⟨rfl, G1, hr1, hm1⟩
    have HR1 := Kp.mk hr1
    have HM1 := Kp.mk hm1
    have HN1 : Kp (w.heap.size ∉ G1) := ⟨fun hk => by
      rcases hm1.f _ hk with e | e
      · exact HNG.out e
      · have := HB0.out.lt; omega⟩
    have HB1 := Kp.mk (HB0.out.mds hm1.m HNG.out)
    have M01 := Kp.mk ((Mvs.of_ext HX0.out G).trans hm1)
    clear hr1 hm1
    by_cases hT : ∃ o y, El x 6 o y
    · obtain ⟨o, y, hel2⟩ := hT
      have HEL2 := Kp.mk hel2
      have hol : o.length ≤ 65535 := hel2.2.1
      have hyl : y.length ≤ x.length := by have := (el_parts hel2).2.2.1; omega
      clear hel2
      go_wp2_with fail
      refine (Take_ok (m := 6) HR1.out (by omega) (by decide) HEL2.out).mono ?_
      rintro e w2 ⟨A2, n2, c2, rfl, ho2, hr2, hm2⟩
      have HO2 := Kp.mk ho2
      have HR2 := Kp.mk hr2
      have HB2 := Kp.mk (HB1.out.mds hm2 HN1.out)
      have M02 := Kp.mk (M01.out.trans ⟨hm2, fun k hk => .inl hk⟩)
      clear ho2 hr2 hm2
      go_wp2_with fail
      refine (ReadOid_any HO2.out.bs).mono ?_
      rintro e w3 (⟨hno, rfl, x3⟩ | ⟨hp3, hb3, A3, c3, rfl, hw3, x3⟩)
      · have HB3 := Kp.mk (HB2.out.ext x3)
        have M03 := Kp.mk (M02.out.post x3)
        have HNO : Kp (¬ ∃ (a : Atr) (r : List (BitVec 8)), AtW a ∧ rest = atrB a ++ r) := ⟨by
          rintro ⟨a, r', haw, he⟩
          obtain ⟨f1, f2, _⟩ := at_el haw he
          obtain ⟨_, rfl, _⟩ := el_uniq HEL.out f1
          obtain ⟨_, rfl, _⟩ := el_uniq HEL2.out f2
          rw [pmO_back haw.oid] at hno
          exact hno ⟨haw.oid, rfl⟩⟩
        clear hno x3
        go_wp2_with (first | ((with_reducible refine at_store 2 33 ?_); refine wpList_store_row rfl 38 _ _ rfl w.heap.size #[.slice none 0 0, .int .u8 0, .slice none 0 0] rfl rfl 38 _ HB3.out.h szAt rfl (one3 _ _ _ _ _ _ _) ?_) | fail)
        refine bodyPost_ret (results_cell_row2 rfl _ _ w.heap.size 38 _ _ _ rfl rfl (HB3.out.row _) Tryz.underlying38 rfl szAt) rfl ?_
        exact .inr ⟨HNO.out, ⟨_, _, _, _, _, _, _, _, rfl⟩, M03.out.m.setNew (Nat.le_refl _) _⟩
      · have HW3 := Kp.mk hw3
        have HP3 := Kp.mk hp3
        have HB3' := Kp.mk hb3
        have X3 := Kp.mk x3
        have HR3 := Kp.mk (HR2.out.ext x3)
        have HB3 := Kp.mk (HB2.out.ext x3)
        have M03 := Kp.mk (M02.out.post x3)
        have HDG : Kp (Dg 4294967296 (oidU (pmO o))) := ⟨oidU_dg (stT_len o o.length (Nat.le_refl _)).2.2⟩
        clear hw3 hp3 hb3 x3
        generalize hty : oidU (pmO o) = ty at *
        clear hty
        obtain ⟨nb, hnb⟩ := nx_form y
        have HNB := Kp.mk hnb
        clear hnb
        go_wp2_with fail
        refine (Next_any HR3.out).mono ?_
        rintro e w4 ⟨rfl, hw⟩
        obtain rfl : w3 = w4 := hw.symm
        rw [HNB.out]
        by_cases hX : isP (gb y 0) = true ∧ ∃ tx z, El y (gb y 0) tx z
        · obtain ⟨hpm, tx, z, hel3⟩ := hX
          have HPM := Kp.mk hpm
          have HEL3 := Kp.mk hel3
          have htl : tx.length ≤ 65535 := hel3.2.1
          clear hpm hel3
          go_wp2_with fail
          refine (Take_ok (m := gb y 0) HR3.out (by omega) HPM.out HEL3.out).mono ?_
          rintro e w4 ⟨A4, n4, c4, rfl, ho4, hr4, hm4⟩
          have hG1 : Hi w2 G1 := HR2.out.hi
          have hkb : ∀ k, k ∈ fpv (.slice A3 ty.length c3) → w2.heap.size ≤ k ∧ k < w3.heap.size := fun k hk => ⟨HW3.out.base k (mem_fpv.1 hk), HW3.out.lt k (mem_fpv.1 hk)⟩
          have htb : ∀ k, k ∈ fpv (.slice A4 n4 c4) → w3.heap.size ≤ k ∧ k < w4.heap.size := fun k hk => ⟨ho4.rw.base k (mem_fpv.1 hk), ho4.rw.lt k (mem_fpv.1 hk)⟩
          have s23 := X3.out.size
          have s34 := hm4.size
          have s02 := M02.out.m.size
          have hF : ∀ k, k ∈ fpv (.slice A3 ty.length c3) ++ fpv (.slice A4 n4 c4) → w2.heap.size ≤ k ∧ k < w4.heap.size := fun k hk => by
            rcases List.mem_append.1 hk with e | e
            · have := hkb k e; omega
            · have := htb k e; omega
          have hAp : Ap (fpv (.slice A3 ty.length c3) ++ fpv (.slice A4 n4 c4)) G1 := fun k hk hk2 => by
            have := hF k hk
            have := hG1 k hk2
            omega
          have HAN : Kp (AnR w4 (fpv (.slice A3 ty.length c3) ++ fpv (.slice A4 n4 c4)) (((A3, ty.length, c3), (A4, n4, c4)), ⟨ty, gb y 0, tx⟩)) := ⟨⟨(HW3.out.mds hm4 fun k hk hk2 => by have := hkb k hk; have := hG1 k hk2; omega).lower (Nat.zero_le _), HDG.out, ho4.lower (Nat.zero_le _), fun k hk => List.mem_append.2 (.inl hk), fun k hk => List.mem_append.2 (.inr hk)⟩⟩
          have HF := Kp.mk hF
          have HAP := Kp.mk hAp
          have HR4 := Kp.mk hr4
          have HB4 := Kp.mk (HB3.out.mds hm4 HN1.out)
          have M04 := Kp.mk (M03.out.trans ⟨hm4, fun k hk => .inl hk⟩)
          have HS02 : Kp (w.heap.size < w2.heap.size) := ⟨HB2.out.lt⟩
          clear ho4 hr4 hm4 hG1 hkb htb s23 s34 s02 hF hAp
          by_cases hz : z = []
          · have HZ := Kp.mk hz
            subst hz
            go_wp2_with fail
            refine (Leave_ok HR4.out (by omega)).mono ?_
            rintro e w5 ⟨rfl, G5, hr5, hm5⟩
            have HB5 := Kp.mk (HB4.out.mds hm5.m HN1.out)
            have HR5 := Kp.mk hr5
            have M05 := Kp.mk (M04.out.trans hm5)
            have HAN5 := Kp.mk (HAN.out.mds hm5.m HAP.out)
            have hH4 : Hi w4 (fpv (.slice A3 ty.length c3) ++ fpv (.slice A4 n4 c4)) := fun k hk => (HF.out k hk).2
            have HAP5 := Kp.mk (hm5.ap hH4 HAP.out.symm).symm
            have HH5 : Kp (Hi w5 (fpv (.slice A3 ty.length c3) ++ fpv (.slice A4 n4 c4))) := ⟨hH4.mono hm5.m.size⟩
            have HN5 : Kp (w.heap.size ∉ G5) := ⟨fun hk => by
              rcases hm5.f _ hk with e | e
              · exact HN1.out e
              · have := HB4.out.lt; omega⟩
            clear hr5 hm5 hH4
            go_wp2_with (first | ((with_reducible refine at_store 2 53 ?_); refine wpList_store_row rfl 38 _ _ rfl w.heap.size #[.slice A3 ty.length c3, .int .u8 (ub (gb y 0)), .slice A4 n4 c4] rfl rfl 38 _ HB5.out.h szAt rfl (one3 _ _ _ _ _ _ _) ?_) | fail)
            refine bodyPost_ret (results_cell_row2 rfl _ _ w.heap.size 38 _ _ _ rfl rfl (HB5.out.row _) Tryz.underlying38 rfl szAt) rfl ?_
            have hmb : Mds [w.heap.size] w5 (w5.setRow w.heap.size #[.slice A3 ty.length c3, .int .u8 (ub (gb y 0)), .slice A4 n4 c4]) := (Mds.refl _ _).setRow (by simp) _
            have hye : y = elm (gb y 0) tx := by have := HEL3.out.2.2; rwa [List.append_nil] at this
            have hxe : x = elm 6 (oidB ty) ++ elm (gb y 0) tx := by rw [HB3'.out, ← hye]; exact HEL2.out.2.2
            have haw : AtW ⟨ty, gb y 0, tx⟩ := ⟨HP3.out, HPM.out, htl, by show (oidB ty).length ≤ _; rw [HB3'.out]; exact hol, by show (elm 6 (oidB ty) ++ elm (gb y 0) tx).length ≤ _; rw [← hxe]; exact hxl⟩
            refine .inl ⟨⟨ty, gb y 0, tx⟩, r, ((A3, ty.length, c3), (A4, n4, c4)), fpv (.slice A3 ty.length c3) ++ fpv (.slice A4 n4 c4), G5, haw, ?_, rfl, HAN5.out.mds hmb fun k hk hk2 => ?_, ?_, ?_, HR5.out.mds hmb fun k hk hk2 => ?_, ⟨M05.out.m.setNew (Nat.le_refl _) _, fun k hk => M05.out.f k hk⟩, HAP5.out⟩
            · rw [HEL.out.2.2]
              show elm 48 x ++ r = elm 48 (elm 6 (oidB ty) ++ elm (gb y 0) tx) ++ r
              rw [← hxe]
            · rw [List.mem_singleton.1 hk2] at hk
              have := (HF.out _ hk).1
              have := HS02.out
              omega
            · exact HH5.out.mono hmb.size
            · exact fun k hk => by have := (HF.out k hk).1; have := HS02.out; omega
            · rw [List.mem_singleton.1 hk2] at hk
              exact HN5.out hk
          · have HNO : Kp (¬ ∃ (a : Atr) (r : List (BitVec 8)), AtW a ∧ rest = atrB a ++ r) := ⟨by
              rintro ⟨a, r', haw, he⟩
              obtain ⟨f1, f2, f3⟩ := at_el haw he
              obtain ⟨_, rfl, _⟩ := el_uniq HEL.out f1
              obtain ⟨_, rfl, hye⟩ := el_uniq HEL2.out f2
              rw [hye] at HEL3
              exact hz (el_uniq HEL3.out f3).2.2⟩
            have HZ := Kp.mk hz
            clear hz
            go_wp2_with fail
            refine (Leave_more HR4.out HZ.out (by omega)).mono ?_
            rintro e w5 ⟨rfl, hw⟩
            obtain rfl : w4 = w5 := hw.symm
            go_wp2_with (first | ((with_reducible refine at_store 2 53 ?_); refine wpList_store_row rfl 38 _ _ rfl w.heap.size #[.slice A3 ty.length c3, .int .u8 (ub (gb y 0)), .slice A4 n4 c4] rfl rfl 38 _ HB4.out.h szAt rfl (one3 _ _ _ _ _ _ _) ?_) | fail)
            refine bodyPost_ret (results_cell_row2 rfl _ _ w.heap.size 38 _ _ _ rfl rfl (HB4.out.row _) Tryz.underlying38 rfl szAt) rfl ?_
            exact .inr ⟨HNO.out, ⟨_, _, _, _, _, _, _, _, rfl⟩, M04.out.m.setNew (Nat.le_refl _) _⟩
        · have HNO : Kp (¬ ∃ (a : Atr) (r : List (BitVec 8)), AtW a ∧ rest = atrB a ++ r) := ⟨by
            rintro ⟨a, r', haw, he⟩
            obtain ⟨f1, f2, f3⟩ := at_el haw he
            obtain ⟨_, rfl, _⟩ := el_uniq HEL.out f1
            obtain ⟨_, rfl, hye⟩ := el_uniq HEL2.out f2
            have hg0 : gb y 0 = a.mark := by rw [hye]; exact (el_parts f3).1
            exact hX ⟨by rw [hg0]; exact haw.pm, _, _, by rw [hg0, hye]; exact f3⟩⟩
          have HX := Kp.mk hX
          clear hX
          go_wp2_with fail
          refine (Take_err (m := gb y 0) HR3.out (by omega) HX.out).mono ?_
          rintro e w4 ⟨rfl, x4⟩
          have HB4 := Kp.mk (HB3.out.ext x4)
          have M04 := Kp.mk (M03.out.post x4)
          clear x4
          generalize erC y (gb y 0) = k at *
          go_wp2_with (first | ((with_reducible refine at_store 2 48 ?_); refine wpList_store_row rfl 38 _ _ rfl w.heap.size #[.slice none 0 0, .int .u8 0, .slice none 0 0] rfl rfl 38 _ HB4.out.h szAt rfl (one3 _ _ _ _ _ _ _) ?_) | fail)
          refine bodyPost_ret (results_cell_row2 rfl _ _ w.heap.size 38 _ _ _ rfl rfl (HB4.out.row _) Tryz.underlying38 rfl szAt) rfl ?_
          exact .inr ⟨HNO.out, ⟨_, _, _, _, _, _, _, _, rfl⟩, M04.out.m.setNew (Nat.le_refl _) _⟩
    · have HNO : Kp (¬ ∃ (a : Atr) (r : List (BitVec 8)), AtW a ∧ rest = atrB a ++ r) := ⟨by
        rintro ⟨a, r', haw, he⟩
        obtain ⟨f1, f2, _⟩ := at_el haw he
        obtain ⟨_, rfl, _⟩ := el_uniq HEL.out f1
        exact hT ⟨_, _, f2⟩⟩
      have HT := Kp.mk (fun (h : isP 6 = true ∧ ∃ o y, El x 6 o y) => hT h.2)
      clear hT
      go_wp2_with fail
      refine (Take_err (m := 6) HR1.out (by omega) HT.out).mono ?_
      rintro e w2 ⟨rfl, x2⟩
      have HB2 := Kp.mk (HB1.out.ext x2)
      have M02 := Kp.mk (M01.out.post x2)
      clear x2
      generalize erC x 6 = k at *
      go_wp2_with (first | ((with_reducible refine at_store 2 24 ?_); refine wpList_store_row rfl 38 _ _ rfl w.heap.size #[.slice none 0 0, .int .u8 0, .slice none 0 0] rfl rfl 38 _ HB2.out.h szAt rfl (one3 _ _ _ _ _ _ _) ?_) | fail)
      refine bodyPost_ret (results_cell_row2 rfl _ _ w.heap.size 38 _ _ _ rfl rfl (HB2.out.row _) Tryz.underlying38 rfl szAt) rfl ?_
      exact .inr ⟨HNO.out, ⟨_, _, _, _, _, _, _, _, rfl⟩, M02.out.m.setNew (Nat.le_refl _) _⟩
  · have HNO : Kp (¬ ∃ (a : Atr) (r : List (BitVec 8)), AtW a ∧ rest = atrB a ++ r) := ⟨by
      rintro ⟨a, r', haw, he⟩
      exact hE ⟨_, _, (at_el haw he).1⟩⟩
    have HT := Kp.mk (fun (h : isW 48 = true ∧ ∃ x r, El rest 48 x r) => hE h.2)
    clear hE
    go_enter Tryz.func27, Tryz.ntmps27
    go_wp2_with fail
    rw [HW0.out]
    refine (Enter_err (m := 48) HR0.out (by omega) HT.out).mono ?_
    rintro e w1 ⟨rfl, x1⟩
    have HB1 := Kp.mk (HB0.out.ext x1)
    have M01 := Kp.mk (Ext.mds (HX0.out.trans x1) G)
    clear x1
    generalize erC rest 48 = k at *
    go_wp2_with (first | ((with_reducible refine at_store 2 15 ?_); refine wpList_store_row rfl 38 _ _ rfl w.heap.size #[.slice none 0 0, .int .u8 0, .slice none 0 0] rfl rfl 38 _ HB1.out.h szAt rfl (one3 _ _ _ _ _ _ _) ?_) | fail)
    refine bodyPost_ret (results_cell_row2 rfl _ _ w.heap.size 38 _ _ _ rfl rfl (HB1.out.row _) Tryz.underlying38 rfl szAt) rfl ?_
    exact .inr ⟨HNO.out, ⟨_, _, _, _, _, _, _, _, rfl⟩, M01.out.setNew (Nat.le_refl _) _⟩
end Go.Proofs.YthookcnkmlmgcaaGreatDoor
namespace Go.Proofs.YthookcnkmlmgcaaGreatDoor
open Go Go.RowKit
set_option maxRecDepth 4000

section
variable {w w' : World} {B T s n : Nat} {v : Value} {xs : List Value} {G : List Nat}
theorem ow_mds (h : w.ownsRow B T s v n xs) (hm : Mds G w w') (ho : ∀ k, k ∈ fpv v → k ∉ G) : w'.ownsRow B T s v n xs := by
  refine ⟨h.1, ?_⟩
  rcases h.2 with h2 | ⟨g, cap, cur, h1, h3, h4, h5⟩
  · exact .inl h2
  · refine .inr ⟨g, cap, cur, h1, h3, (hm.block g (Array.getElem?_eq_some_iff.1 h4).1 (ho g ?_)).trans h4, h5⟩
    subst h1; simp [fpv, Value.ownBlock]
theorem ow_lt (h : w.ownsRow B T s v n xs) : ∀ k, k ∈ fpv v → k < w.heap.size := fun k hk => by
  rw [mem_fpv] at hk
  rcases h.2 with ⟨h2, _⟩ | ⟨g, cap, cur, h1, h3, h4, h5⟩
  · subst h2; simp [Value.ownBlock] at hk
  · subst h1
    have e1 : g = k := by simpa [Value.ownBlock] using hk
    exact e1 ▸ (Array.getElem?_eq_some_iff.1 h4).1
theorem Rw.apart_ow {α : Type} {T' : TypeId} {e : α → Value} {B' m : Nat} {u : Value} {l : List α} (h : Rw T' e w B' u m l) (h' : w.ownsRow B T s v n xs) (ht : T' ≠ T) : ∀ k, k ∈ fpv u → k ∉ fpv v := fun k hk hk' => by
  rw [mem_fpv] at hk hk'
  rcases h.o.2 with ⟨h2, _⟩ | ⟨g, cap, cur, h1, h3, h4, h5⟩
  · subst h2; simp [Value.ownBlock] at hk
  · rcases h'.2 with ⟨h2, _⟩ | ⟨g', cap', cur', h1', h3', h4', h5'⟩
    · subst h2; simp [Value.ownBlock] at hk'
    · subst h1 h1'
      have e1 : g = k := by simpa [Value.ownBlock] using hk
      have e2 : g' = k := by simpa [Value.ownBlock] using hk'
      exact blk_ne h4 h4' ht (e1.trans e2.symm)
theorem ow_form (h : w.ownsRow B T s v n xs) : ∃ A c, v = .slice A n c ∧ n ≤ c ∧ (A = none → n = 0 ∧ c = 0) ∧ (0 < n → ∃ g, A = some ⟨g, 0, none⟩ ∧ ∀ (j : Nat) (u : Value), xs[j]? = some u → w.cell? ⟨g, j, none⟩ = some u) := by
  rcases h.2 with ⟨rfl, rfl⟩ | ⟨g, cap, cur, rfl, _, hh, hc, _, _, ht⟩
  · exact ⟨none, 0, rfl, Nat.le_refl _, fun _ => ⟨rfl, rfl⟩, fun h => absurd h (Nat.lt_irrefl 0)⟩
  · refine ⟨some ⟨g, 0, none⟩, cap, rfl, hc, (fun e => by cases e), fun _ => ⟨g, rfl, fun j u hu => ?_⟩⟩
    have hj := (List.getElem?_eq_some_iff.1 hu).1
    have hl := h.1
    rw [cell_of_row w g j cur T (0, 0) hh, ← hu, ← ht, List.getElem?_take_of_lt (by omega)]
    simp
end
/-- .. and what turned behind the first world -/
theorem Mds.behind {G H : List Nat} {w w' w'' : World} (h : Mds G w w') (k : Mds H w' w'') (hH : Lo w.heap.size H) : Mds G w w'' :=
  ⟨k.os.trans h.os, k.tape.trans h.tape, k.output.trans h.output, Nat.le_trans h.size k.size, fun i hi hg => (k.block i (Nat.lt_of_lt_of_le hi h.size) fun e => by have := hH i e; omega).trans (h.block i hi hg)⟩
def slN : Value → Nat
  | .slice _ n _ => n
  | _ => 0
/-- attributes' cells -/
def cellsA : List (SV × Atr) → List Value
  | [] => []
  | p :: t => kdV p.1 :: .int .u8 (ub p.2.mark) :: txV p.1 :: cellsA t
theorem cellsA_len : ∀ ps : List (SV × Atr), (cellsA ps).length = ps.length * 3
  | [] => rfl
  | p :: t => by
    have := cellsA_len t
    simp [cellsA]
    omega
theorem cellsA_app : ∀ (a b : List (SV × Atr)), cellsA (a ++ b) = cellsA a ++ cellsA b
  | [], b => rfl
  | p :: t, b => by
    show kdV p.1 :: .int .u8 (ub p.2.mark) :: txV p.1 :: cellsA (t ++ b) = _
    rw [cellsA_app t b]
    rfl
theorem cellsA_get : ∀ (ps : List (SV × Atr)) (k : Nat) (p : SV × Atr), ps[k]? = some p → (cellsA ps)[k * 3]? = some (kdV p.1) ∧ (cellsA ps)[k * 3 + 1]? = some (.int .u8 (ub p.2.mark)) ∧ (cellsA ps)[k * 3 + 2]? = some (txV p.1)
  | [], k, p, h => by simp at h
  | a :: t, 0, p, h => by
    simp at h
    subst h
    exact ⟨rfl, rfl, rfl⟩
  | a :: t, k + 1, p, h => by
    have := cellsA_get t k p (by simpa using h)
    rw [show (k + 1) * 3 = k * 3 + 1 + 1 + 1 by omega]
    exact this
theorem inAt : (Tryz.prog.info? 38).map (fun i => (i.zero, i.size, i.bytes)) = some (some (.agg #[.slice none 0 0, .int .u8 0, .slice none 0 0]), 3, 56) := by kernel_rfl
/-- attributes in a row of the call's own, and in blocks of F -/
structure AtO (w : World) (v : Value) (F : List Nat) (ps : List (SV × Atr)) : Prop where
  row : w.ownsRow 0 38 3 v ps.length (cellsA ps)
  each : ∀ p ∈ ps, AnR w F p
  hi : Hi w F
theorem AtO.mds {w w' : World} {v : Value} {F G : List Nat} {ps : List (SV × Atr)} (h : AtO w v F ps) (hm : Mds G w w') (ha : Ap (fpv v ++ F) G) : AtO w' v F ps :=
  ⟨ow_mds h.row hm fun k hk => ha k (List.mem_append.2 (.inl hk)), fun p hp => (h.each p hp).mds hm fun k hk => ha k (List.mem_append.2 (.inr hk)), h.hi.mono hm.size⟩
theorem AtO.ext {w w' : World} {v : Value} {F : List Nat} {ps : List (SV × Atr)} (h : AtO w v F ps) (hx : Ext w w') : AtO w' v F ps := h.mds (hx.mds []) (fun _ _ h => by cases h)
theorem AtO.nil (w : World) : AtO w (.slice none 0 0) [] [] := ⟨⟨rfl, .inl ⟨rfl, rfl⟩⟩, (fun p h => by cases h), fun k h => by cases h⟩
theorem AtO.hi_all {w : World} {v : Value} {F : List Nat} {ps : List (SV × Atr)} (h : AtO w v F ps) : Hi w (fpv v ++ F) := fun k hk => by
  rcases List.mem_append.1 hk with e | e
  · exact ow_lt h.row k e
  · exact h.hi k e
theorem AtO.form {w : World} {v : Value} {F : List Nat} {ps : List (SV × Atr)} (h : AtO w v F ps) : ∃ A c, v = .slice A ps.length c := by
  obtain ⟨A, c, h1, _⟩ := ow_form h.row
  exact ⟨A, c, h1⟩
/-- they are a step -/
theorem AtO.stp {w : World} {A : Option Addr} {n c : Nat} {F : List Nat} {ps : List (SV × Atr)} (h : AtO w (.slice A n c) F ps) : Stp w A n c (ps.map Prod.snd) := by
  obtain ⟨A', c', h1, h2, h3, h4⟩ := ow_form h.row
  injection h1 with e1 e2 e3
  subst e1 e2 e3
  refine ⟨by simp, h2, h3, fun hn => ?_⟩
  obtain ⟨g, rfl, hc⟩ := h4 hn
  refine ⟨g, 0, rfl, fun k a hk => ?_⟩
  rw [List.getElem?_map] at hk
  obtain ⟨p, hp, rfl⟩ := Option.map_eq_some_iff.1 hk
  obtain ⟨c0, c1, c2⟩ := cellsA_get ps k p hp
  have hA := h.each p (List.mem_of_getElem? hp)
  rw [Nat.zero_add]
  exact ⟨_, _, _, _, _, _, hc _ _ c0, hc _ _ c1, hc _ _ c2, hA.kd.rd, hA.dg, hA.tx.bs⟩
theorem wp_append_at {w : World} {o : Oper} {a : Act} {K : Act → World → Prop} {Q : Exit → Act → World → Prop} (s x : Operand)
    (ho : o.op = .call { callee := .builtin .append, args := #[s, x], argTypes := #[39, 39] })
    (v : Value) (F : List Nat) (ps : List (SV × Atr)) (hs : a.eval s = v) (hown : AtO w v F ps)
    (g c : Nat) (p : SV × Atr) (F' : List Nat) (hx : a.eval x = .slice (some ⟨g, 0, none⟩) 1 c) (hB : Blk w g 38 #[kdV p.1, .int .u8 (ub p.2.mark), txV p.1])
    (he : AnR w F' p) (hF : Hi w F') (hn : ps.length ≤ 1000000) (N : Nat) (hN : ps.length + 1 = N)
    (h : ∀ A' c' w', AtO w' (.slice A' N c') (F ++ F') (ps ++ [p]) → Apd w w' v (.slice A' N c') → K (a.put o.dst (.slice A' N c')) w') : o.wp Tryz.prog a w K Q := by
  subst hN
  obtain ⟨i, hi0, hz0, hs1, hb⟩ := info_parts inAt
  obtain ⟨v', w', hr, h2, h3, _, h5⟩ := run_append_own_at (P := Tryz.prog) w 0 39 o.type 38 i (.agg #[.slice none 0 0, .int .u8 0, .slice none 0 0]) 3 56 Tryz.underlying39 hi0 hz0 hs1 hb rfl (by decide) v ps.length (cellsA ps) hown.row ⟨g, 0, none⟩ 1 c [kdV p.1, .int .u8 (ub p.2.mark), txV p.1] rfl
    (fun j u hu => by
      match j with
      | 0 =>
        simp at hu
        subst hu
        exact hB.h.cell 0
      | 1 =>
        simp at hu
        subst hu
        exact hB.h.cell 1
      | 2 =>
        simp at hu
        subst hu
        exact hB.h.cell 2
      | j + 3 => simp at hu)
    (fun u hu => by
      rcases List.mem_cons.1 hu with rfl | hu
      · rfl
      · rcases List.mem_cons.1 hu with rfl | hu
        · rfl
        · rcases List.mem_cons.1 hu with rfl | hu
          · rfl
          · cases hu) (by unfold maxLen; omega) (by omega) (Nat.zero_le _)
  rw [show cellsA ps ++ [kdV p.1, .int .u8 (ub p.2.mark), txV p.1] = cellsA (ps ++ [p]) from (cellsA_app ps [p]).symm, show ps.length + 1 = (ps ++ [p]).length by simp] at h2
  obtain ⟨A', c', rfl, _⟩ := ow_form h2
  have hap : Apd w w' v (.slice A' (ps ++ [p]).length c') := ⟨h3, h5⟩
  have keep : ∀ (q : SV × Atr) (H : List Nat), AnR w H q → AnR w' H q := fun q H hq =>
    ⟨hq.kd.mds hap.mds (hq.kd.apart_ow hown.row (by decide)), hq.dg, (hq.tx.rw.mds hap.mds (hq.tx.rw.apart_ow hown.row (by decide))).own, hq.fk, hq.ft⟩
  have hlen : (ps ++ [p]).length = ps.length + 1 := by simp
  rw [← hlen] at h
  have hK := h A' c' w'
  unfold Oper.wp
  simp [execOp, ho, resolve, invoke, builtin, hs, hx, hr, Result.andThen]
  rw [← hlen]
  refine hK ⟨h2, fun q hq => ?_, fun k hk => ?_⟩ hap
  · rcases List.mem_append.1 hq with hq | hq
    · exact keep q _ ((hown.each q hq).mono fun k hk => List.mem_append.2 (.inl hk))
    · rw [List.mem_singleton.1 hq]; exact keep p _ (he.mono fun k hk => List.mem_append.2 (.inr hk))
  · have := hap.mds.size
    rcases List.mem_append.1 hk with e | e
    · exact Nat.lt_of_lt_of_le (hown.hi k e) this
    · exact Nat.lt_of_lt_of_le (hF k e) this
theorem wpList_append_at {w : World} {ops : Array Oper} {rest : List Oper} {o : Oper} {a : Act} {Q : Exit → Act → World → Prop} (hgd : o.guard = none) (s x : Operand)
    (ho : o.op = .call { callee := .builtin .append, args := #[s, x], argTypes := #[39, 39] })
    (v : Value) (F : List Nat) (ps : List (SV × Atr)) (hs : a.eval s = v) (hown : AtO w v F ps)
    (g c : Nat) (p : SV × Atr) (F' : List Nat) (hx : a.eval x = .slice (some ⟨g, 0, none⟩) 1 c) (hB : Blk w g 38 #[kdV p.1, .int .u8 (ub p.2.mark), txV p.1])
    (he : AnR w F' p) (hF : Hi w F') (hn : ps.length ≤ 1000000) (N : Nat) (hN : ps.length + 1 = N)
    (h : ∀ A' c' w', AtO w' (.slice A' N c') (F ++ F') (ps ++ [p]) → Apd w w' v (.slice A' N c') → wpList Tryz.prog ops Q rest (a.put o.dst (.slice A' N c')) w') : wpList Tryz.prog ops Q (o :: rest) a w :=
  wpList_plain hgd fun _ hK => wp_append_at s x ho v F ps hs hown g c p F' hx hB he hF hn N hN fun A' c' w' h1 h2 => hK _ _ (h A' c' w' h1 h2)
/-- a step in rows of these blocks -/
structure StF (w : World) (F : List Nat) (q : (Option Addr × Nat × Nat) × List Atr) : Prop where
  ex : ∃ ps F', ps.map Prod.snd = q.2 ∧ AtO w (eSl q.1) F' ps ∧ ∀ k, k ∈ fpv (eSl q.1) ++ F' → k ∈ F
theorem StF.mds {w w' : World} {F G : List Nat} {q : (Option Addr × Nat × Nat) × List Atr} (h : StF w F q) (hm : Mds G w w') (ha : Ap F G) : StF w' F q := by
  obtain ⟨ps, F', h1, h2, h3⟩ := h.ex
  exact ⟨ps, F', h1, h2.mds hm fun k hk => ha k (h3 k hk), h3⟩
theorem StF.mono {w : World} {F F' : List Nat} {q : (Option Addr × Nat × Nat) × List Atr} (h : StF w F q) (hF : ∀ k, k ∈ F → k ∈ F') : StF w F' q := by
  obtain ⟨ps, F1, h1, h2, h3⟩ := h.ex
  exact ⟨ps, F1, h1, h2, fun k hk => hF k (h3 k hk)⟩
/-- steps in a row of the call's own -/
structure NmO (w : World) (v : Value) (F : List Nat) (qs : List ((Option Addr × Nat × Nat) × List Atr)) : Prop where
  row : Rw 39 eSl w 0 v qs.length (qs.map Prod.fst)
  each : ∀ q ∈ qs, StF w F q
  hi : Hi w F
theorem NmO.mds {w w' : World} {v : Value} {F G : List Nat} {qs : List ((Option Addr × Nat × Nat) × List Atr)} (h : NmO w v F qs) (hm : Mds G w w') (ha : Ap (fpv v ++ F) G) : NmO w' v F qs :=
  ⟨h.row.mds hm fun k hk => ha k (List.mem_append.2 (.inl hk)), fun p hp => (h.each p hp).mds hm fun k hk => ha k (List.mem_append.2 (.inr hk)), h.hi.mono hm.size⟩
theorem NmO.ext {w w' : World} {v : Value} {F : List Nat} {qs : List ((Option Addr × Nat × Nat) × List Atr)} (h : NmO w v F qs) (hx : Ext w w') : NmO w' v F qs := h.mds (hx.mds []) (fun _ _ h => by cases h)
theorem NmO.nil (w : World) : NmO w (.slice none 0 0) [] [] := ⟨⟨rfl, .inl ⟨rfl, rfl⟩⟩, (fun p h => by cases h), fun k h => by cases h⟩
theorem NmO.hi_all {w : World} {v : Value} {F : List Nat} {qs : List ((Option Addr × Nat × Nat) × List Atr)} (h : NmO w v F qs) : Hi w (fpv v ++ F) := fun k hk => by
  rcases List.mem_append.1 hk with e | e
  · exact h.row.fp_lt k e
  · exact h.hi k e
/-- they are a name -/
theorem NmO.nam {w : World} {A : Option Addr} {n c : Nat} {F : List Nat} {qs : List ((Option Addr × Nat × Nat) × List Atr)} (h : NmO w (.slice A n c) F qs) (hn : qs.length = n) : Nam w A n c (qs.map Prod.snd) := by
  subst hn
  have hr := h.row.rd
  refine ⟨by simp, hr.cap, hr.nul, fun hn => ?_⟩
  obtain ⟨g, o, rfl, hc⟩ := hr.at_ hn
  refine ⟨g, o, rfl, fun k s hk => ?_⟩
  rw [List.getElem?_map] at hk
  obtain ⟨q, hq, rfl⟩ := Option.map_eq_some_iff.1 hk
  obtain ⟨ps, F', h1, h2, h3⟩ := (h.each q (List.mem_of_getElem? hq)).ex
  refine ⟨q.1.1, q.1.2.1, q.1.2.2, hc k q.1 (by rw [List.getElem?_map, hq]; rfl), ?_⟩
  rw [← h1]
  exact AtO.stp h2
theorem inStp : (Tryz.prog.info? 39).map (fun i => (i.zero, i.size, i.bytes)) = some (some (.slice none 0 0), 1, 24) := by kernel_rfl
/-- a step more: rows of attributes are other rows than those of steps -/
theorem NmO.app {w w' : World} {v : Value} {A' : Option Addr} {N c' : Nat} {F F' : List Nat} {qs : List ((Option Addr × Nat × Nat) × List Atr)} {q : (Option Addr × Nat × Nat) × List Atr} (h : NmO w v F qs) (hq : StF w F' q) (hF : Hi w F')
    (ha : Apd w w' v (.slice A' N c')) (hr : Rw 39 eSl w' 0 (.slice A' N c') N (qs.map Prod.fst ++ [q.1])) (hN : qs.length + 1 = N) : NmO w' (.slice A' N c') (F ++ F') (qs ++ [q]) := by
  subst hN
  have keep : ∀ (y : (Option Addr × Nat × Nat) × List Atr) (H : List Nat), StF w H y → StF w' H y := fun y H hy => by
    obtain ⟨ps, F1, h1, h2, h3⟩ := hy.ex
    refine ⟨ps, F1, h1, ⟨ow_mds h2.row ha.mds fun k hk hk2 => h.row.apart_ow h2.row (by decide) k hk2 hk, fun p hp => ?_, h2.hi.mono ha.mds.size⟩, h3⟩
    have hA := h2.each p hp
    exact ⟨hA.kd.mds ha.mds (hA.kd.apart h.row (by decide)), hA.dg, (hA.tx.rw.mds ha.mds (hA.tx.rw.apart h.row (by decide))).own, hA.fk, hA.ft⟩
  refine ⟨?_, fun y hy => ?_, fun k hk => ?_⟩
  · rw [List.map_append]
    simpa using hr
  · rcases List.mem_append.1 hy with e | e
    · exact keep y _ ((h.each y e).mono fun k hk => List.mem_append.2 (.inl hk))
    · rw [List.mem_singleton.1 e]; exact keep q _ (hq.mono fun k hk => List.mem_append.2 (.inr hk))
  · have := ha.mds.size
    rcases List.mem_append.1 hk with e | e
    · exact Nat.lt_of_lt_of_le (h.hi k e) this
    · exact Nat.lt_of_lt_of_le (hF k e) this
end Go.Proofs.YthookcnkmlmgcaaGreatDoor
namespace Go.Proofs.YthookcnkmlmgcaaGreatDoor
open Go Go.RowKit
set_option maxRecDepth 4000

/-- what listIn over attributes, and readStep, tell -/
def RdS (w : World) (q : Nat) (G : List Nat) (rest : List (BitVec 8)) (bs : List (List (BitVec 8))) (e : Ending) (w' : World) : Prop :=
  (∃ (ps : List (SV × Atr)) (r : List (BitVec 8)) (A : Option Addr) (c : Nat) (F G' : List Nat), StW (ps.map Prod.snd) ∧ rest = stpB (ps.map Prod.snd) ++ r ∧ e = .returned (.tuple #[.slice A ps.length c, .nilIface]) ∧ AtO w' (.slice A ps.length c) F ps ∧ Lo w.heap.size (fpv (.slice A ps.length c) ++ F) ∧ Rr w' q G' r bs ∧ Mvs G G' w w' ∧ Ap (fpv (.slice A ps.length c) ++ F) G') ∨
  ((¬ ∃ (s : List Atr) (r : List (BitVec 8)), StW s ∧ rest = stpB s ++ r) ∧ (∃ k : Int, e = .returned (.tuple #[.slice none 0 0, err k])) ∧ Mds G w w')
/-- between two rounds -/
structure LtI (w wr : World) (q : Nat) (G : List Nat) (x r : List (BitVec 8)) (bs : List (List (BitVec 8))) (v : Value) (ps : List (SV × Atr)) (F G2 : List Nat) (x' : List (BitVec 8)) : Prop where
  o : AtO wr v F ps
  may : ∀ a ∈ ps.map Prod.snd, AtW a
  eq : ((ps.map Prod.snd).map atrB).flatten ++ x' = x
  rr : Rr wr q G2 x' (bs ++ [r])
  mv : Mvs G G2 w wr
  ap : Ap (fpv v ++ F) G2
  lo : Lo w.heap.size (fpv v ++ F)
/-- each item has a byte -/
theorem cut_len {α : Type} {W : α → Prop} {f : α → List (BitVec 8)} (h : Cut1 W f) : ∀ l : List α, (∀ a ∈ l, W a) → l.length ≤ (l.map f).flatten.length
  | [], _ => Nat.zero_le _
  | a :: t, hl => by
    have h1 := cut_len h t fun b hb => hl b (by simp [hb])
    have h2 := List.length_pos_iff.2 (h.ne a (hl a (by simp)))
    simp only [List.map_cons, List.flatten_cons, List.length_append, List.length_cons]
    omega
theorem no_step {ps : List (SV × Atr)} {x x' rest r : List (BitVec 8)} (hm : ∀ a ∈ ps.map Prod.snd, AtW a) (he : ((ps.map Prod.snd).map atrB).flatten ++ x' = x) (hel : El rest 49 x r) (hne : x' ≠ [])
    (hno : ¬ ∃ (a : Atr) (r : List (BitVec 8)), AtW a ∧ x' = atrB a ++ r) : ¬ ∃ (s : List Atr) (r : List (BitVec 8)), StW s ∧ rest = stpB s ++ r := by
  rintro ⟨s, r', hs, e⟩
  have f : El rest 49 (s.map atrB).flatten r' := ⟨by decide, hs.bd, e⟩
  obtain ⟨_, rfl, _⟩ := el_uniq hel f
  obtain ⟨t, _, e3⟩ := atr_cut.pre _ s x' hm hs.all he
  cases t with
  | nil => exact hne e3
  | cons a t => exact hno ⟨a, (t.map atrB).flatten, hs.all a (by simp_all), by rw [e3]; rfl⟩
set_option maxHeartbeats 16000000 in
theorem listA_any {w : World} {q : Nat} {G : List Nat} {rest : List (BitVec 8)} {bs : List (List (BitVec 8))} (h : Rr w q G rest bs) (hx : rest.length ≤ 1000000000) (hd : bs.length < 23) :
    Calls Tryz.prog 26 #[.pointer (some ⟨q, 0, none⟩), .int .u8 (ub 49), .func (.func 27) #[] #[]] w (RdS w q G rest bs) := by
  by_cases hE : ∃ x r, El rest 49 x r
  · obtain ⟨x, r, hel⟩ := hE
    have HEL := Kp.mk hel
    have hxl : x.length ≤ 65535 := hel.2.1
    have HC := Kp.mk (Enter_ok (m := 49) h (by omega) (by decide) hel (by omega))
    clear hel h
    go_enter Tryz.func26, Tryz.ntmps26
    go_wp2_with fail
    refine HC.out.mono ?_
    rintro e w1 ⟨rfl, G1, hr1, hm1⟩
    have HR1 := Kp.mk hr1
    have HM1 := Kp.mk hm1
    clear hr1 hm1
    go_wp2_with fail
    go_loopw [9] (fun v9 wr => ∃ (A : Option Addr) (c : Nat) (ps : List (SV × Atr)) (F G2 : List Nat) (x' : List (BitVec 8)), v9 = .slice A ps.length c ∧ LtI w wr q G x r bs v9 ps F G2 x') (fun v9 _ => x.length - slN v9)
    case atStart => exact ⟨none, 0, [], [], G1, x, rfl, ⟨AtO.nil _, (fun a h => by cases h), rfl, HR1.out, HM1.out, (fun k hk => by cases hk), fun k hk => by cases hk⟩⟩
    case round =>
      obtain ⟨A, c, ps, F, G2, x', rfl, hI⟩ := hrel
      have HI := Kp.mk hI
      have hln : ps.length + x'.length ≤ x.length := by
        have h1 := cut_len atr_cut _ hI.may
        have h2 := congrArg List.length hI.eq
        simp only [List.length_append, List.length_map] at h1 h2
        omega
      clear hI
      obtain ⟨wo, rfl⟩ : ∃ wo : World, wo = wr := ⟨_, rfl⟩
      have HNX := Kp.mk (Next_any HI.out.rr)
      cases hx' : x' with
      | nil =>
        subst hx'
        have hn : nxV [] = .tuple #[.int .u8 (ub (gb [] 0)), .bool false] := rfl
        rw [hn] at HNX
        clear hn
        have hap := Kp.mk HI.out
        go_wp2_with fail
        refine HNX.out.mono ?_
        rintro e w3 ⟨rfl, hw⟩
        obtain rfl : wo = w3 := hw.symm
        go_wp2_with fail
        refine (Leave_ok HI.out.rr (by omega)).mono ?_
        rintro e w4 ⟨rfl, G4, hr4, hm4⟩
        have HR4 := Kp.mk hr4
        have HM4 := Kp.mk hm4
        clear hr4 hm4
        go_wp2_with fail
        go_ret2
        have he := HI.out.eq
        rw [List.append_nil] at he
        refine .inl ⟨ps, r, A, c, F, G4, ⟨HI.out.may, by rw [he]; exact hxl⟩, ?_, rfl, HI.out.o.mds HM4.out.m HI.out.ap, HI.out.lo, HR4.out, HI.out.mv.trans HM4.out, (HM4.out.ap HI.out.o.hi_all HI.out.ap.symm).symm⟩
        rw [HEL.out.2.2]
        show elm 49 x ++ r = elm 49 _ ++ r
        rw [← he]
      | cons b0 t0 =>
        have hn : nxV (b0 :: t0) = .tuple #[.int .u8 (ub (gb (b0 :: t0) 0)), .bool true] := rfl
        rw [hx', hn] at HNX
        have HNE : Kp (x' ≠ []) := ⟨by rw [hx']; exact List.cons_ne_nil _ _⟩
        have hnl : ps.length < x.length := by
          rw [hx'] at hln
          simp at hln
          omega
        generalize gb (b0 :: t0) 0 = b1 at HNX
        clear hn hx'
        have HC3 := Kp.mk (readAttr_any HI.out.rr (by omega) (by simp; omega))
        go_wp2_with fail
        refine HNX.out.mono ?_
        rintro e w3 ⟨rfl, hw⟩
        obtain rfl : wo = w3 := hw.symm
        go_wp2_with fail
        refine HC3.out.mono ?_
        rintro e w4 (⟨a, r2, v, F2, G3, haw, hxa, rfl, han, hhi, hlo, hr4, hm4, hap4⟩ | ⟨hno, ⟨A5, B5, n5, c5, m5, d5, z5, k5, rfl⟩, hm4⟩)
        · obtain ⟨w5, hw5⟩ : ∃ w5, (w4.alloc (.cells #[.slice none 0 0, .int .u8 0, .slice none 0 0] 38)).setRow w4.heap.size #[kdV v, .int .u8 (ub a.mark), txV v] = w5 := ⟨_, rfl⟩
          have HZ := Kp.mk (Blk.new w4 38 #[.slice none 0 0, .int .u8 0, .slice none 0 0])
          have HB5 : Kp (Blk w5 w4.heap.size 38 #[kdV v, .int .u8 (ub a.mark), txV v]) := ⟨by rw [← hw5]; exact HZ.out.row _⟩
          have HX5 : Kp (Ext w4 w5) := ⟨by rw [← hw5]; exact Ext.setRow ((by (repeat (first | assumption | exact Ext.refl _ | apply Ext.drew | apply Ext.drewN | apply Ext.alloc | refine Ext.trans ?_ (by assumption))); first | done | fail) : Ext w4 (w4.alloc (.cells #[.slice none 0 0, .int .u8 0, .slice none 0 0] 38))) (Nat.le_refl _) _⟩
          have HW5 := Kp.mk hw5
          have HAW := Kp.mk haw
          have HXA := Kp.mk hxa
          have HAN := Kp.mk han
          have HHI := Kp.mk hhi
          have HLO := Kp.mk hlo
          have HR4 := Kp.mk hr4
          have HM4 := Kp.mk hm4
          have HA4 := Kp.mk hap4
          have HX6 : Kp (Ext w4 (w5.alloc (.cells #[kdV v, .int .u8 (ub a.mark), txV v] 38))) := ⟨HX5.out.trans ((by (repeat (first | assumption | exact Ext.refl _ | apply Ext.drew | apply Ext.drewN | apply Ext.alloc | refine Ext.trans ?_ (by assumption))); first | done | fail) : Ext w5 (w5.alloc (.cells #[kdV v, .int .u8 (ub a.mark), txV v] 38)))⟩
          have HO6 := Kp.mk ((HI.out.o.mds hm4.m HI.out.ap).ext HX6.out)
          have HAN6 := Kp.mk (han.mds (HX6.out.mds []) (fun _ _ h => by cases h))
          have HH6 : Kp (Hi (w5.alloc (.cells #[kdV v, .int .u8 (ub a.mark), txV v] 38)) F2) := ⟨hhi.mono HX6.out.size⟩
          clear hw5 haw hxa han hhi hlo hr4 hm4 hap4
          go_wp2_with (first | ((with_reducible refine at_store 12 34 ?_); refine wpList_store_row rfl 38 _ _ rfl w4.heap.size #[kdV v, .int .u8 (ub a.mark), txV v] rfl rfl 38 _ HZ.out.h szAt rfl (one3 _ _ _ _ _ _ _) ?_; rw [HW5.out]) | ((with_reducible refine at_load_to 40 12 ?_); refine wpList_load_row rfl 38 _ rfl w4.heap.size rfl 38 _ (0, 0) _ HB5.out.h Tryz.underlying38 rfl szAt ?_) | (at_builtin; refine wpList_append_at rfl (.tmp 39) (.tmp 41) rfl _ F ps rfl HO6.out w5.heap.size 1 (v, a) F2 rfl (Blk.new w5 38 _) HAN6.out HH6.out (by omega) (ps.length + 1) rfl ?_; intro A7 c7 w7 ho7 hap7) | fail)
          have HO7 := Kp.mk ho7
          have HP7 := Kp.mk hap7
          clear ho7 hap7
          go_roundw
          case rel =>
            have hlo1 : Lo w.heap.size (fpv (.slice A ps.length c)) := fun k hk => HI.out.lo k (List.mem_append.2 (.inl hk))
            have hs1 := HI.out.mv.m.size
            have hs2 := HM4.out.m.size
            have hs3 := HX6.out.size
            have hG3 : Hi w4 G3 := HR4.out.hi
            have hv3 : Ap (fpv (.slice A ps.length c) ++ F) G3 := (HM4.out.ap HI.out.o.hi_all HI.out.ap.symm).symm
            have hM : Mvs G G3 w (w5.alloc (.cells #[kdV v, .int .u8 (ub a.mark), txV v] 38)) := (HI.out.mv.trans HM4.out).post HX6.out
            refine ⟨A7, c7, ps ++ [(v, a)], F ++ F2, G3, r2, by simp, ⟨HO7.out, fun y hy => ?_, ?_, HR4.out.ext HX6.out |>.mds HP7.out.mds (fun k hk hk2 => hv3 k (List.mem_append.2 (.inl hk2)) hk), ⟨hM.m.behind HP7.out.mds hlo1, hM.f⟩, fun k hk => ?_, fun k hk => ?_⟩⟩
            · rw [List.map_append] at hy
              rcases List.mem_append.1 hy with e | e
              · exact HI.out.may y e
              · rw [List.mem_singleton.1 e]; exact HAW.out
            · rw [List.map_append, List.map_append, List.flatten_append, List.append_assoc]
              show _ ++ ((atrB a ++ []) ++ r2) = x
              rw [List.append_nil, ← HXA.out]
              exact HI.out.eq
            · rcases List.mem_append.1 hk with e | e
              · rcases HP7.out.fp k e with e2 | e2
                · exact hv3 k (List.mem_append.2 (.inl e2))
                · intro hk3
                  have := hG3 k hk3
                  omega
              · rcases List.mem_append.1 e with e2 | e2
                · exact hv3 k (List.mem_append.2 (.inr e2))
                · exact HA4.out k e2
            · rcases List.mem_append.1 hk with e | e
              · rcases HP7.out.fp k e with e2 | e2
                · exact hlo1 k e2
                · omega
              · rcases List.mem_append.1 e with e2 | e2
                · exact HI.out.lo k (List.mem_append.2 (.inr e2))
                · have := HLO.out k e2
                  omega
          case measure => simp [slN]; omega
        · have HNO := Kp.mk (no_step HI.out.may HI.out.eq HEL.out HNE.out hno)
          have M04 := Kp.mk (HI.out.mv.trans ⟨hm4, fun _ h => .inl h⟩).m
          clear hno hm4
          go_wp2_with (first | ((with_reducible refine at_store 12 34 ?_); refine wpList_store_row rfl 38 _ _ rfl w4.heap.size #[.slice A5 n5 c5, .int .u8 z5, .slice B5 m5 d5] rfl rfl 38 _ (Blk.new w4 38 #[.slice none 0 0, .int .u8 0, .slice none 0 0]).h szAt rfl (one3 _ _ _ _ _ _ _) ?_) | fail)
          go_ret2
          exact .inr ⟨HNO.out, ⟨_, rfl⟩, (M04.out.alloc _).setNew (by have := M04.out.size; omega) _⟩
  · have HNO : Kp (¬ ∃ (s : List Atr) (r : List (BitVec 8)), StW s ∧ rest = stpB s ++ r) := ⟨by
      rintro ⟨s, r', hs, e⟩
      exact hE ⟨_, _, by decide, hs.bd, e⟩⟩
    have HC := Kp.mk (Enter_err (m := 49) h (by omega) fun (h : isW 49 = true ∧ ∃ x r, El rest 49 x r) => hE h.2)
    clear hE h
    generalize erC rest 49 = k at *
    go_enter Tryz.func26, Tryz.ntmps26
    go_wp2_with fail
    refine HC.out.mono ?_
    rintro e w1 ⟨rfl, x1⟩
    have X1 := Kp.mk x1
    clear x1
    go_wp2_with fail
    go_ret2
    exact .inr ⟨HNO.out, ⟨_, rfl⟩, X1.out.mds G⟩
set_option maxHeartbeats 4000000 in
theorem readStep_any {w : World} {q : Nat} {G : List Nat} {rest : List (BitVec 8)} {bs : List (List (BitVec 8))} (h : Rr w q G rest bs) (hx : rest.length ≤ 1000000000) (hd : bs.length < 23) :
    Calls Tryz.prog 12 #[.pointer (some ⟨q, 0, none⟩)] w (RdS w q G rest bs) := by
  have HC := Kp.mk (listA_any h hx hd)
  clear h
  go_enter Tryz.func12, Tryz.ntmps12
  go_wp2_with fail
  refine HC.out.mono ?_
  rintro e w1 (⟨ps, r, A, c, F, G', h1, h2, rfl, h3, h4, h5, h6, h7⟩ | ⟨h1, ⟨k, rfl⟩, h3⟩)
  · have H : Kp (StW (ps.map Prod.snd) ∧ rest = stpB (ps.map Prod.snd) ++ r ∧ AtO w1 (.slice A ps.length c) F ps ∧ Lo w.heap.size (fpv (.slice A ps.length c) ++ F) ∧ Rr w1 q G' r bs ∧ Mvs G G' w w1 ∧ Ap (fpv (.slice A ps.length c) ++ F) G') := ⟨h1, h2, h3, h4, h5, h6, h7⟩
    clear h1 h2 h3 h4 h5 h6 h7
    go_wp2_with fail
    go_ret2
    obtain ⟨h1, h2, h3, h4, h5, h6, h7⟩ := H.out
    exact .inl ⟨ps, r, A, c, F, G', h1, h2, rfl, h3, h4, h5, h6, h7⟩
  · have H1 := Kp.mk h1
    have H3 := Kp.mk h3
    clear h1 h3
    go_wp2_with fail
    go_ret2
    exact .inr ⟨H1.out, ⟨k, rfl⟩, H3.out⟩
end Go.Proofs.YthookcnkmlmgcaaGreatDoor
