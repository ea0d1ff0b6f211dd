/-
  prim: numbersOf, ReadOid.
-/
import Derived.Test.YtfipgmjaabggjaaDoorVKj
import Derived.Test.YtfipgmjaabggjaaDoorVTc
import Derived.Laws.BitsLemmas
namespace Go.Proofs.YtfipgmjaabggjaaDoor
open Go Go.RowKit
set_option maxRecDepth 4000

/-- a step of the numbers that groups make, all of 32 bits -/
def stO (s : List Nat × Nat) (x : BitVec 8) : List Nat × Nat := if x.toNat < 128 then (s.1 ++ [(s.2 * 128 + x.toNat % 128) % 4294967296], 0) else (s.1, (s.2 * 128 + x.toNat % 128) % 4294967296)
def stT (b : List (BitVec 8)) (j : Nat) : List Nat × Nat := (b.take j).foldl stO ([], 0)
/-- all numbers of a body -/
def pmO (b : List (BitVec 8)) : List Nat := (stT b b.length).1
theorem stT_succ (b : List (BitVec 8)) (j : Nat) (h : j < b.length) : stT b (j + 1) = stO (stT b j) (gb b j) := by
  unfold stT
  rw [take_gb b j h, List.foldl_append]
  rfl
theorem stO_p7 : ∀ (b : List (BitVec 8)) (acc : List Nat) (n : Nat), (b.foldl stO (acc, n % 4294967296)).1 = acc ++ (p7 n b).map (· % 4294967296)
  | [], acc, n => by simp [p7]
  | x :: r, acc, n => by
    rw [List.foldl_cons]
    unfold stO
    by_cases h : x.toNat < 128
    · rw [if_pos h]
      have := stO_p7 r (acc ++ [(n % 4294967296 * 128 + x.toNat % 128) % 4294967296]) 0
      rw [Nat.zero_mod] at this
      show (r.foldl stO (acc ++ [(n % 4294967296 * 128 + x.toNat % 128) % 4294967296], 0)).1 = _
      rw [this, p7, if_pos h, List.map_cons, List.append_assoc, show (n % 4294967296 * 128 + x.toNat % 128) % 4294967296 = (n * 128 + x.toNat % 128) % 4294967296 by omega]
      rfl
    · rw [if_neg h]
      show (r.foldl stO (acc, (n % 4294967296 * 128 + x.toNat % 128) % 4294967296)).1 = _
      rw [show (n % 4294967296 * 128 + x.toNat % 128) % 4294967296 = (n * 128 + x.toNat % 128) % 4294967296 by omega, stO_p7 r acc (n * 128 + x.toNat % 128), p7, if_neg h]
theorem pmO_back {l : List Nat} (h : OidP l) : oidU (pmO (oidB l)) = l := by
  have e : pmO (oidB l) = oidL l := by
    unfold pmO stT
    rw [List.take_length]
    have := stO_p7 (oidB l) [] 0
    rw [Nat.zero_mod] at this
    rw [this]
    unfold oidB
    rw [p7_all, List.nil_append]
    obtain ⟨a, b, r, rfl, h1, ha, hb, hc, hr⟩ := h
    show ((40 * a + b) :: r).map _ = (40 * a + b) :: r
    rw [List.map_cons, Nat.mod_eq_of_lt (by omega)]
    congr 1
    exact (List.map_congr_left fun x hx => Nat.mod_eq_of_lt (hr x hx)).trans (List.map_id _)
  rw [e, oidU_L h]
theorem oidU_app (l : List Nat) (x : Nat) (h : l ≠ []) : oidU (l ++ [x]) = oidU l ++ [x] := by
  match l, h with
  | z :: r, _ => rfl
theorem oidU_one (z : Nat) : oidU [z] = [(if z / 40 > 2 then 2 else z / 40), z - 40 * (if z / 40 > 2 then 2 else z / 40)] := rfl
theorem oidU_len (l : List Nat) : (oidU l).length ≤ l.length + 1 := by
  match l with
  | [] => exact Nat.zero_le _
  | z :: r => exact Nat.le_refl _
theorem stT_len (b : List (BitVec 8)) (j : Nat) (h : j ≤ b.length) : (stT b j).1.length ≤ j ∧ (stT b j).2 < 4294967296 ∧ Dg 4294967296 (stT b j).1 := by
  induction j with
  | zero => exact ⟨Nat.le_refl _, (by decide : 0 < 4294967296), fun d hd => by cases hd⟩
  | succ j ih =>
    obtain ⟨i1, i2, i3⟩ := ih (by omega)
    rw [stT_succ b j (by omega)]
    unfold stO
    split
    · refine ⟨by rw [List.length_append, List.length_singleton]; omega, (by decide : 0 < 4294967296), fun d hd => ?_⟩
      rcases List.mem_append.1 hd with hd | hd
      · exact i3 d hd
      · rw [List.mem_singleton.1 hd]
        exact Nat.mod_lt _ (by decide)
    · exact ⟨Nat.le_trans i1 (Nat.le_succ _), Nat.mod_lt _ (by decide), i3⟩
theorem oidU_dg {l : List Nat} (h : Dg 4294967296 l) : Dg 4294967296 (oidU l) := by
  match l, h with
  | [], _ => exact fun d hd => by cases hd
  | z :: r, h =>
    intro d hd
    have hz := h z (by simp)
    rcases List.mem_cons.1 hd with rfl | hd
    · split <;> omega
    · rcases List.mem_cons.1 hd with rfl | hd
      · omega
      · exact h d (by simp [hd])
abbrev u32t : TypeId := 70
theorem inU : (Tryd.prog.info? u32t).map (fun i => (i.zero, i.size, i.bytes)) = some (some (.int .u32 0), 1, 4) := by kernel_rfl
theorem lit_u (w : World) (x : Nat) : Rd vL (w.alloc (.cells #[.int .u32 (x : Int)] u32t)) (some ⟨w.heap.size, 0, none⟩) 1 1 [x] := by
  have := Rw.has (T := u32t) (e := vL) (B := 0) (n := 1) (l := [x]) (g := w.heap.size) (w := w.alloc (.cells #[.int .u32 (x : Int)] u32t)) (Has.new w u32t _ _ rfl) rfl (Nat.zero_le _) (by decide)
  exact this.rd
section
variable {w : World} {ops : Array Oper} {rest : List Oper} {o : Oper} {a : Act} {Q : Exit → Act → World → Prop}
theorem wpList_append_u (hgd : o.guard = none) (s x : Operand)
    (ho : o.op = .call { callee := .builtin .append, args := #[s, x], argTypes := #[22, 22] })
    (B : Nat) (v : Value) (n : Nat) (l1 : List Nat) (hs : a.eval s = v) (hown : Rw u32t vL w B v n l1)
    (A : Option Addr) (m c : Nat) (l2 : List Nat) (hx : a.eval x = .slice A m c) (hl : Rd vL w A m c l2)
    (h47 : (n + m) * 4 ≤ 140737488355328) (N : Nat) (hN : n + m = N) (L : List Nat) (hL : l1 ++ l2 = L) (w0 : World) (hx0 : Ext w0 w) (hB : w0.heap.size ≤ B) (hBw : B ≤ w.heap.size)
    (h : ∀ A' c' w', Rw u32t vL w' B (.slice A' N c') N L → Ext w0 w' → Apd w w' v (.slice A' N c') → wpList Tryd.prog ops Q rest (a.put o.dst (.slice A' N c')) w') : wpList Tryd.prog ops Q (o :: rest) a w :=
  wpList_append_rd 22 (.int .u32 0) 4 Tryd.underlying22 inU rfl (by decide) (fun _ => rfl) hgd s x ho B v n l1 hs hown A m c l2 hx hl h47 N hN L hL w0 hx0 hB hBw h
end
/-- the sums of a round -/
structure OStep (s : Nat) (x : BitVec 8) (q c n : Nat) (y : BitVec 8) : Prop where
  sh : IntKind.u32.wrap ((s : Int) * 128) = (q : Int)
  an : bits .andNot .u8 (ub x) 128 = ub y
  cv : IntKind.u32.wrap (ub y) = (c : Int)
  or_ : bits .or .u32 (q : Int) (c : Int) = (n : Int)
  val : n = (s * 128 + x.toNat % 128) % 4294967296
theorem ostep (s : Nat) (x : BitVec 8) : ∃ q c n y, OStep s x q c n y := by
  have hy : (BitVec.ofNat 8 (x.toNat % 128)).toNat = x.toNat % 128 := by rw [BitVec.toNat_ofNat]; omega
  refine ⟨s * 128 % 4294967296, x.toNat % 128, s * 128 % 4294967296 + x.toNat % 128, BitVec.ofNat 8 (x.toNat % 128), ?_, andnot128 x, ?_, ?_, by omega⟩
  · rw [IntKind.wrap_u32]; omega
  · unfold ub; rw [hy, IntKind.wrap_u32]; omega
  · rw [bits_join .u32 32 (by decide) (fun n h0 h1 => by rw [IntKind.wrap_u32]; omega) 7 _ _ (by omega) (by omega) (by omega) (by omega) (by omega) (by omega)]
    omega
set_option maxHeartbeats 4000000 in
theorem numbersOf_any {b : List (BitVec 8)} {A : Option Addr} {n c : Nat} {w : World} (h : Bs w A n c b) (hn : n ≤ 1000) :
    Calls Tryd.prog 49 #[.slice A n c] w fun e w' => ∃ A' c', e = .returned (.slice A' (oidU (pmO b)).length c') ∧ Rw u32t vL w' w.heap.size (.slice A' (oidU (pmO b)).length c') (oidU (pmO b)).length (oidU (pmO b)) ∧ Ext w w' := by
  have hl := h.len
  have HB := Kp.mk h
  have HL := Kp.mk hl
  clear h hl
  go_enter Tryd.func49, Tryd.ntmps49
  go_wp2_with fail
  go_loopw [3, 4, 10] (fun v m i wr => ∃ j N : Nat, ∃ A2 c2, j ≤ n ∧ N = (oidU (stT b j).1).length ∧ i = .int .i64 (j : Int) ∧ m = .int .u32 ((stT b j).2 : Int) ∧ v = .slice A2 N c2 ∧ Rw u32t vL wr w.heap.size (.slice A2 N c2) N (oidU (stT b j).1) ∧ Ext w wr) (fun _ _ i _ => n - (intOf i).toNat)
  case atStart => exact ⟨0, 0, none, 0, Nat.zero_le _, rfl, rfl, rfl, rfl, Rw.nil _ _, Ext.refl _⟩
  case round =>
    obtain ⟨j, N, A2, c2, hj, hN, rfl, rfl, rfl, ho, hx⟩ := hrel
    by_cases hlt : j < n
    · have b4 : (j : Int) < (n : Int) := by omega
      obtain ⟨g, o, rfl, hc⟩ := (HB.out.ext hx).s.2.2.2 (by omega)
      have k1 := hc j hlt
      have hst := stT_succ b j (by rw [HL.out]; exact hlt)
      obtain ⟨i1, i2, i3⟩ := stT_len b j (by rw [HL.out]; exact hj)
      have hUl := oidU_len (stT b j).1
      obtain ⟨q, z, m, y, hS⟩ := ostep (stT b j).2 (gb b j)
      obtain ⟨s1, s2, s3, s4, s5⟩ := hS
      have s6 := and128b (gb b j)
      have hm32 : m < 4294967296 := by rw [s5]; exact Nat.mod_lt _ (by decide)
      clear hc
      unfold stO at hst
      rw [← s5] at hst
      by_cases hx8 : (gb b j).toNat < 128
      · rw [if_pos hx8] at hst
        rw [if_neg (by omega)] at s6
        have HT := Kp.mk hst
        clear hst
        generalize gb b j = x at *
        cases hS1 : (stT b j).1 with
        | nil =>
          rw [hS1] at hN ho
          generalize (stT b j).2 = s at *
          obtain rfl : N = 0 := hN
          obtain ⟨f, hf⟩ : ∃ f, (if m / 40 > 2 then 2 else m / 40) = f := ⟨_, rfl⟩
          have f1 : (m : Int).tdiv 40 = ((m / 40 : Nat) : Int) := by rw [Int.tdiv_eq_ediv_of_nonneg (by omega)]; omega
          have f2 : IntKind.u32.wrap ((m / 40 : Nat) : Int) = ((m / 40 : Nat) : Int) := by rw [IntKind.wrap_u32]; omega
          have f3 : min ((m / 40 : Nat) : Int) 2 = (f : Int) := by rw [← hf]; split <;> omega
          have f4 : IntKind.u32.wrap (40 * (f : Int)) = ((40 * f : Nat) : Int) := by rw [IntKind.wrap_u32, ← hf]; split <;> omega
          have f5 : IntKind.u32.wrap ((m : Int) - ((40 * f : Nat) : Int)) = ((m - 40 * f : Nat) : Int) := by
            have : 40 * f ≤ m := by rw [← hf]; split <;> omega
            rw [IntKind.wrap_u32]; omega
          have H3 := Kp.mk (show oidU [m] = [f, m - 40 * f] by rw [oidU_one, hf])
          have HS1 := Kp.mk hS1
          clear hf hS1
          generalize m / 40 = m40 at *
          generalize hd : m - 40 * f = d at *
          generalize 40 * f = f40 at *
          have H1 := Kp.mk (show Rw u32t vL wr w.heap.size (.slice A2 0 c2) 0 [] from ho)
          have H2 := Kp.mk hx
          clear ho hx hd s5 hx8 i1 i2 i3 hUl
          go_wp2_with (first | (at_builtin; refine wpList_append_u rfl (.tmp 29) (.tmp 31) rfl w.heap.size _ 0 [] rfl (H1.out.ext (by (repeat (first | assumption | exact Ext.refl _ | apply Ext.drew | apply Ext.drewN | apply Ext.alloc | refine Ext.trans ?_ (by assumption))); first | done | fail)) _ 1 1 [f] rfl (lit_u wr f) (by omega) 1 rfl [f] rfl w (H2.out.trans (by (repeat (first | assumption | exact Ext.refl _ | apply Ext.drew | apply Ext.drewN | apply Ext.alloc | refine Ext.trans ?_ (by assumption))); first | done | fail)) (Nat.le_refl _) (H2.out.trans (by (repeat (first | assumption | exact Ext.refl _ | apply Ext.drew | apply Ext.drewN | apply Ext.alloc | refine Ext.trans ?_ (by assumption))); first | done | fail)).size ?_; intro A4 c4 w4 ho4 hx4 hap4) | (at_builtin; refine wpList_append_u rfl (.tmp 37) (.tmp 39) rfl w.heap.size _ 1 [f] rfl (ho4.ext (by (repeat (first | assumption | exact Ext.refl _ | apply Ext.drew | apply Ext.drewN | apply Ext.alloc | refine Ext.trans ?_ (by assumption))); first | done | fail)) _ 1 1 [d] rfl (lit_u w4 d) (by omega) 2 rfl [f, d] rfl w (hx4.trans (by (repeat (first | assumption | exact Ext.refl _ | apply Ext.drew | apply Ext.drewN | apply Ext.alloc | refine Ext.trans ?_ (by assumption))); first | done | fail)) (Nat.le_refl _) (hx4.trans (by (repeat (first | assumption | exact Ext.refl _ | apply Ext.drew | apply Ext.drewN | apply Ext.alloc | refine Ext.trans ?_ (by assumption))); first | done | fail)).size ?_; intro A5 c5 w5 ho5 hx5 hap5) | fail)
          go_roundw
          case rel =>
            have e : stT b (j + 1) = ([m], 0) := by rw [HT.out, HS1.out]; rfl
            refine ⟨j + 1, 2, A5, c5, hlt, by rw [e]; rfl, by go_num, by rw [e]; rfl, rfl, ?_, hx5⟩
            rw [e]
            show Rw u32t vL w5 w.heap.size (.slice A5 2 c5) 2 (oidU [m])
            rw [H3.out]
            exact ho5
          case measure => simp [intOf]; omega
        | cons a r =>
          have hne : (stT b j).1 ≠ [] := by rw [hS1]; exact fun h => by cases h
          have hU := oidU_app (stT b j).1 m hne
          have hN0 : N ≠ 0 := by rw [hN, hS1]; exact fun h => by cases h
          have d1 : ((N : Int) == 0) = false := beq_eq_false_iff_ne.2 (by omega)
          have d2 : ¬ N = 0 := hN0
          have hNm : N ≤ 1002 := by omega
          generalize (stT b j).2 = s at *
          generalize hT1 : (stT b j).1 = T at *
          have H1 := Kp.mk ho
          have H2 := Kp.mk hx
          have H3 := Kp.mk hU
          have H4 := Kp.mk hN
          clear ho hx hU hN s5 hx8 hS1 i1 i2 i3 hUl hne hN0 hT1
          go_wp2_with (first | (at_builtin; refine wpList_append_u rfl (.tmp 37) (.tmp 39) rfl w.heap.size _ N (oidU T) rfl (H1.out.ext (by (repeat (first | assumption | exact Ext.refl _ | apply Ext.drew | apply Ext.drewN | apply Ext.alloc | refine Ext.trans ?_ (by assumption))); first | done | fail)) _ 1 1 [m] rfl (lit_u wr m) (by omega) (N + 1) rfl (oidU T ++ [m]) rfl w (H2.out.trans (by (repeat (first | assumption | exact Ext.refl _ | apply Ext.drew | apply Ext.drewN | apply Ext.alloc | refine Ext.trans ?_ (by assumption))); first | done | fail)) (Nat.le_refl _) (H2.out.trans (by (repeat (first | assumption | exact Ext.refl _ | apply Ext.drew | apply Ext.drewN | apply Ext.alloc | refine Ext.trans ?_ (by assumption))); first | done | fail)).size ?_; intro A5 c5 w5 ho5 hx5 hap5) | fail)
          go_roundw
          case rel =>
            rw [← H3.out] at ho5
            refine ⟨j + 1, N + 1, A5, c5, hlt, ?_, by go_num, by rw [HT.out]; rfl, by first | rfl | (congr 1; omega), by rw [HT.out]; exact ho5, hx5⟩
            rw [HT.out]
            show N + 1 = (oidU (T ++ [m])).length
            rw [H3.out, List.length_append, ← H4.out]
            rfl
          case measure => simp [intOf]; omega
      · rw [if_neg hx8] at hst
        rw [if_pos (by omega)] at s6
        have HT := Kp.mk hst
        clear hst
        generalize gb b j = x at *
        generalize (stT b j).2 = s at *
        generalize (stT b j).1 = T at *
        have H1 := Kp.mk ho
        have H2 := Kp.mk hx
        have H4 := Kp.mk hN
        clear ho hx hN s5 hx8 i1 i2 i3 hUl
        go_wp2_with fail
        go_roundw
        case rel =>
          exact ⟨j + 1, N, A2, c2, hlt, by rw [HT.out]; exact H4.out, by go_num, by rw [HT.out], rfl, by rw [HT.out]; exact H1.out, H2.out.trans (by (repeat (first | assumption | exact Ext.refl _ | apply Ext.drew | apply Ext.drewN | apply Ext.alloc | refine Ext.trans ?_ (by assumption))); first | done | fail)⟩
        case measure => simp [intOf]; omega
    · obtain rfl : j = n := by omega
      have b4 : ¬ (j : Int) < (j : Int) := by omega
      have e : (stT b j).1 = pmO b := by unfold pmO; rw [HL.out]
      rw [e] at hN ho
      subst hN
      have H1 := Kp.mk ho
      have H2 := Kp.mk hx
      clear ho hx e
      go_wp2_with fail
      go_ret
      exact ⟨_, _, rfl, H1.out, H2.out.trans (by (repeat (first | assumption | exact Ext.refl _ | apply Ext.drew | apply Ext.drewN | apply Ext.alloc | refine Ext.trans ?_ (by assumption))); first | done | fail)⟩
set_option maxHeartbeats 4000000 in
theorem ReadOid_any {b : List (BitVec 8)} {A : Option Addr} {n c : Nat} {w : World} (h : Bs w A n c b) :
    Calls Tryd.prog 23 #[.slice A n c] w fun e w' =>
      (¬ (OidP (oidU (pmO b)) ∧ oidB (oidU (pmO b)) = b) ∧ e = .returned (.tuple #[.slice none 0 0, err 2]) ∧ Ext w w') ∨
      (OidP (oidU (pmO b)) ∧ oidB (oidU (pmO b)) = b ∧ ∃ A' c', e = .returned (.tuple #[.slice A' (oidU (pmO b)).length c', .nilIface]) ∧ Rw u32t vL w' w.heap.size (.slice A' (oidU (pmO b)).length c') (oidU (pmO b)).length (oidU (pmO b)) ∧ Ext w w') := by
  have hl := h.len
  have hDg : Dg 4294967296 (oidU (pmO b)) := oidU_dg (stT_len b b.length (Nat.le_refl _)).2.2
  by_cases h75 : 75 < n
  · have hno : ¬ (OidP (oidU (pmO b)) ∧ oidB (oidU (pmO b)) = b) := fun ⟨h1, h2⟩ => by
      have := oidB_len h1
      rw [h2] at this
      omega
    refine Calls.mono (R := fun e w' => e = .returned (.tuple #[.slice none 0 0, err 2]) ∧ Ext w w') ?_ fun _ _ h => .inl ⟨hno, h⟩
    have b1 : decide ((75 : Int) < (n : Int)) = true := decide_eq_true (by omega)
    clear hDg hno h hl h75
    go_enter Tryd.func23, Tryd.ntmps23
    go_wp2_with fail
    go_ret2
    exact ⟨rfl, (by (repeat (first | assumption | exact Ext.refl _ | apply Ext.drew | apply Ext.drewN | apply Ext.alloc | refine Ext.trans ?_ (by assumption))); first | done | fail)⟩
  · have b1 : decide ((75 : Int) < (n : Int)) = false := decide_eq_false (by omega)
    have hC := numbersOf_any h (by omega)
    obtain ⟨Q, hQ⟩ : ∃ Q, Q = oidU (pmO b) := ⟨_, rfl⟩
    rw [← hQ] at hDg hC ⊢
    obtain ⟨N, hN⟩ : ∃ N, N = Q.length := ⟨_, rfl⟩
    rw [← hN] at hC ⊢
    have HB := Kp.mk h
    have HD := Kp.mk hDg
    clear h hQ hDg hl
    by_cases hP : OidP Q
    · by_cases hE : oidB Q = b
      · refine Calls.mono (R := fun e w' => ∃ A' c', e = .returned (.tuple #[.slice A' N c', .nilIface]) ∧ Rw u32t vL w' w.heap.size (.slice A' N c') N Q ∧ Ext w w') ?_ fun _ _ h => .inr ⟨hP, hE, h⟩
        have HE := Kp.mk hE
        have HP := Kp.mk hP
        have HN := Kp.mk hN
        clear hE hP hN
        go_enter Tryd.func23, Tryd.ntmps23
        go_wp2_with fail
        refine hC.mono ?_
        rintro e w1 ⟨A1, c1, rfl, ho1, hx1⟩
        go_wp2_with fail
        refine (Oid_any ho1.rd HD.out).mono ?_
        rintro e w2 (⟨hno, rfl, hx2⟩ | ⟨_, A2, c2, rfl, hs2, ho2, hx2⟩)
        · exact absurd HP.out hno
        have hEq := Equal_any hs2 ((HB.out.ext hx1).ext hx2)
        have e1 : (oidB Q == b) = true := by rw [HE.out, beq_self_eq_true]
        rw [e1] at hEq
        clear hs2 ho2 e1
        generalize (oidB Q).length = M at *
        have H1 := Kp.mk (ho1.ext hx2)
        have H2 := Kp.mk (hx1.trans hx2)
        clear ho1 hx1 hx2 hC
        go_wp2_with (go_at_call 50; refine (hEq).mono ?_; rintro e w3 ⟨rfl, hw⟩; obtain rfl : w2 = w3 := hw.symm)
        go_ret2
        exact ⟨_, _, rfl, H1.out, H2.out⟩
      · refine Calls.mono (R := fun e w' => e = .returned (.tuple #[.slice none 0 0, err 2]) ∧ Ext w w') ?_ fun _ _ h => .inl ⟨fun h => hE h.2, h⟩
        have HE := Kp.mk hE
        have HP := Kp.mk hP
        clear hE hP hN
        go_enter Tryd.func23, Tryd.ntmps23
        go_wp2_with fail
        refine hC.mono ?_
        rintro e w1 ⟨A1, c1, rfl, ho1, hx1⟩
        go_wp2_with fail
        refine (Oid_any ho1.rd HD.out).mono ?_
        rintro e w2 (⟨hno, rfl, hx2⟩ | ⟨_, A2, c2, rfl, hs2, ho2, hx2⟩)
        · exact absurd HP.out hno
        have hEq := Equal_any hs2 ((HB.out.ext hx1).ext hx2)
        rw [beq_eq_false_iff_ne.2 HE.out] at hEq
        clear hs2 ho2
        generalize (oidB Q).length = M at *
        have H2 := Kp.mk (hx1.trans hx2)
        clear ho1 hx1 hx2 hC
        go_wp2_with (go_at_call 50; refine (hEq).mono ?_; rintro e w3 ⟨rfl, hw⟩; obtain rfl : w2 = w3 := hw.symm)
        go_ret2
        exact ⟨rfl, H2.out⟩
    · refine Calls.mono (R := fun e w' => e = .returned (.tuple #[.slice none 0 0, err 2]) ∧ Ext w w') ?_ fun _ _ h => .inl ⟨fun h => hP h.1, h⟩
      have HP := Kp.mk hP
      clear hP hN
      go_enter Tryd.func23, Tryd.ntmps23
      go_wp2_with fail
      refine hC.mono ?_
      rintro e w1 ⟨A1, c1, rfl, ho1, hx1⟩
      go_wp2_with fail
      refine (Oid_any ho1.rd HD.out).mono ?_
      rintro e w2 (⟨_, rfl, hx2⟩ | ⟨hyes, A2, c2, rfl, hs2, ho2, hx2⟩)
      · have H2 := Kp.mk (hx1.trans hx2)
        clear ho1 hx1 hx2 hC
        go_wp2_with fail
        go_ret2
        exact ⟨rfl, H2.out⟩
      · exact absurd hyes HP.out
end Go.Proofs.YtfipgmjaabggjaaDoor
