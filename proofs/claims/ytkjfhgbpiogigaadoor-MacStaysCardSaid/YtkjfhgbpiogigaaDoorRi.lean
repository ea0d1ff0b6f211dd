/-
  The walk of the reference's primes; rows of the call's own that grow one by one.
-/
import Derived.Test.YtkjfhgbpiogigaaDoorRh
namespace Go.Proofs.YtkjfhgbpiogigaaDoor
open Go Go.RowKit

/-- a slice whose cells read as a list of values -/
def Ow (w : World) (A : Option Addr) (n c : Nat) (xs : List Value) : Prop :=
  xs.length = n ∧ n ≤ c ∧ (0 < n → ∃ g, A = some ⟨g, 0, none⟩ ∧ ∀ j x, xs[j]? = some x → w.cell? ⟨g, j, none⟩ = some x)
theorem Ow.of_own {w : World} {base e n : Nat} {v : Value} {xs : List Value} (h : w.ownsRow base e 1 v n xs) : ∃ A c, v = .slice A n c ∧ Ow w A n c xs := by
  have hn : xs.length = n := by have := h.1; simpa using this
  rcases h.2 with ⟨rfl, rfl⟩ | ⟨g, cap, cur, rfl, _, hh, hc, _, _, ht⟩
  · exact ⟨none, 0, rfl, hn, Nat.le_refl _, fun h0 => absurd h0 (Nat.lt_irrefl 0)⟩
  · refine ⟨some ⟨g, 0, none⟩, cap, rfl, hn, hc, fun _ => ⟨g, rfl, fun j x hx => ?_⟩⟩
    have hj : j < n := by have := (List.getElem?_eq_some_iff.1 hx).1; omega
    have hcell : w.cell? ⟨g, j, none⟩ = cur[j]? := cell_of_row w g j cur e (0, 0) hh
    rw [hcell, ← hx, ← ht, List.getElem?_take_of_lt (by omega)]; simp
theorem Ow.keep {w w' : World} {A : Option Addr} {n c : Nat} {xs : List Value} (h : Ow w A n c xs) (hb : Below w.heap.size w w') : Ow w' A n c xs := by
  refine ⟨h.1, h.2.1, fun hn => ?_⟩
  obtain ⟨g, e, hc⟩ := h.2.2 hn
  exact ⟨g, e, fun j x hx => (hb.cell (p := ⟨g, j, none⟩) (block_lt_of_cell (hc j x hx))).trans (hc j x hx)⟩
/-- one value appended to a row of the call's own -/
theorem wpList_append_one {P : Program} {w : World} {ops : Array Oper} {rest : List Oper} {o : Oper} {a : Act} {Q : Exit → Act → World → Prop} (hgd : o.guard = none) (s x : Operand) (t : TypeId)
    (ho : o.op = .call { callee := .builtin .append, args := #[s, x], argTypes := #[t, t] })
    (base : Nat) (e : TypeId) (z : Value) (bytes : Nat) (ht : P.underlying t = some (.slice e)) (hi : (P.info? e).map (fun i => (i.zero, i.size, i.bytes)) = some (some z, 1, bytes)) (hz1 : z.cells.size = 1)
    (v : Value) (n : Nat) (xs : List Value) (hs : a.eval s = v) (hown : w.ownsRow base e 1 v n xs)
    (g u : Nat) (y : Value) (hx : a.eval x = .slice (some ⟨g, 0, none⟩) 1 1) (hg : Has w g u #[y]) (hy : y.oneCell' = true)
    (hn : (n + 1) * bytes ≤ 140737488355328) (hm : n + 1 ≤ maxLen) (hbase : base ≤ w.heap.size)
    (h : ∀ v' w', w'.ownsRow base e 1 v' (n + 1) (xs ++ [y]) → w.grownBy w' v.ownBlock → wpList P ops Q rest (a.put o.dst v') w') : wpList P ops Q (o :: rest) a w := by
  obtain ⟨i, hi0, hz, hs1, hb⟩ := info_parts hi
  refine wpList_append_own w hgd s x t ho base e i z 1 bytes ht hi0 hz hs1 hb hz1 (by decide) v n xs hs hown ⟨g, 0, none⟩ 1 1 [y] hx rfl ?_ ?_ hm hn hbase (fun v' w' h1 h2 _ => h v' w' h1 h2)
  · intro j q hq
    have hj : j = 0 := by
      have := (List.getElem?_eq_some_iff.1 hq).1
      simp at this; omega
    subst hj
    rw [show (⟨g, 0, none⟩ : Addr).add 0 = ⟨g, 0, none⟩ from by simp [Addr.add]]
    exact (hg.cell 0).trans (by simpa using hq)
  · intro q hq
    rw [List.mem_singleton.1 hq]; exact hy

/-- a number of 64 bits as a cell -/
abbrev vn (n : Nat) : Value := .int .u64 (n : Int)
theorem infoN : (Tryd.prog.info? 72).map (fun i => (i.zero, i.size, i.bytes)) = some (some (.int .u64 0), 1, 8) := by kernel_rfl
theorem vn_at (l : List Nat) (j : Nat) (h : j < l.length) : (l.map vn)[j]? = some (.int .u64 ((gn l j : Nat) : Int)) := by simp [gn, h]
theorem allTo_succ (l : List Nat) (p i : Nat) : allTo l p (i + 1) = (allTo l p i && (p % gn l i != 0)) := rfl
theorem outTo_succ (p : Nat) (hp : 2 ≤ p) : outTo (p + 1) = if allTo (outTo p) p (outTo p).length then outTo p ++ [p] else outTo p := by
  rw [outTo, decide_eq_true hp, Bool.true_and]
theorem outTo_two : outTo 2 = [] := by decide
theorem rem_ne (p q : Nat) : (((p : Int) % (q : Int)) != 0) = (p % q != 0) := by
  rw [← Int.natCast_emod]
  by_cases h : p % q = 0
  · rw [h]; rfl
  · rw [bne_iff_ne.2 h, bne_iff_ne]; omega

set_option maxHeartbeats 2000000 in
theorem primes_any (n P : Nat) (w : World) (hP : (outTo P).length = n) (hP1 : ∀ p, p < P → (outTo p).length < n) (hb2 : 2 ≤ P) (hb3 : P ≤ 1000) (hn : n ≤ 64) :
    Calls Tryd.prog 46 #[.int .i64 (n : Int)] w fun e w' => ∃ v, e = .returned v ∧ w'.ownsRow w.heap.size 72 1 v n ((outTo P).map vn) ∧ Below w.heap.size w w' := by
  have HP := Lib.hid hP
  have HP1 := Lib.hid hP1
  clear hP hP1
  go_enter Tryd.func46, Tryd.ntmps46
  go_wp2
  go_loopw [3, 4] (fun v pv wr => ∃ p : Nat, 2 ≤ p ∧ p ≤ P ∧ pv = .int .u64 p ∧ wr.ownsRow w.heap.size 72 1 v (outTo p).length ((outTo p).map vn) ∧ Below w.heap.size w wr) (fun _ pv _ => P - (intOf pv).toNat)
  case atStart =>
    exact ⟨2, by omega, by omega, rfl, by rw [outTo_two]; exact own_nil _ _ _, Below.refl _ _⟩
  case round =>
    obtain ⟨p, h2, hp, rfl, hown, hb⟩ := hrel
    obtain ⟨A, c, rfl, how⟩ := Ow.of_own hown
    by_cases hlt : p < P
    · have hln := HP1.out p hlt
      have hmem := outTo_mem p
      have hsuc := outTo_succ p h2
      have HMEM := Lib.hid hmem
      have HSUC := Lib.hid hsuc
      clear hmem hsuc
      generalize hL : outTo p = L at *
      obtain ⟨m, hm⟩ : ∃ m, L.length = m := ⟨_, rfl⟩
      have hgn : ∀ i, i < m → 2 ≤ gn L i ∧ gn L i < p := fun i hi => HMEM.out _ (gn_mem L i (by omega))
      have HGN := Lib.hid hgn
      have HOWN := Lib.hid hown
      have HB := Lib.hid hb
      clear hgn hown hb HMEM
      rw [hm] at hln how ⊢
      have HM := Lib.hid hm
      clear hm
      go_wp2
      obtain ⟨wo, rfl⟩ : ∃ wo : World, wo = wr := ⟨_, rfl⟩
      go_loopw [5, 6] (fun b i wr => ∃ j : Nat, j ≤ m ∧ i = .int .i64 j ∧ b = .bool (allTo L p j) ∧ wr = wo) (fun _ i _ => m - (intOf i).toNat)
      case atStart => exact ⟨0, by omega, rfl, rfl, rfl⟩
      case round =>
        obtain ⟨j, hj, rfl, rfl, rfl⟩ := hrel
        by_cases hlj : j < m
        · cases hok : allTo L p j
          · go_wp2
            go_roundw
            case rel => exact ⟨j + 1, by omega, by go_num, by rw [allTo_succ, hok]; rfl, trivial⟩
            case measure => simp [intOf]; omega
          · obtain ⟨g, rfl, hcells⟩ := how.2.2 (by omega)
            have hc := hcells j _ (vn_at L j (by rw [HM.out]; exact hlj))
            obtain ⟨hg2, hgp⟩ := HGN.out j hlj
            have hs := allTo_succ L p j
            have HS := Lib.hid hs
            clear hs hcells
            generalize gn L j = q at *
            go_wp2
            go_roundw
            case rel => exact ⟨j + 1, by omega, by go_num, by rw [HS.out, hok, Bool.true_and]; exact congrArg Value.bool (rem_ne p q), trivial⟩
            case measure => simp [intOf]; omega
        · obtain rfl : j = m := by omega
          cases hok : allTo L p j
          · go_wp2
            go_roundw
            case rel =>
              refine ⟨p + 1, by omega, by omega, by go_num, ?_, HB.out⟩
              rw [HSUC.out, HM.out, hok, if_neg (by simp), HM.out]
              have := HOWN.out
              rw [HM.out] at this
              exact this
            case measure => simp [intOf]; omega
          · have hown := HOWN.out
            rw [HM.out] at hown
            go_wp2_with (first | (at_builtin; refine wpList_append_one rfl _ _ 69 rfl w.heap.size 72 (.int .u64 0) 8 Tryd.underlying69 infoN rfl _ j _ rfl (hown.alloc _) wr.heap.size 72 (vn p) rfl (Has.new wr 72 #[vn p] _ rfl) rfl (by omega) (by unfold maxLen; omega) (Nat.le_trans HB.out.size (by simp)) ?_; intro v8 w8 hown8 hg8) | fail)
            have hb8 : Below w.heap.size w w8 := (HB.out.alloc HB.out.size _).grown hg8 (Nat.le_trans HB.out.size (by simp)) (own_base hown)
            go_roundw
            case rel =>
              refine ⟨p + 1, by omega, by omega, by go_num, ?_, hb8⟩
              rw [HSUC.out, HM.out, hok, if_pos rfl, List.map_append, List.length_append, HM.out]
              exact hown8
            case measure => simp [intOf]; omega
    · obtain rfl : p = P := by omega
      have HN := HP.out
      rw [HN] at hown how ⊢
      go_wp2
      go_ret
      exact ⟨_, rfl, hown, hb⟩
end Go.Proofs.YtkjfhgbpiogigaaDoor
