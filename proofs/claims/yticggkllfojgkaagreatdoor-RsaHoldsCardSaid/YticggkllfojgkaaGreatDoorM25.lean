/-
  The walk of the reference's Tail.
  The walks of the reference's fraction and primes.
  The walk of the reference's primes; rows of the call's own that grow one by one.
  The walks of the reference's Constants and Beginning.
-/
import Derived.Test.YticggkllfojgkaaGreatDoorM21
import Derived.Test.YticggkllfojgkaaGreatDoorM24
namespace Go.Proofs.YticggkllfojgkaaGreatDoor
open Go Go.RowKit
set_option maxRecDepth 4000

theorem own_has {w : World} {base g e n : Nat} {l : List (BitVec 8)} (h : Has w g e (bv l)) (hl : l.length = n) (hb : base ≤ g) (hm : n ≤ maxLen) : w.ownsRow base e 1 (.slice (some ⟨g, 0, none⟩) n n) n (l.map vb) := by
  subst hl
  refine ⟨by simp, .inr ⟨g, l.length, bv l, rfl, hb, h, Nat.le_refl _, hm, by rw [bv_size, Nat.mul_one], ?_⟩⟩
  rw [List.take_of_length_le (by simp [bv])]
  simp [bv]
/-- what the loops of the reference's Tail keep -/
def TI (w : World) (m : Nat) (l : List (BitVec 8)) (v : Value) (wr : World) : Prop := wr.ownsRow w.heap.size 5 1 v m (l.map vb) ∧ Below w.heap.size w wr

set_option maxHeartbeats 2000000 in
theorem refTail_any (n : Nat) (w : World) (hn : n ≤ 281474976710656) :
    Calls Tryz.prog 56 #[.int .i64 (n : Int)] w fun e w' => ∃ v, e = .returned v ∧ w'.ownsRow w.heap.size 5 1 v (tailLen n) ((tailTo n 8).map vb) ∧ Below w.heap.size w w' := by
  have hJ := tailZ_hi n
  go_enter Tryz.func56, Tryz.ntmps56
  go_wp2
  go_loopw [3] (fun v wr => ∃ j : Nat, j ≤ tailZ n ∧ TI w (1 + j) (128 :: zb j) v wr) (fun v _ => 100 - lenW v)
  case atStart =>
    exact ⟨0, Nat.zero_le _, own_has (Has.new w 5 (bv [128]) _ rfl) rfl (Nat.le_refl _) (by decide), (Below.refl _ _).alloc (Nat.le_refl _) _⟩
  case round =>
    obtain ⟨j, hj, hown, hb⟩ := hrel
    obtain ⟨A, c, rfl, hsl⟩ := Sl.of_own hown
    have hstop := tailZ_stop n j hj
    by_cases hlt : j = tailZ n
    · have h0 : ((n : Int) + (1 + (j : Int)) + 8) % 64 = 0 := by have := hstop.2 hlt; omega
      have hmk := run_mkbytes 8 8 rfl (by decide)
      have HJ := Lib.hid hlt
      clear hstop hlt
      go_wp2
      have hg : Has (wr.alloc (.cells (bv (zb 8)) 5)) wr.heap.size 5 (bv (beTo (8 * n) 0)) := Has.new _ _ _ _ rfl
      have hb2 : Below wr.heap.size wr (wr.alloc (.cells (bv (zb 8)) 5)) := (Below.refl _ _).alloc (Nat.le_refl _) _
      generalize (wr.alloc (.cells (bv (zb 8)) 5)) = w2 at *
      have HO := Lib.hid hown
      have HB := Lib.hid hb
      clear hown hb hsl hmk
      obtain ⟨wo, rfl⟩ : ∃ wo : World, wo = wr := ⟨_, rfl⟩
      go_loopw [5, 6] (fun b i wr => ∃ q : Nat, q ≤ 8 ∧ i = .int .i64 (7 - (q : Int)) ∧ b = .int .i64 ((8 * n / 256 ^ q : Nat) : Int) ∧ Has wr wo.heap.size 5 (bv (beTo (8 * n) q)) ∧ Below wo.heap.size wo wr) (fun _ i _ => (intOf i + 1).toNat)
      case atStart => exact ⟨0, by omega, rfl, by simp, hg, hb2⟩
      case round =>
        clear hg hb2
        obtain ⟨q, hq, rfl, rfl, hg, hb2⟩ := hrel
        have hm8 : 8 * n / 256 ^ q ≤ 8 * n := Nat.div_le_self _ _
        have hnx : 8 * n / 256 ^ (q + 1) = 8 * n / 256 ^ q / 256 := by rw [Nat.pow_succ, Nat.div_div_eq_div_mul]
        by_cases hlq : q < 8
        · have hst := hg.set (7 - q) (.int .u8 (ub (BitVec.ofNat 8 (8 * n / 256 ^ q))))
          rw [bv_set, show (beTo (8 * n) q).set (7 - q) (BitVec.ofNat 8 (8 * n / 256 ^ q)) = beTo (8 * n) (q + 1) from rfl, ub_ofNat] at hst
          have hc := (hg.cell (7 - q)).trans (bv_at _ (7 - q) (by rw [beTo_len]; omega))
          have hf := hg.frozen (7 - q)
          have HST := Lib.hid hst
          have HNX := Lib.hid hnx
          clear hst hnx
          obtain ⟨m, hm⟩ : ∃ m, 8 * n / 256 ^ q = m := ⟨_, rfl⟩
          rw [hm] at hm8 HST HNX ⊢
          clear hm
          go_wp2
          go_roundw
          case rel =>
            refine ⟨q + 1, by omega, ?_, ?_, HST.out, hb2.setCell (Nat.le_refl _) _⟩
            · exact congrArg (Value.int .i64) (by omega)
            · rw [HNX.out]; exact congrArg (Value.int .i64) (by omega)
          case measure => simp [intOf]; omega
        · obtain rfl : q = 8 := by omega
          have hown := own_below HO.out hb2
          have hbw : Below w.heap.size w wr := HB.out.trans (hb2.mono HB.out.size)
          have hl := sl_has hg (beTo_len _ _) (Nat.le_refl 8)
          have HH := Lib.hid hnx
          clear hnx
          go_wp2_with (first | (at_builtin; refine wpList_append_sl rfl _ _ 26 rfl w.heap.size 5 Tryz.underlying26 infoB _ (1 + j) _ rfl hown _ 8 8 (beTo (8 * n) 8) rfl hl (by omega) hbw.size ?_; intro v9 w9 hown9 hg9) | fail)
          have hb9 : Below w.heap.size w w9 := hbw.grown hg9 hbw.size (own_base hown)
          go_ret
          refine ⟨_, rfl, ?_, hb9⟩
          rw [tail_be n 8 (Nat.le_refl _), ← HJ.out, ← tailZ_len, ← HJ.out, List.map_append, show j + 9 = 1 + j + 8 by omega]
          exact hown9
    · have h0 : ¬ ((n : Int) + (1 + (j : Int)) + 8) % 64 = 0 := by intro e; exact hlt (hstop.1 (by omega))
      have HX := Lib.hid hlt
      clear hstop hlt
      go_wp2_with (first | (at_builtin; refine wpList_append_sl rfl _ _ 26 rfl w.heap.size 5 Tryz.underlying26 infoB _ (1 + j) _ rfl (hown.alloc _) _ 1 1 [0] rfl (sl_has (t := 5) (Has.new wr 5 (bv [0]) _ rfl) rfl (Nat.le_refl _)) (by omega) (Nat.le_trans hb.size (by simp)) ?_; intro v8 w8 hown8 hg8) | fail)
      have hb8 : Below w.heap.size w w8 := (hb.alloc hb.size _).grown hg8 (Nat.le_trans hb.size (by simp)) (own_base hown)
      rw [← List.map_append, List.cons_append, zb_snoc] at hown8
      obtain ⟨A8, c8, rfl, _⟩ := Sl.of_own hown8
      go_roundw
      case rel => exact ⟨j + 1, by have := HX.out; omega, hown8, hb8⟩
      case measure => simp [lenW]; omega
end Go.Proofs.YticggkllfojgkaaGreatDoor
namespace Go.Proofs.YticggkllfojgkaaGreatDoor
open Go Go.RowKit
set_option maxRecDepth 4000

/-- 'ok' of a round of fraction -/
theorem ok_cube (a : Int) (x p : Nat) (w : World) (hx : x < 137438953472) (hp : p < 4294967296) (ha : a = (x : Int)) :
    Calls Tryz.prog 107 #[.int .u64 a, .int .u64 (p : Int)] w fun e w' => e = .returned (.bool (okN true x p)) ∧ Below w.heap.size w w' := by
  subst ha; exact cube_any x p w hx hp
theorem ok_square (a : Int) (x p : Nat) (w : World) (hx : x < 137438953472) (hp : p < 4294967296) (ha : a = (x : Int)) :
    Calls Tryz.prog 108 #[.int .u64 a, .int .u64 (p : Int)] w fun e w' => e = .returned (.bool (okN false x p)) ∧ Below w.heap.size w w' := by
  subst ha; exact square_any x p w hx hp
theorem fr_end (third : Bool) (p : Nat) : fr third p 37 < 137438953473 := by
  have h := fr_hi third p 37 (Nat.le_refl _)
  rw [show 2 ^ 37 = 137438953472 by decide, show 37 - 37 = 0 by decide, Nat.pow_zero] at h
  omega
theorem fr_succ (third : Bool) (p i : Nat) : fr third p (i + 1) = if okN third (fr third p i + 2 ^ (36 - i)) p then fr third p i + 2 ^ (36 - i) else fr third p i := rfl

set_option maxHeartbeats 2000000 in
theorem fraction_any (p : Nat) (third : Bool) (w : World) (hp : p < 4294967296) :
    Calls Tryz.prog 79 #[.int .u64 (p : Int), .bool third] w fun e w' => e = .returned (.int .u32 (un (BitVec.ofNat 32 (fracN third p)))) ∧ Below w.heap.size w w' := by
  have HP := Lib.hid hp
  cases third
  · go_enter Tryz.func79, Tryz.ntmps79
    go_wp2
    go_loopw [5, 6] (fun x i wr => ∃ k : Nat, k ≤ 37 ∧ i = .int .i64 k ∧ x = .int .u64 ((fr false p k : Nat) : Int) ∧ Below w.heap.size w wr) (fun _ i _ => 37 - (intOf i).toNat)
    case atStart => exact ⟨0, by omega, rfl, rfl, Below.refl _ _⟩
    case round =>
      obtain ⟨k, hk, rfl, rfl, hb⟩ := hrel
      by_cases hlt : k < 37
      · have hy := fr_y false p k hlt
        have hs := fr_succ false p k
        obtain ⟨d, hd⟩ : ∃ d, d = 2 ^ (36 - k) := ⟨_, rfl⟩
        have hdi : (2 : Int) ^ (36 - k) = (d : Int) := by rw [hd]; simp
        rw [← hd] at hy hs
        have hw1 : IntKind.u64.wrap (2 ^ (36 - k)) = (d : Int) := by rw [hdi, u64_in _ (by omega) (by omega)]
        have HS := Lib.hid hs
        clear hs hd hdi
        generalize fr false p k = x at *
        cases hok : okN false (x + d) p
        · have HO := Lib.hid hok
          clear hok
          go_wp2_with (go_at_call 108; refine (ok_square _ (x + d) p _ hy HP.out (by omega)).mono ?_; rintro e w1 ⟨rfl, hb1⟩; rw [HO.out])
          have hbw := hb.trans (hb1.mono hb.size)
          go_roundw
          case rel =>
            refine ⟨k + 1, by omega, by go_num, congrArg (Value.int .u64) ?_, hbw⟩
            rw [HS.out, HO.out]; rfl
          case measure => simp [intOf]; omega
        · have HO := Lib.hid hok
          clear hok
          go_wp2_with (go_at_call 108; refine (ok_square _ (x + d) p _ hy HP.out (by omega)).mono ?_; rintro e w1 ⟨rfl, hb1⟩; rw [HO.out])
          have hbw := hb.trans (hb1.mono hb.size)
          go_roundw
          case rel =>
            refine ⟨k + 1, by omega, by go_num, congrArg (Value.int .u64) ?_, hbw⟩
            rw [HS.out, HO.out, if_pos rfl]; omega
          case measure => simp [intOf]; omega
      · obtain rfl : k = 37 := by omega
        have hf : fracN false p = fr false p 37 % 4294967296 := rfl
        have HF := Lib.hid hf
        clear hf
        have hxb : fr false p 37 < 137438953473 := fr_end _ _
        generalize fr false p 37 = x at *
        go_wp2
        go_ret
        refine ⟨congrArg (fun z => Ending.returned (.int .u32 z)) ?_, hb⟩
        rw [HF.out, un_ofNat _ (by omega)]; omega
  · go_enter Tryz.func79, Tryz.ntmps79
    go_wp2
    go_loopw [5, 6] (fun x i wr => ∃ k : Nat, k ≤ 37 ∧ i = .int .i64 k ∧ x = .int .u64 ((fr true p k : Nat) : Int) ∧ Below w.heap.size w wr) (fun _ i _ => 37 - (intOf i).toNat)
    case atStart => exact ⟨0, by omega, rfl, rfl, Below.refl _ _⟩
    case round =>
      obtain ⟨k, hk, rfl, rfl, hb⟩ := hrel
      by_cases hlt : k < 37
      · have hy := fr_y true p k hlt
        have hs := fr_succ true p k
        obtain ⟨d, hd⟩ : ∃ d, d = 2 ^ (36 - k) := ⟨_, rfl⟩
        have hdi : (2 : Int) ^ (36 - k) = (d : Int) := by rw [hd]; simp
        rw [← hd] at hy hs
        have hw1 : IntKind.u64.wrap (2 ^ (36 - k)) = (d : Int) := by rw [hdi, u64_in _ (by omega) (by omega)]
        have HS := Lib.hid hs
        clear hs hd hdi
        generalize fr true p k = x at *
        cases hok : okN true (x + d) p
        · have HO := Lib.hid hok
          clear hok
          go_wp2_with (go_at_call 107; refine (ok_cube _ (x + d) p _ hy HP.out (by omega)).mono ?_; rintro e w1 ⟨rfl, hb1⟩; rw [HO.out])
          have hbw := hb.trans (hb1.mono hb.size)
          go_roundw
          case rel =>
            refine ⟨k + 1, by omega, by go_num, congrArg (Value.int .u64) ?_, hbw⟩
            rw [HS.out, HO.out]; rfl
          case measure => simp [intOf]; omega
        · have HO := Lib.hid hok
          clear hok
          go_wp2_with (go_at_call 107; refine (ok_cube _ (x + d) p _ hy HP.out (by omega)).mono ?_; rintro e w1 ⟨rfl, hb1⟩; rw [HO.out])
          have hbw := hb.trans (hb1.mono hb.size)
          go_roundw
          case rel =>
            refine ⟨k + 1, by omega, by go_num, congrArg (Value.int .u64) ?_, hbw⟩
            rw [HS.out, HO.out, if_pos rfl]; omega
          case measure => simp [intOf]; omega
      · obtain rfl : k = 37 := by omega
        have hf : fracN true p = fr true p 37 % 4294967296 := rfl
        have HF := Lib.hid hf
        clear hf
        have hxb : fr true p 37 < 137438953473 := fr_end _ _
        generalize fr true p 37 = x at *
        go_wp2
        go_ret
        refine ⟨congrArg (fun z => Ending.returned (.int .u32 z)) ?_, hb⟩
        rw [HF.out, un_ofNat _ (by omega)]; omega
end Go.Proofs.YticggkllfojgkaaGreatDoor
namespace Go.Proofs.YticggkllfojgkaaGreatDoor
open Go Go.RowKit
set_option maxRecDepth 4000

/-- a slice whose cells read as a list of values -/
def Ow (w : World) (A : Option Addr) (n c : Nat) (xs : List Value) : Prop :=
  xs.length = n ∧ n ≤ c ∧ (0 < n → ∃ g, A = some ⟨g, 0, none⟩ ∧ ∀ j x, xs[j]? = some x → w.cell? ⟨g, j, none⟩ = some x)
theorem Ow.of_own {w : World} {base e n : Nat} {v : Value} {xs : List Value} (h : w.ownsRow base e 1 v n xs) : ∃ A c, v = .slice A n c ∧ Ow w A n c xs := by
  have hn : xs.length = n := by have := h.1; simpa using this
  rcases h.2 with ⟨rfl, rfl⟩ | ⟨g, cap, cur, rfl, _, hh, hc, _, _, ht⟩
  · exact ⟨none, 0, rfl, hn, Nat.le_refl _, fun h0 => absurd h0 (Nat.lt_irrefl 0)⟩
  · refine ⟨some ⟨g, 0, none⟩, cap, rfl, hn, hc, fun _ => ⟨g, rfl, fun j x hx => ?_⟩⟩
    have hj : j < n := by have := (List.getElem?_eq_some_iff.1 hx).1; omega
    have hcell : w.cell? ⟨g, j, none⟩ = cur[j]? := cell_of_row w g j cur e (0, 0) hh
    rw [hcell, ← hx, ← ht, List.getElem?_take_of_lt (by omega)]; simp
theorem Ow.keep {w w' : World} {A : Option Addr} {n c : Nat} {xs : List Value} (h : Ow w A n c xs) (hb : Below w.heap.size w w') : Ow w' A n c xs := by
  refine ⟨h.1, h.2.1, fun hn => ?_⟩
  obtain ⟨g, e, hc⟩ := h.2.2 hn
  exact ⟨g, e, fun j x hx => (hb.cell (p := ⟨g, j, none⟩) (block_lt_of_cell (hc j x hx))).trans (hc j x hx)⟩
/-- one value appended to a row of the call's own -/
theorem wpList_append_one {P : Program} {w : World} {ops : Array Oper} {rest : List Oper} {o : Oper} {a : Act} {Q : Exit → Act → World → Prop} (hgd : o.guard = none) (s x : Operand) (t : TypeId)
    (ho : o.op = .call { callee := .builtin .append, args := #[s, x], argTypes := #[t, t] })
    (base : Nat) (e : TypeId) (z : Value) (bytes : Nat) (ht : P.underlying t = some (.slice e)) (hi : (P.info? e).map (fun i => (i.zero, i.size, i.bytes)) = some (some z, 1, bytes)) (hz1 : z.cells.size = 1)
    (v : Value) (n : Nat) (xs : List Value) (hs : a.eval s = v) (hown : w.ownsRow base e 1 v n xs)
    (g u : Nat) (y : Value) (hx : a.eval x = .slice (some ⟨g, 0, none⟩) 1 1) (hg : Has w g u #[y]) (hy : y.oneCell' = true)
    (hn : (n + 1) * bytes ≤ 140737488355328) (hm : n + 1 ≤ maxLen) (hbase : base ≤ w.heap.size)
    (h : ∀ v' w', w'.ownsRow base e 1 v' (n + 1) (xs ++ [y]) → w.grownBy w' v.ownBlock → wpList P ops Q rest (a.put o.dst v') w') : wpList P ops Q (o :: rest) a w := by
  obtain ⟨i, hi0, hz, hs1, hb⟩ := info_parts hi
  refine wpList_append_own w hgd s x t ho base e i z 1 bytes ht hi0 hz hs1 hb hz1 (by decide) v n xs hs hown ⟨g, 0, none⟩ 1 1 [y] hx rfl ?_ ?_ hm hn hbase (fun v' w' h1 h2 _ => h v' w' h1 h2)
  · intro j q hq
    have hj : j = 0 := by
      have := (List.getElem?_eq_some_iff.1 hq).1
      simp at this; omega
    subst hj
    rw [show (⟨g, 0, none⟩ : Addr).add 0 = ⟨g, 0, none⟩ from by simp [Addr.add]]
    exact (hg.cell 0).trans (by simpa using hq)
  · intro q hq
    rw [List.mem_singleton.1 hq]; exact hy

/-- a number of 64 bits as a cell -/
abbrev vn (n : Nat) : Value := .int .u64 (n : Int)
theorem infoN : (Tryz.prog.info? 108).map (fun i => (i.zero, i.size, i.bytes)) = some (some (.int .u64 0), 1, 8) := by kernel_rfl
theorem vn_at (l : List Nat) (j : Nat) (h : j < l.length) : (l.map vn)[j]? = some (.int .u64 ((gn l j : Nat) : Int)) := by simp [gn, h]
theorem allTo_succ (l : List Nat) (p i : Nat) : allTo l p (i + 1) = (allTo l p i && (p % gn l i != 0)) := rfl
theorem outTo_succ (p : Nat) (hp : 2 ≤ p) : outTo (p + 1) = if allTo (outTo p) p (outTo p).length then outTo p ++ [p] else outTo p := by
  rw [outTo, decide_eq_true hp, Bool.true_and]
theorem outTo_two : outTo 2 = [] := by decide
theorem rem_ne (p q : Nat) : (((p : Int) % (q : Int)) != 0) = (p % q != 0) := by
  rw [← Int.natCast_emod]
  by_cases h : p % q = 0
  · rw [h]; rfl
  · rw [bne_iff_ne.2 h, bne_iff_ne]; omega

set_option maxHeartbeats 2000000 in
theorem primes_any (n P : Nat) (w : World) (hP : (outTo P).length = n) (hP1 : ∀ p, p < P → (outTo p).length < n) (hb2 : 2 ≤ P) (hb3 : P ≤ 1000) (hn : n ≤ 64) :
    Calls Tryz.prog 78 #[.int .i64 (n : Int)] w fun e w' => ∃ v, e = .returned v ∧ w'.ownsRow w.heap.size 108 1 v n ((outTo P).map vn) ∧ Below w.heap.size w w' := by
  have HP := Lib.hid hP
  have HP1 := Lib.hid hP1
  clear hP hP1
  go_enter Tryz.func78, Tryz.ntmps78
  go_wp2
  go_loopw [3, 4] (fun v pv wr => ∃ p : Nat, 2 ≤ p ∧ p ≤ P ∧ pv = .int .u64 p ∧ wr.ownsRow w.heap.size 108 1 v (outTo p).length ((outTo p).map vn) ∧ Below w.heap.size w wr) (fun _ pv _ => P - (intOf pv).toNat)
  case atStart =>
    exact ⟨2, by omega, by omega, rfl, by rw [outTo_two]; exact own_nil _ _ _, Below.refl _ _⟩
  case round =>
    obtain ⟨p, h2, hp, rfl, hown, hb⟩ := hrel
    obtain ⟨A, c, rfl, how⟩ := Ow.of_own hown
    by_cases hlt : p < P
    · have hln := HP1.out p hlt
      have hmem := outTo_mem p
      have hsuc := outTo_succ p h2
      have HMEM := Lib.hid hmem
      have HSUC := Lib.hid hsuc
      clear hmem hsuc
      generalize hL : outTo p = L at *
      obtain ⟨m, hm⟩ : ∃ m, L.length = m := ⟨_, rfl⟩
      have hgn : ∀ i, i < m → 2 ≤ gn L i ∧ gn L i < p := fun i hi => HMEM.out _ (gn_mem L i (by omega))
      have HGN := Lib.hid hgn
      have HOWN := Lib.hid hown
      have HB := Lib.hid hb
      clear hgn hown hb HMEM
      rw [hm] at hln how ⊢
      have HM := Lib.hid hm
      clear hm
      go_wp2
      obtain ⟨wo, rfl⟩ : ∃ wo : World, wo = wr := ⟨_, rfl⟩
      go_loopw [5, 6] (fun b i wr => ∃ j : Nat, j ≤ m ∧ i = .int .i64 j ∧ b = .bool (allTo L p j) ∧ wr = wo) (fun _ i _ => m - (intOf i).toNat)
      case atStart => exact ⟨0, by omega, rfl, rfl, rfl⟩
      case round =>
        obtain ⟨j, hj, rfl, rfl, rfl⟩ := hrel
        by_cases hlj : j < m
        · cases hok : allTo L p j
          · go_wp2
            go_roundw
            case rel => exact ⟨j + 1, by omega, by go_num, by rw [allTo_succ, hok]; rfl, trivial⟩
            case measure => simp [intOf]; omega
          · obtain ⟨g, rfl, hcells⟩ := how.2.2 (by omega)
            have hc := hcells j _ (vn_at L j (by rw [HM.out]; exact hlj))
            obtain ⟨hg2, hgp⟩ := HGN.out j hlj
            have hs := allTo_succ L p j
            have HS := Lib.hid hs
            clear hs hcells
            generalize gn L j = q at *
            go_wp2
            go_roundw
            case rel => exact ⟨j + 1, by omega, by go_num, by rw [HS.out, hok, Bool.true_and]; exact congrArg Value.bool (rem_ne p q), trivial⟩
            case measure => simp [intOf]; omega
        · obtain rfl : j = m := by omega
          cases hok : allTo L p j
          · go_wp2
            go_roundw
            case rel =>
              refine ⟨p + 1, by omega, by omega, by go_num, ?_, HB.out⟩
              rw [HSUC.out, HM.out, hok, if_neg (by simp), HM.out]
              have := HOWN.out
              rw [HM.out] at this
              exact this
            case measure => simp [intOf]; omega
          · have hown := HOWN.out
            rw [HM.out] at hown
            go_wp2_with (first | (at_builtin; refine wpList_append_one rfl _ _ 105 rfl w.heap.size 108 (.int .u64 0) 8 Tryz.underlying105 infoN rfl _ j _ rfl (hown.alloc _) wr.heap.size 108 (vn p) rfl (Has.new wr 108 #[vn p] _ rfl) rfl (by omega) (by unfold maxLen; omega) (Nat.le_trans HB.out.size (by simp)) ?_; intro v8 w8 hown8 hg8) | fail)
            have hb8 : Below w.heap.size w w8 := (HB.out.alloc HB.out.size _).grown hg8 (Nat.le_trans HB.out.size (by simp)) (own_base hown)
            go_roundw
            case rel =>
              refine ⟨p + 1, by omega, by omega, by go_num, ?_, hb8⟩
              rw [HSUC.out, HM.out, hok, if_pos rfl, List.map_append, List.length_append, HM.out]
              exact hown8
            case measure => simp [intOf]; omega
    · obtain rfl : p = P := by omega
      have HN := HP.out
      rw [HN] at hown how ⊢
      go_wp2
      go_ret
      exact ⟨_, rfl, hown, hb⟩
end Go.Proofs.YticggkllfojgkaaGreatDoor
namespace Go.Proofs.YticggkllfojgkaaGreatDoor
open Go Go.RowKit
set_option maxRecDepth 4000

theorem infoW : (Tryz.prog.info? 50).map (fun i => (i.zero, i.size, i.bytes)) = some (some (.int .u32 0), 1, 4) := by kernel_rfl
theorem own_mono {w : World} {base base' e n : Nat} {v : Value} {xs : List Value} (h : w.ownsRow base e 1 v n xs) (hb : base' ≤ base) : w.ownsRow base' e 1 v n xs := by
  refine ⟨h.1, ?_⟩
  rcases h.2 with h2 | ⟨g, cap, cur, h1, h3, h4⟩
  · exact .inl h2
  · exact .inr ⟨g, cap, cur, h1, Nat.le_trans hb h3, h4⟩
theorem conTo_len (third : Bool) (l : List Nat) (k : Nat) : (conTo third l k).length = k := by
  induction k with
  | zero => rfl
  | succ k ih => simp [conTo, ih]
theorem conTo_succ (third : Bool) (l : List Nat) (k : Nat) : conTo third l (k + 1) = conTo third l k ++ [BitVec.ofNat 32 (fracN third (gn l k))] := rfl
theorem primes64_any (w : World) : Calls Tryz.prog 78 #[.int .i64 64] w fun e w' => ∃ v, e = .returned v ∧ w'.ownsRow w.heap.size 108 1 v 64 ((outTo 312).map vn) ∧ Below w.heap.size w w' :=
  primes_any 64 312 w primes64 (fun p hp => by have h1 := outTo_mono p 311 (by omega); rw [primes63] at h1; omega) (by decide) (by decide) (by decide)
theorem primes8_any (w : World) : Calls Tryz.prog 78 #[.int .i64 8] w fun e w' => ∃ v, e = .returned v ∧ w'.ownsRow w.heap.size 108 1 v 8 ((outTo 20).map vn) ∧ Below w.heap.size w w' :=
  primes_any 8 20 w primes8 (fun p hp => by have h1 := outTo_mono p 19 (by omega); rw [primes7] at h1; omega) (by decide) (by decide) (by decide)
theorem frac_named (third : Bool) (p : Nat) (hp : p < 4294967296) : ∃ x, BitVec.ofNat 32 (fracN third p) = x ∧ ∀ w : World, Calls Tryz.prog 79 #[.int .u64 (p : Int), .bool third] w fun e w' => e = .returned (.int .u32 (un x)) ∧ Below w.heap.size w w' :=
  ⟨_, rfl, fun w => fraction_any p third w hp⟩
theorem prime_hi (P j : Nat) (hP : P ≤ 1000) (h : j < (outTo P).length) : gn (outTo P) j < 4294967296 := by
  have := outTo_mem P _ (gn_mem _ j h); omega

set_option maxHeartbeats 2000000 in
theorem Constants_any (w : World) :
    Calls Tryz.prog 54 #[] w fun e w' => ∃ v, e = .returned v ∧ w'.ownsRow w.heap.size 50 1 v 64 (KK.map vu) ∧ Below w.heap.size w w' := by
  go_enter Tryz.func54, Tryz.ntmps54
  go_wp2_with (go_at_call 78; refine (primes64_any _).mono ?_; rintro e w1 ⟨v1, rfl, hown1, hb1⟩)
  obtain ⟨A, c, rfl, how1⟩ := Ow.of_own hown1
  have HB1 := Lib.hid hb1
  clear hown1 hb1
  have hL : (outTo 312).length = 64 := primes64
  have hhi : ∀ j, j < 64 → gn (outTo 312) j < 4294967296 := fun j hj => prime_hi 312 j (by decide) (by omega)
  have hcon := con_KK
  have HCON := Lib.hid hcon
  clear hcon
  generalize outTo 312 = L at *
  go_wp2
  go_loopw [2, 3] (fun v i wr => ∃ k : Nat, k ≤ 64 ∧ i = .int .i64 k ∧ wr.ownsRow w1.heap.size 50 1 v k ((conTo true L k).map vu) ∧ Below w1.heap.size w1 wr) (fun _ i _ => 64 - (intOf i).toNat)
  case atStart => exact ⟨0, by omega, rfl, own_nil _ _ _, Below.refl _ _⟩
  case round =>
    obtain ⟨k, hk, rfl, hown, hb⟩ := hrel
    by_cases hlt : k < 64
    · have how := how1.keep hb
      obtain ⟨g, hA, hcells⟩ := how.2.2 (by omega)
      subst hA
      have hc := hcells k _ (vn_at L k (by omega))
      have hh := hhi k hlt
      have hs := conTo_succ true L k
      obtain ⟨x, hx, hfr⟩ := frac_named true (gn L k) hh
      rw [hx] at hs
      have HS := Lib.hid hs
      clear hs hx hh
      have HOW := Lib.hid how1
      clear hcells how how1
      obtain ⟨A2, c2, rfl, _⟩ := Ow.of_own hown
      generalize gn L k = p at *
      have HOWN := Lib.hid hown
      have HB := Lib.hid hb
      clear HCON hhi hL hown hb
      go_wp2_with fail
      refine (hfr _).mono ?_
      rintro e w2 ⟨rfl, hb2⟩
      have hbw : Below w1.heap.size w1 w2 := HB.out.trans (hb2.mono HB.out.size)
      have hown2 := own_below HOWN.out hb2
      have HOWN2 := Lib.hid hown2
      have HBW := Lib.hid hbw
      clear hown2 hbw hb2 HOWN HB hfr
      go_wp2_with (first | (at_builtin; refine wpList_append_one rfl _ _ 22 rfl w1.heap.size 50 (.int .u32 0) 4 Tryz.underlying22 infoW rfl _ k _ rfl (HOWN2.out.alloc _) w2.heap.size 50 (vu x) rfl (Has.new w2 50 #[vu x] _ rfl) rfl (by omega) (by unfold maxLen; omega) (Nat.le_trans HBW.out.size (by simp)) ?_; intro v8 w8 hown8 hg8) | fail)
      have hb8 : Below w1.heap.size w1 w8 := (HBW.out.alloc HBW.out.size _).grown hg8 (Nat.le_trans HBW.out.size (by simp)) (own_base HOWN2.out)
      go_roundw
      case rel =>
        refine ⟨k + 1, by omega, by go_num, ?_, hb8⟩
        rw [HS.out, List.map_append]
        exact hown8
      case measure => simp [intOf]; omega
    · obtain rfl : k = 64 := by omega
      rw [HCON.out] at hown
      go_wp2
      go_ret
      exact ⟨_, rfl, own_mono hown HB1.out.size, HB1.out.trans (hb.mono HB1.out.size)⟩

/-- the words as they grow in place -/
def begTo (l : List Nat) : Nat → List (BitVec 32)
  | 0 => List.replicate 8 0
  | k + 1 => (begTo l k).set k (BitVec.ofNat 32 (fracN false (gn l k)))
theorem begTo_succ (l : List Nat) (k : Nat) : begTo l (k + 1) = (begTo l k).set k (BitVec.ofNat 32 (fracN false (gn l k))) := rfl
theorem begTo_len (l : List Nat) (k : Nat) : (begTo l k).length = 8 := by
  induction k with
  | zero => rfl
  | succ k ih => simp [begTo, ih]
theorem begTo_HH : begTo (outTo 20) 8 = HH := by decide +kernel

set_option maxHeartbeats 2000000 in
theorem Beginning_any (w : World) :
    Calls Tryz.prog 55 #[] w fun e w' => e = .returned (.agg (wv HH)) ∧ Below w.heap.size w w' := by
  go_enter Tryz.func55, Tryz.ntmps55
  have hz : Has (w.alloc (.cells zero8 63)) w.heap.size 63 zero8 := Has.new _ _ _ _ rfl
  have hb0 : Below w.heap.size w (w.alloc (.cells zero8 63)) := (Below.refl _ _).alloc (Nat.le_refl _) _
  go_wp2_with (go_at_call 78; refine (primes8_any _).mono ?_; rintro e w1 ⟨v1, rfl, hown1, hb1⟩)
  have hz1 := hz.below hb1 hz.lt
  have hb01 := hb0.trans (hb1.mono hb0.size)
  obtain ⟨A, c, rfl, how1⟩ := Ow.of_own hown1
  clear hz hb0 hown1 hb1
  have hL : (outTo 20).length = 8 := primes8
  have hhi : ∀ j, j < 8 → gn (outTo 20) j < 4294967296 := fun j hj => prime_hi 20 j (by decide) (by omega)
  have hcon := begTo_HH
  have HCON := Lib.hid hcon
  clear hcon
  generalize outTo 20 = L at *
  go_wp2
  have hg0 : Has (w1.alloc (.cells zero8 63)) w1.heap.size 63 (wv (begTo L 0)) := Has.new _ _ _ _ rfl
  have hb2 : Below w1.heap.size w1 (w1.alloc (.cells zero8 63)) := (Below.refl _ _).alloc (Nat.le_refl _) _
  generalize (w1.alloc (.cells zero8 63)) = w2 at *
  go_loopw [3] (fun i wr => ∃ k : Nat, k ≤ 8 ∧ i = .int .i64 k ∧ Has wr w1.heap.size 63 (wv (begTo L k)) ∧ Below w1.heap.size w1 wr) (fun i _ => 8 - (intOf i).toNat)
  case atStart => exact ⟨0, by omega, rfl, hg0, hb2⟩
  case round =>
    clear hg0 hb2
    obtain ⟨k, hk, rfl, hg, hb⟩ := hrel
    by_cases hlt : k < 8
    · have how := how1.keep hb
      obtain ⟨g, hA, hcells⟩ := how.2.2 (by omega)
      subst hA
      have hc := hcells k _ (vn_at L k (by omega))
      have hh := hhi k hlt
      have hs := begTo_succ L k
      obtain ⟨x, hx, hfr⟩ := frac_named false (gn L k) hh
      rw [hx] at hs
      have HS := Lib.hid hs
      have HB := Lib.hid hb
      have HG := Lib.hid hg
      clear hs hx hh hcells how how1 HCON hhi hL hb hg hb01 hz1
      generalize gn L k = p at *
      go_wp2_with fail
      refine (hfr _).mono ?_
      rintro e w3 ⟨rfl, hb3⟩
      have hbw : Below w1.heap.size w1 w3 := HB.out.trans (hb3.mono HB.out.size)
      have hg3 := HG.out.below hb3 HG.out.lt
      have HG3 := Lib.hid hg3
      have HBW := Lib.hid hbw
      have hcell := (hg3.cell k).trans (wv_at _ k (by rw [begTo_len]; omega))
      have hf := hg3.frozen k
      clear hbw hb3 hg3 HB HG hfr hc
      go_wp2
      go_roundw
      case rel =>
        refine ⟨k + 1, by omega, by go_num, ?_, HBW.out.setCell (Nat.le_refl _) _⟩
        rw [HS.out, ← wv_set]
        exact HG3.out.set k _
      case measure => simp [intOf]; omega
    · obtain rfl : k = 8 := by omega
      rw [HCON.out] at hg
      have hz2 := hz1.below hb hz1.lt
      have hbw := hb01.trans (hb.mono hb01.size)
      have HZ := Lib.hid hz2
      have HBW := Lib.hid hbw
      have hlt1 := hz1.lt
      clear HCON hhi hL hb hb01 hz1 hz2 hbw how1
      go_wp2_with (first | (refine wpList_load_row rfl 63 _ rfl w1.heap.size rfl 63 _ (0, 0) _ hg Tryz.underlying63 rfl (szW8 _ HH_len) ?_) | (refine wpList_store_row rfl 63 _ _ rfl w.heap.size _ rfl rfl 63 _ HZ.out (szW8 _ HH_len) rfl (wv_one _) ?_) | fail)
      refine bodyPost_ret (v := .agg (wv HH)) ?_ rfl ⟨rfl, ?_⟩
      · exact results_cell_row rfl _ _ w.heap.size 63 _ (0, 0) _ rfl (HZ.out.row _) Tryz.underlying63 rfl (szW8 _ HH_len)
      · exact below_row HBW.out (Nat.le_refl _) _
end Go.Proofs.YticggkllfojgkaaGreatDoor
