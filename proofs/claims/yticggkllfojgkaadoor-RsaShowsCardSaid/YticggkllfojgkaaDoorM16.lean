/-
  The library's slices.Concat of any parts, bytes.Equal, HasPrefix, CutPrefix, IndexByte.
  bytes.TrimLeft of noughts; nat: Read.
  nat: Read.
  rsa: laidOut, laidToHide, raised, textOf.
-/
import Derived.Test.YticggkllfojgkaaDoorM15
import Derived.Lib.BytesEntry
import Derived.Test.YticggkllfojgkaaDoorM11
import Derived.Test.YticggkllfojgkaaDoorM9
import Derived.Test.YticggkllfojgkaaDoorM14
namespace Go.Proofs.YticggkllfojgkaaDoor
open Go Go.RowKit
set_option maxRecDepth 4000

/-- one of the parts that are joined -/
structure Part where
  A : Option Addr
  n : Nat
  c : Nat
  l : List (BitVec 8)
def Part.v (p : Part) : Value := .slice p.A p.n p.c
def pN : List Part → Nat
  | [] => 0
  | p :: r => p.n + pN r
def pL : List Part → List (BitVec 8)
  | [] => []
  | p :: r => p.l ++ pL r
theorem pN_take (ps : List Part) (j : Nat) (p : Part) (h : ps[j]? = some p) : pN (ps.take (j + 1)) = pN (ps.take j) + p.n := by
  induction ps generalizing j with
  | nil => cases h
  | cons q r ih =>
    cases j with
    | zero => simp at h; subst h; simp [pN]
    | succ j =>
      have h2 := ih j (by simpa using h)
      rw [List.take_succ_cons, List.take_succ_cons, pN, pN, h2]
      omega
theorem pL_take (ps : List Part) (j : Nat) (p : Part) (h : ps[j]? = some p) : pL (ps.take (j + 1)) = pL (ps.take j) ++ p.l := by
  induction ps generalizing j with
  | nil => cases h
  | cons q r ih =>
    cases j with
    | zero => simp at h; subst h; simp [pL]
    | succ j =>
      have h2 := ih j (by simpa using h)
      rw [List.take_succ_cons, List.take_succ_cons, pL, pL, h2, List.append_assoc]
theorem pN_le (ps : List Part) : ∀ j, pN (ps.take j) ≤ pN ps := by
  induction ps with
  | nil => intro j; simp [pN]
  | cons q r ih =>
    intro j
    cases j with
    | zero => simp [pN]
    | succ j =>
      rw [List.take_succ_cons, pN, pN]
      have := ih j
      omega
set_option maxHeartbeats 2000000 in
theorem ConcatP {ps : List Part} {k g t : Nat} {w : World} (hk : ps.length = k) (hp : ∀ (j : Nat) (p : Part), ps[j]? = some p → Bs w p.A p.n p.c p.l) (hB : Blk w g t (ps.map Part.v).toArray) (h0 : 0 < pN ps) (hn : pN ps ≤ 140737488351232) (hk2 : k ≤ 100) :
    Calls Tryd.prog 53 #[.slice (some ⟨g, 0, none⟩) k k] w (Fresh w (pN ps) (pL ps)) := by
  go_enter Tryd.func53, Tryd.ntmps53
  have HP := Kp.mk hp
  have HB := Kp.mk hB
  have hat : ∀ j, j < k → ∃ p, ps[j]? = some p := fun j hj => ⟨ps[j], by simp [hk, hj]⟩
  have HAT := Kp.mk hat
  have HK := Kp.mk hk
  clear hp hB hat hk
  go_wp2_with fail
  go_loopw [3, 11] (fun sv iv wr => ∃ j : Nat, j ≤ k ∧ iv = .int .i64 j ∧ sv = .int .i64 ((pN (ps.take j) : Nat) : Int) ∧ wr = w) (fun _ i _ => k - (intOf i).toNat)
  case atStart => exact ⟨0, by omega, rfl, rfl, rfl⟩
  case round =>
    obtain ⟨j, hj, rfl, rfl, rfl⟩ := hrel
    by_cases hlt : j < k
    · obtain ⟨p, hp⟩ := HAT.out j hlt
      have c0 := HB.out.h.cell j
      rw [show ((ps.map Part.v).toArray)[j]? = some (.slice p.A p.n p.c) by simp [hp, Part.v]] at c0
      have h1 := pN_take ps j p hp
      have h2 := pN_le ps (j + 1)
      have h3 := HP.out j p hp
      have hcap := h3.cap
      have hs : (((pN (ps.take j) : Nat) : Int)) + (p.n : Int) = ((pN (ps.take (j + 1)) : Nat) : Int) := by omega
      have b0 : (j : Int) < (k : Int) := by omega
      clear h1 h3 hp
      generalize pN (ps.take j) = S at *
      obtain ⟨T, hT⟩ : ∃ T, pN (ps.take (j + 1)) = T := ⟨_, rfl⟩
      rw [hT] at hs h2
      have HTK := Kp.mk hT
      clear hT
      have b1 : IntKind.i64.wrap (T : Int) = (T : Int) := by rw [IntKind.wrap_i64]; omega
      have b2 : decide ((T : Int) < 0) = false := decide_eq_false (by omega)
      go_wp2_with fail
      go_roundw
      case rel => exact ⟨j + 1, by omega, by go_num, by rw [HTK.out], trivial⟩
      case measure => simp [intOf]; omega
    · obtain rfl : j = k := by omega
      rw [List.take_of_length_le (by rw [HK.out]; exact Nat.le_refl _)]
      have b0 : decide ((j : Int) < (j : Int)) = false := decide_eq_false (by omega)
      obtain ⟨N, hN⟩ : ∃ N, pN ps = N := ⟨_, rfl⟩
      rw [hN] at h0 hn ⊢
      have HN := Kp.mk hN
      clear hN hlt hj
      go_wp2_with (go_at_call 69; refine (Grow_any N h0 hn _).mono ?_; rintro e w1 ⟨A3, c3, rfl, ho3, hx3⟩)
      obtain ⟨wo, rfl⟩ : ∃ wo : World, wo = wr := ⟨_, rfl⟩
      go_loopw [6, 27] (fun nv iv wq => ∃ i : Nat, i ≤ j ∧ iv = .int .i64 i ∧ (∃ A c, nv = .slice A (pN (ps.take i)) c) ∧ Own wq wo.heap.size nv (pN (ps.take i)) (pL (ps.take i)) ∧ Ext wo wq) (fun _ i _ => j - (intOf i).toNat)
      case atStart => exact ⟨0, by omega, rfl, ⟨_, _, rfl⟩, ho3, hx3⟩
      case round =>
        clear ho3 hx3
        obtain ⟨i, hi, rfl, ⟨A4, c4, rfl⟩, ho4, hx4⟩ := hrel
        by_cases hlt : i < j
        · obtain ⟨p, hp⟩ := HAT.out i hlt
          have c0 := (HB.out.ext hx4).h.cell i
          rw [show ((ps.map Part.v).toArray)[i]? = some (.slice p.A p.n p.c) by simp [hp, Part.v]] at c0
          have h1 := pN_take ps i p hp
          have h2 := pL_take ps i p hp
          have h4 := pN_le ps (i + 1)
          have H3 := Kp.mk ((HP.out i p hp).ext hx4)
          have HS := Kp.mk hx4.size
          have HO := Kp.mk ho4
          have HX := Kp.mk hx4
          have HE := Kp.mk h2
          have hb : pN (ps.take i) + p.n ≤ 140737488355328 := by have := HN.out; omega
          have HQ := Kp.mk h1
          have b1 : (i : Int) < (j : Int) := by omega
          obtain ⟨Ap, np, cp, lp⟩ := p
          clear h1 h2 h4 hp ho4 hx4
          generalize pN (ps.take i) = S at *
          generalize pL (ps.take i) = L at *
          obtain ⟨T, hT⟩ : ∃ T, pN (ps.take (i + 1)) = T := ⟨_, rfl⟩
          obtain ⟨M, hM⟩ : ∃ M, pL (ps.take (i + 1)) = M := ⟨_, rfl⟩
          rw [hT] at HQ
          rw [hM] at HE
          have HTK := Kp.mk hT
          have HMK := Kp.mk hM
          clear hT hM
          go_wp2_with (first | (at_builtin; refine wpList_append_bs rfl (.tmp 31) (.tmp 32) rfl wo.heap.size _ S L rfl HO.out Ap np cp lp rfl H3.out hb T HQ.out.symm M HE.out.symm wo HX.out (Nat.le_refl _) HS.out ?_; intro A5 c5 w5 ho5 hx5 _) | fail)
          go_roundw
          case rel => exact ⟨i + 1, by omega, by go_num, ⟨A5, c5, by rw [HTK.out]⟩, by rw [HTK.out, HMK.out]; exact ho5, hx5⟩
          case measure => simp [intOf]; omega
        · obtain rfl : i = j := by omega
          rw [List.take_of_length_le (by rw [HK.out]; exact Nat.le_refl _), HN.out] at ho4
          rw [List.take_of_length_le (by rw [HK.out]; exact Nat.le_refl _), HN.out]
          clear hlt hi
          go_wp2_with fail
          go_ret
          have hN := HN.out
          subst hN
          exact ⟨_, _, rfl, ho4.bs, ho4, hx4⟩
theorem str_beq (l1 l2 : List (BitVec 8)) : ((strOf l1).toList == (strOf l2).toList) = (l1 == l2) := by rw [strOf_toList, strOf_toList, of_beq]
theorem Equal_any {l1 l2 : List (BitVec 8)} {A B : Option Addr} {n c m d : Nat} {w : World} (h1 : Bs w A n c l1) (h2 : Bs w B m d l2) :
    Calls Tryd.prog 37 #[.slice A n c, .slice B m d] w fun e w' => e = .returned (.bool (l1 == l2)) ∧ w' = w := by
  have k1 := h1.str (Ext.refl w)
  have k2 := h2.str (Ext.refl w)
  rw [← str_beq]
  clear h1 h2
  go_enter Tryd.func37, Tryd.ntmps37
  go_wp2
  go_ret
  exact ⟨rfl, rfl⟩
set_option maxHeartbeats 1000000 in
/-- does it begin so? -/
theorem HasPrefix_any {l1 l2 : List (BitVec 8)} {A B : Option Addr} {n c m d : Nat} {w : World} (h1 : Bs w A n c l1) (h2 : Bs w B m d l2) (hn : n ≤ 4611686018427387904) (hm : m ≤ 4611686018427387904) (b : Bool) (hb : b = true ↔ l1.take m = l2) :
    Calls Tryd.prog 68 #[.slice A n c, .slice B m d] w fun e w' => e = .returned (.bool b) ∧ w' = w := by
  have e1 := h1.len
  have e2 := h2.len
  by_cases hle : m ≤ n
  · have h3 := h1.take m hle
    have b0 : (m : Int) ≤ (n : Int) := by omega
    have hcap := h1.cap
    have hs := fun W => run_upto (P := Tryd.prog) A n c 26 5 Tryd.underlying26 szB m (m : Int) rfl (by omega) W
    have C := Kp.mk (Equal_any h3 h2)
    rw [show (l1.take m == l2) = b by
      cases b
      · exact beq_eq_false_iff_ne.2 fun e => by have := hb.2 e; cases this
      · exact beq_iff_eq.2 (hb.1 rfl)] at C
    clear h1 h2 h3 hb e1 e2 hle
    cases b
    · go_enter Tryd.func68, Tryd.ntmps68
      go_wp2_with (go_at_call 37; refine C.out.mono ?_; rintro e w1 ⟨rfl, rfl⟩)
      go_ret
      exact ⟨rfl, rfl⟩
    · go_enter Tryd.func68, Tryd.ntmps68
      go_wp2_with (go_at_call 37; refine C.out.mono ?_; rintro e w1 ⟨rfl, rfl⟩)
      go_ret
      exact ⟨rfl, rfl⟩
  · obtain rfl : b = false := by
      cases b
      · rfl
      · have h3 := hb.1 rfl
        have := congrArg List.length h3
        rw [List.length_take] at this
        omega
    have b0 : decide ((m : Int) ≤ (n : Int)) = false := decide_eq_false (by omega)
    clear h1 h2 hb e1 e2
    go_enter Tryd.func68, Tryd.ntmps68
    go_wp2_with fail
    go_ret
    exact ⟨rfl, rfl⟩
theorem Bs.drop {w : World} {A : Option Addr} {n c : Nat} {l : List (BitVec 8)} (h : Bs w A n c l) (k : Nat) (hk : k ≤ n) : Bs w (if c = k then A else A.map (·.add k)) (n - k) (c - k) (l.drop k) := by
  have hl := h.len
  have hcap := h.cap
  refine ⟨by rw [List.length_drop, hl], by omega, fun e => ?_, fun hn => ?_⟩
  · have hA : A = none := by
      cases A with
      | none => rfl
      | some a => split at e <;> simp at e
    have := h.s.2.2.1 hA
    omega
  · obtain ⟨g, o, rfl, hc⟩ := h.s.2.2.2 (by omega)
    rw [if_neg (by omega)]
    have hadd : (⟨g, o, none⟩ : Addr).add k = ⟨g, o + k, none⟩ := by unfold Addr.add; split <;> simp_all
    refine ⟨g, o + k, by simp [hadd], fun j hj => ?_⟩
    rw [gb_drop, Nat.add_assoc]
    exact hc (k + j) (by omega)
set_option maxHeartbeats 1000000 in
/-- what is behind it -/
theorem CutPrefix_any {l1 l2 : List (BitVec 8)} {A B : Option Addr} {n c m d : Nat} {w : World} (h1 : Bs w A n c l1) (h2 : Bs w B m d l2) (hn : n ≤ 4611686018427387904) (hm : m ≤ 4611686018427387904) (h : l1.take m = l2) :
    Calls Tryd.prog 52 #[.slice A n c, .slice B m d] w fun e w' => ∃ A' c', e = .returned (.tuple #[.slice A' (n - m) c', .bool true]) ∧ Bs w A' (n - m) c' (l1.drop m) ∧ w' = w := by
  have e1 := h1.len
  have e2 := h2.len
  have hle : m ≤ n := by
    have := congrArg List.length h
    rw [List.length_take] at this
    omega
  have HD := Kp.mk (h1.drop m hle)
  have hcap := h1.cap
  have hs := fun W => run_from (P := Tryd.prog) A n c 26 5 Tryd.underlying26 szB m (m : Int) rfl (by omega) W
  have C := Kp.mk (HasPrefix_any h1 h2 hn hm true (by simp [h]))
  obtain ⟨A', hA'⟩ : ∃ A', (if c = m then A else Option.map (fun x => x.add m) A) = A' := ⟨_, rfl⟩
  rw [hA'] at HD
  simp only [hA'] at hs
  clear hA'
  clear h1 h2 e1 e2
  go_enter Tryd.func52, Tryd.ntmps52
  go_wp2_with (go_at_call 68; refine C.out.mono ?_; rintro e w1 ⟨rfl, rfl⟩)
  go_ret2
  exact ⟨_, _, rfl, HD.out, rfl⟩
theorem CutPrefix_not {l1 l2 : List (BitVec 8)} {A B : Option Addr} {n c m d : Nat} {w : World} (h1 : Bs w A n c l1) (h2 : Bs w B m d l2) (hn : n ≤ 4611686018427387904) (hm : m ≤ 4611686018427387904) (h : l1.take m ≠ l2) :
    Calls Tryd.prog 52 #[.slice A n c, .slice B m d] w fun e w' => e = .returned (.tuple #[.slice A n c, .bool false]) ∧ w' = w := by
  have C := Kp.mk (HasPrefix_any h1 h2 hn hm false (by simp [h]))
  clear h1 h2
  go_enter Tryd.func52, Tryd.ntmps52
  go_wp2_with (go_at_call 68; refine C.out.mono ?_; rintro e w1 ⟨rfl, rfl⟩)
  go_ret2
  exact ⟨rfl, rfl⟩
/-- how many bytes stand ahead of the first 00 -/
def fz : List (BitVec 8) → Nat
  | [] => 0
  | x :: r => if x = 0 then 0 else fz r + 1
theorem fz_le (l : List (BitVec 8)) : fz l ≤ l.length := by
  induction l with
  | nil => exact Nat.le_refl _
  | cons x r ih => unfold fz; split <;> simp; omega
theorem fz_ahead (l : List (BitVec 8)) : ∀ j, j < fz l → gb l j ≠ 0 := by
  induction l with
  | nil => intro j h; exact absurd h (Nat.not_lt_zero _)
  | cons x r ih =>
    intro j h
    unfold fz at h
    split at h
    · omega
    · next hx =>
      cases j with
      | zero => simpa [gb] using hx
      | succ j => have := ih j (by omega); simpa [gb] using this
theorem fz_at (l : List (BitVec 8)) (h : fz l < l.length) : gb l (fz l) = 0 := by
  induction l with
  | nil => cases h
  | cons x r ih =>
    by_cases hx : x = 0
    · rw [show fz (x :: r) = 0 by unfold fz; rw [if_pos hx]]
      simp [gb, hx]
    · have e : fz (x :: r) = fz r + 1 := by rw [fz, if_neg hx]
      rw [e] at h ⊢
      have := ih (by simpa using h)
      simpa [gb] using this
def fzI (l : List (BitVec 8)) : Int := if fz l < l.length then (fz l : Int) else -1
theorem ib_fz (l : List (BitVec 8)) : Lib.indexByte (l.map UInt8.ofBitVec) 0 = fzI l := by
  induction l with
  | nil => rfl
  | cons x r ih =>
    rw [List.map_cons, Lib.indexByte, ih]
    by_cases hx : x = 0
    · subst hx
      rfl
    · have hne : (UInt8.ofBitVec x == 0) = false := by
        refine beq_eq_false_iff_ne.2 fun e => hx ?_
        have := congrArg UInt8.toBitVec e
        exact this
      rw [hne]
      unfold fzI
      rw [fz, if_neg hx]
      simp only [Bool.false_eq_true, if_false, List.length_cons]
      by_cases h : fz r < r.length
      · have e1 : ((fz r : Int) == -1) = false := beq_eq_false_iff_ne.2 (by omega)
        simp only [if_pos h, e1, if_pos (show fz r + 1 < r.length + 1 by omega)]
        simp
      · simp only [if_neg h, if_neg (show ¬ fz r + 1 < r.length + 1 by omega)]
        rfl
theorem IndexByte_any {l : List (BitVec 8)} {A : Option Addr} {n c : Nat} {w : World} (h : Bs w A n c l) :
    Calls Tryd.prog 27 #[.slice A n c, .int .u8 0] w fun e w' => e = .returned (.int .i64 (fzI l)) ∧ w' = w := by
  have hlen := h.len
  have hcall : (callFunc 45 #[.slice A n c, .int .u8 0]).run Tryd.prog w = .ok (.value (.int .i64 (fzI l))) w := by
    rw [run_callFunc_extern Tryd.func45 (by kernel_rfl) (by kernel_rfl) (by kernel_rfl) (e := Extern.BytealgIndexByte.indexByte) (by kernel_rfl)]
    by_cases hn : n = 0
    · obtain rfl : l = [] := List.eq_nil_of_length_eq_zero (by omega)
      subst hn
      cases A with
      | none => rw [Lib.run_indexByteNil]; rfl
      | some a =>
        obtain ⟨g, o, q⟩ := a
        rfl
    · obtain ⟨g, o, rfl, hc⟩ := h.s.2.2.2 (by omega)
      rw [Lib.run_indexByteSlice w g o n c (l.map ub) (by rw [List.length_map, hlen]) (fun i hi => by
        rw [hc i hi, List.getD_eq_getElem?_getD, List.getElem?_map]
        simp [gb, show i < l.length by omega]) 0]
      rw [← ib_fz]
      have e : Lib.bytesOf (l.map ub) = l.map UInt8.ofBitVec := by
        unfold Lib.bytesOf
        rw [List.map_map]
        refine List.map_congr_left fun x _ => ?_
        apply UInt8.eq_of_toBitVec_eq
        simp [ub]
      rw [e]
      rfl
  clear h hlen
  go_enter Tryd.func27, Tryd.ntmps27
  go_wp2
  go_ret
  exact ⟨rfl, rfl⟩
end Go.Proofs.YticggkllfojgkaaDoor
namespace Go.Proofs.YticggkllfojgkaaDoor
open Go Go.RowKit
set_option maxRecDepth 4000

theorem szB8 : (Tryd.prog.info? 5).map (·.size) = some 1 := by kernel_rfl
theorem trimByte_any {l : List Nat} {A : Option Addr} {n c : Nat} {w : World} (h : Rd vB w A n c l) (hn : n ≤ 9223372036854775807) :
    Calls Tryd.prog 80 #[.slice A n c, .int .u8 0] w fun e w' => ∃ A' n' c', e = .returned (.slice A' n' c') ∧ Rd vB w A' n' c' (l.dropWhile (· == 0)) ∧ w' = w := by
  have HR := Kp.mk h
  clear h
  go_enter Tryd.func80, Tryd.ntmps80
  go_wp2_with fail
  go_loopw [0] (fun iv wr => ∃ A' n' c' l', n' ≤ n ∧ iv = .slice A' n' c' ∧ Rd vB w A' n' c' l' ∧ l'.dropWhile (· == 0) = l.dropWhile (· == 0) ∧ wr = w) (fun iv _ => lenOf iv)
  case atStart => exact ⟨A, n, c, l, Nat.le_refl _, rfl, HR.out, rfl, rfl⟩
  case round =>
    obtain ⟨A', n', c', l', hle, rfl, hr, hd, rfl⟩ := hrel
    have hlen := hr.len
    cases l' with
    | nil =>
      obtain rfl : n' = 0 := hlen.symm
      have HF := Kp.mk (show Rd vB wr none 0 0 (l.dropWhile (· == 0)) by rw [← hd]; exact Rd.nil wr)
      clear hr hd hlen
      go_wp2_with fail
      go_ret
      exact ⟨none, 0, 0, rfl, HF.out, rfl⟩
    | cons x l' =>
      obtain ⟨g, o, rfl⟩ := hr.some_ (by simp at hlen; omega)
      have hn0 : 0 < n' := by simp at hlen; omega
      have k1 := hr.dig 0 hn0
      unfold vB at k1
      rw [show dg (x :: l') 0 = x from rfl, Nat.add_zero] at k1
      have b0 : (0 : Int) < (n' : Int) := by omega
      have b1 : (n' : Int) ≤ 9223372036854775807 := by omega
      have b2 : ((n' : Int) == 0) = false := beq_eq_false_iff_ne.2 (by omega)
      by_cases hx : x = 0
      · subst hx
        have hs := fun W => run_from (P := Tryd.prog) (some ⟨g, o, none⟩) n' c' 26 5 Tryd.underlying26 szB8 1 1 rfl (by omega) W
        have HF := Kp.mk (And.intro (hr.drop 1 (by omega)) (show l'.dropWhile (· == 0) = l.dropWhile (· == 0) by rw [← hd, List.dropWhile_cons]; simp))
        rw [show (0 :: l').drop 1 = l' from rfl] at HF
        rw [show ((0 : Nat) : Int) = 0 from rfl] at k1
        generalize (if c' = 1 then some (⟨g, o, none⟩ : Addr) else (some (⟨g, o, none⟩ : Addr)).map (·.add 1)) = A2 at *
        clear hr hd hlen
        go_wp2_with fail
        go_roundw
        case rel => exact ⟨_, _, _, _, by omega, rfl, HF.out.1, HF.out.2, by trivial⟩
        case measure => simp [lenOf]; omega
      · have hx2 : ((x : Int) == 0) = false := beq_eq_false_iff_ne.2 (by omega)
        have HF := Kp.mk (show Rd vB wr (some ⟨g, o, none⟩) n' c' (l.dropWhile (· == 0)) by rw [← hd, List.dropWhile_cons]; simp [hx]; exact hr)
        clear hr hd hlen
        go_wp2_with fail
        go_ret
        exact ⟨_, _, _, rfl, HF.out, rfl⟩
set_option maxHeartbeats 4000000 in
set_option maxRecDepth 1000000 in
theorem trim_left0 {l : List Nat} {A : Option Addr} {n c : Nat} {w : World} (cc : UInt8) (hcc : cc.toNat = 0) (h : Rd vB w A n c l) (hn : n ≤ 9223372036854775807) :
    Calls Tryd.prog 63 #[.slice A n c, .string ⟨#[cc]⟩] w fun e w' => ∃ A' n' c', e = .returned (.slice A' n' c') ∧ Rd vB w A' n' c' (l.dropWhile (· == 0)) ∧ w' = w := by
  by_cases h0 : n = 0
  · subst h0
    have e : l = [] := List.eq_nil_of_length_eq_zero h.len
    subst e
    clear h
    go_enter Tryd.func63, Tryd.ntmps63
    go_wp2_with fail
    go_ret
    exact ⟨none, 0, 0, rfl, Rd.nil _, rfl⟩
  · have b0 : ¬ (n : Int) = 0 := by omega
    have hn0 : ((n : Int) == 0) = false := beq_eq_false_iff_ne.2 b0
    have hc' : ¬ (128 : Int) ≤ (cc.toNat : Int) := by omega
    have hg0 : ((⟨#[cc]⟩ : ByteArray)[0]'Nat.zero_lt_one) = cc := rfl
    have C := Kp.mk (trimByte_any h hn)
    clear h
    go_enter Tryd.func63, Tryd.ntmps63
    go_wp2_with (go_at_call 80; refine C.out.mono ?_; rintro e w1 ⟨A1, n1, c1, rfl, h1, rfl⟩)
    all_goals first | (go_ret; exact ⟨_, _, _, rfl, h1, rfl⟩) | (exfalso; simp_all; done) | (exfalso; omega)
theorem trim_left {l : List Nat} {A : Option Addr} {n c : Nat} {w : World} (h : Rd vB w A n c l) (hn : n ≤ 9223372036854775807) :
    Calls Tryd.prog 63 #[.slice A n c, .string ⟨#[0]⟩] w fun e w' => ∃ A' n' c', e = .returned (.slice A' n' c') ∧ Rd vB w A' n' c' (l.dropWhile (· == 0)) ∧ w' = w := trim_left0 0 rfl h hn
/-- what Read tells -/
def ReadR (w : World) (l : List Nat) (e : Ending) (w' : World) : Prop :=
  (256 ^ 256 ≤ vl 256 l.reverse ∧ Bad1 w 4 e w') ∨ (vl 256 l.reverse < 256 ^ 256 ∧ Ok1 w (vl 256 l.reverse) e w')
theorem drop_top (l : List Nat) : (l.dropWhile (· == 0)).reverse.length = 0 ∨ dg (l.dropWhile (· == 0)).reverse ((l.dropWhile (· == 0)).reverse.length - 1) ≠ 0 := by
  cases h : l.dropWhile (· == 0) with
  | nil => exact .inl rfl
  | cons x t =>
    refine .inr ?_
    have hx : (x == 0) = false := by
      have h1 := List.head?_dropWhile_not (· == 0) l
      rw [h] at h1
      simpa using h1
    rw [dg_rev _ _ (by simp), List.length_reverse]
    have e : (x :: t).length - 1 - ((x :: t).length - 1) = 0 := by omega
    rw [e]
    show x ≠ 0
    exact fun e => by simp [e] at hx
theorem or32 (x y : Nat) (hx : x < 4294967296) (hy : y < 4294967296) : bits .or .u32 (x : Int) (y : Int) = ((x ||| y : Nat) : Int) := by
  show IntKind.u32.wrap ((BitVec.ofInt 32 (x : Int) ||| BitVec.ofInt 32 (y : Int)).toNat : Int) = _
  have h := Nat.or_lt_two_pow (x := x) (y := y) (n := 32) (by omega) (by omega)
  rw [BitVec.ofInt_natCast, BitVec.ofInt_natCast, BitVec.toNat_or, BitVec.toNat_ofNat, BitVec.toNat_ofNat, Nat.mod_eq_of_lt (by omega), Nat.mod_eq_of_lt (by omega), IntKind.wrap_u32]
  omega
theorem or_low (x y E : Nat) (hx : x < 2 ^ E) : x ||| y * 2 ^ E = y * 2 ^ E + x := by
  rw [Nat.or_comm]
  exact or_add y E x hx
end Go.Proofs.YticggkllfojgkaaDoor
namespace Go.Proofs.YticggkllfojgkaaDoor
open Go Go.RowKit
set_option maxRecDepth 4000

theorem Dg.dropW {B : Nat} {l : List Nat} (h : Dg B l) (p : Nat → Bool) : Dg B (l.dropWhile p) := fun d hd => h d (List.dropWhile_sublist p |>.mem hd)
set_option maxHeartbeats 2000000 in
theorem Read_any {l : List Nat} {A : Option Addr} {n c : Nat} {w : World} (h : Rd vB w A n c l) (hd : Dg 256 l) (hn : n ≤ 1000000) :
    Calls Tryd.prog 46 #[.slice A n c] w (ReadR w l) := by
  have C := Kp.mk (trim_left h (by omega))
  have hnl := h.len
  have hle : (l.dropWhile (· == 0)).length ≤ n := by rw [← hnl]; exact (List.dropWhile_sublist _).length_le
  have ht := drop_top l
  have hv := vl_rev_drop 256 l
  have hdd := (hd.dropW (· == 0)).rev
  have hat : ∀ i, i < (l.dropWhile (· == 0)).length → dg (l.dropWhile (· == 0)) ((l.dropWhile (· == 0)).length - 1 - i) = dg (l.dropWhile (· == 0)).reverse i := fun i hi => by rw [dg_rev _ i hi]
  have hrl : (l.dropWhile (· == 0)).reverse.length = (l.dropWhile (· == 0)).length := List.length_reverse
  have hvv := hv
  generalize (l.dropWhile (· == 0)).reverse = r at *
  generalize l.dropWhile (· == 0) = L at *
  have HAT := Kp.mk hat
  have HD := Kp.mk hdd
  have HT := Kp.mk ht
  clear h hd hv hat hdd ht hnl
  go_enter Tryd.func46, Tryd.ntmps46
  go_wp2_with fail
  refine C.out.mono ?_
  rintro e w1 ⟨A1, m, c1, rfl, h1, rfl⟩
  have hm := h1.len
  have HR := Kp.mk h1
  clear h1 C
  have hli := long_iff HD.out HT.out
  by_cases hlong : m ≤ 256
  · have hlt : vl 256 r < 256 ^ 256 := hli.1 (by omega)
    have HLT := Kp.mk hlt
    have bl : decide ((256 : Int) < (m : Int)) = false := decide_eq_false (by omega)
    obtain ⟨K, hK⟩ : ∃ K, K = (m + 3) / 4 := ⟨_, rfl⟩
    have q0 : ((m : Int) + 3) / 4 = (K : Int) := by omega
    have q1 : ((m : Int) + 4 - 1) / 4 = (K : Int) := by omega
    have hmk := run_makeL K (K : Int) rfl (by omega)
    have HST := Kp.mk (RdS.start r K)
    have HL0 := Kp.mk (Lb.new w1 (zl K))
    have HKK := Kp.mk hK
    have hKb : K ≤ 64 := by omega
    rw [show List.replicate K 0 = zl K from rfl] at HST
    clear hli hlt hlong hK
    generalize zl K = Z at *
    go_wp2_with fail
    go_loopw [20] (fun iv wr => ∃ (i : Nat) (S : List Nat), i ≤ m ∧ iv = .int .i64 (i : Int) ∧ RdS r K i S ∧ Lb wr w1.heap.size S ∧ Ext w1 wr) (fun iv _ => m - (intOf iv).toNat)
    case atStart => exact ⟨0, Z, by omega, rfl, HST.out, HL0.out, (by (repeat (first | assumption | exact Ext.refl _ | apply Ext.drew | apply Ext.drewN | apply Ext.alloc | refine Ext.trans ?_ (by assumption))); first | done | fail)⟩
    case round =>
      obtain ⟨i, S, hi, rfl, hs, hL, hx⟩ := hrel
      have hKK := HKK.out
      by_cases hlt : i < m
      · obtain ⟨g, o, rfl⟩ := HR.out.some_ (by omega)
        obtain ⟨j, hj⟩ : ∃ j, m - 1 - i = j := ⟨_, rfl⟩
        have kb := (HR.out.ext hx).dig j (by omega)
        unfold vB at kb
        have ha := HAT.out i (by omega)
        rw [hm, hj] at ha
        rw [ha] at kb
        obtain ⟨q, hq⟩ : ∃ q, i / 4 = q := ⟨_, rfl⟩
        obtain ⟨s, hs4⟩ : ∃ s, i % 4 = s := ⟨_, rfl⟩
        have hiq : i = 4 * q + s := by omega
        have hs3 : s < 4 := by omega
        have hqK : q < K := by omega
        have k3 := Lb.cell hL q (by rw [hs.len]; exact hqK)
        have k4 := Lb.free hL q
        have hlow := hs.low HD.out hiq (by omega) hqK
        have hy := HD.out.at (by decide) i
        have HNX := Kp.mk (hs.next HD.out hiq hs3 (by omega) hqK)
        have HSET := Kp.mk (fun z => Lb.set hL q z)
        have HX := Kp.mk hx
        generalize dg r i = y at *
        generalize dg S q = x at *
        obtain ⟨E, hE⟩ : ∃ E, 8 * s = E := ⟨_, rfl⟩
        rw [hE] at hlow HNX
        have hE24 : E ≤ 24 := by omega
        have hp24 : 2 ^ E ≤ 2 ^ 24 := Nat.pow_le_pow_right (by decide) hE24
        obtain ⟨p, hp⟩ : ∃ p, 2 ^ E = p := ⟨_, rfl⟩
        have hyp : y * p ≤ 255 * 16777216 := Nat.mul_le_mul (by omega) (by rw [← hp]; exact hp24)
        have eor : x ||| y * p = y * p + x := by rw [← hp]; exact or_low x y E hlow
        have c1 : (y : Int) * 2 ^ E = ((y * p : Nat) : Int) := by rw [← hp]; simp
        have c2 : ((2 : Int) ^ E) = (p : Int) := by rw [← hp]; simp
        rw [hp] at hlow HNX
        obtain ⟨Y, hY⟩ : ∃ Y, y * p = Y := ⟨_, rfl⟩
        rw [hY] at eor c1 hyp HNX
        have c3 : (y : Int) * (p : Int) = (Y : Int) := by rw [← hY]; simp
        have c4 : IntKind.u32.wrap (Y : Int) = (Y : Int) := by rw [IntKind.wrap_u32]; omega
        have c5 := or32 x Y (by omega) (by omega)
        rw [eor] at c5
        obtain ⟨T, hT⟩ : ∃ T, Y + x = T := ⟨_, rfl⟩
        rw [hT] at c5 HNX
        have d0 : (i : Int) < (m : Int) := by omega
        have d1 : (i : Int) / 4 = (q : Int) := by omega
        have d2 : (i : Int) % 4 = (s : Int) := by omega
        have d3 : (m : Int) - 1 - (i : Int) = (j : Int) := by omega
        have d4 : (s : Int) * 8 = (E : Int) := by omega
        have d5 : (q : Int) < (K : Int) := by omega
        have d6 : (j : Int) < (m : Int) := by omega
        have d7 : (i : Int) < 300 := by omega
        have d8 : (E : Int) < 32 := by omega
        have w1' : IntKind.i64.wrap ((m : Int) - 1) = (m : Int) - 1 := by rw [IntKind.wrap_i64]; omega
        have w2' : IntKind.i64.wrap ((m : Int) - 1 - (i : Int)) = (j : Int) := by rw [IntKind.wrap_i64]; omega
        have w3' : IntKind.i64.wrap ((s : Int) * 8) = (E : Int) := by rw [IntKind.wrap_i64]; omega
        have w4' : (i : Int).tdiv 4 = (q : Int) := by rw [Int.tdiv_eq_ediv_of_nonneg (by omega)]; exact d1
        have w5' : (i : Int).tmod 4 = (s : Int) := by rw [Int.tmod_eq_emod_of_nonneg (by omega)]; exact d2
        have wj' : IntKind.i64.wrap (j : Int) = (j : Int) := by rw [IntKind.wrap_i64]; omega
        have wE' : IntKind.i64.wrap (E : Int) = (E : Int) := by rw [IntKind.wrap_i64]; omega
        have wm' : IntKind.i64.wrap (m : Int) = (m : Int) := by rw [IntKind.wrap_i64]; omega
        have w6' : IntKind.i64.wrap (q : Int) = (q : Int) := by rw [IntKind.wrap_i64]; omega
        have w7' : IntKind.i64.wrap (s : Int) = (s : Int) := by rw [IntKind.wrap_i64]; omega
        clear hs hL hx ha hj hq hs4 hlow hE hp hY hT eor hp24 hKK hm hrl hle q0 q1 hvv hiq
        go_wp2_with fail
        go_region
        go_wp2_with fail
        go_roundw
        case rel => exact ⟨i + 1, _, by omega, by go_num, HNX.out, (HSET.out T).ext (Ext.refl _).drew, (HX.out.setCell (p := ⟨w1.heap.size, q, none⟩) (Nat.le_refl _) _).drew⟩
        case measure => simp [intOf]; omega
      · obtain rfl : i = m := by omega
        have hcn := RdS.cn (r := r) (K := K) (L := S) (by rw [hrl, hm]; exact hs) (by rw [hrl, hm]; exact hKK) HT.out HD.out
        have HF := Kp.mk (show ReadR w1 l (.returned (.tuple #[.slice (some ⟨w1.heap.size, 0, none⟩) K K, .nilIface])) wr from
          .inr ⟨by rw [← hvv]; exact HLT.out, _, _, _, rfl, by rw [← hvv, ← hcn]; exact Lb.own hL (Nat.le_refl _) hs.len (by unfold maxLen; omega), hx⟩)
        clear hs hL hx hcn hKK hm hrl hle q0 q1 hvv
        go_wp2_with fail
        go_ret2
        exact HF.out
  · have hge : 256 ^ 256 ≤ vl 256 r := Nat.le_of_not_lt fun h => hlong (by rw [← hm, ← hrl]; exact hli.2 h)
    have bl : decide ((256 : Int) < (m : Int)) = true := decide_eq_true (by omega)
    have HGE := Kp.mk hge
    clear hli hge
    go_wp2_with fail
    go_ret2
    exact .inl ⟨by rw [← hvv]; exact HGE.out, rfl, Ext.refl _⟩
theorem ReadR_eq (w : World) (l : List Nat) : ReadR w l = fun e w' => (256 ^ 256 ≤ vl 256 l.reverse ∧ Bad1 w 4 e w') ∨ (vl 256 l.reverse < 256 ^ 256 ∧ Ok1 w (vl 256 l.reverse) e w') := rfl
end Go.Proofs.YticggkllfojgkaaDoor
namespace Go.Proofs.YticggkllfojgkaaDoor
open Go Go.RowKit
set_option maxRecDepth 4000

theorem lit_bytes (w : World) (l : List (BitVec 8)) (cs : Array Value) (n : Nat) (hn : l.length = n) (hc : cs = bv l) (g : Nat) (hg : g = w.heap.size) : Bs (w.alloc (.cells cs 5)) (some ⟨g, 0, none⟩) n n l := by
  subst hc
  exact const_bs w g l n n (0, 0) hg hn (Nat.le_refl _)
section
variable {A B : Option Addr} {n c m d : Nat} {w : World} {l1 l2 : List (BitVec 8)}
set_option maxHeartbeats 1000000 in
theorem laidOut_any (k : BitVec 8) (z : Int) (hz : z = ub k) (h1 : Bs w A n c l1) (h2 : Bs w B m d l2) (hn : n + m ≤ 1000000) (N : Nat) (hN : n + m + 3 = N) :
    Calls Tryd.prog 49 #[.int .u8 z, .slice A n c, .slice B m d] w (Fresh w N ([0, k] ++ l1 ++ [0] ++ l2)) := by
  subst hz hN
  have w1 : Bs (w.alloc (.cells #[.int .u8 0, .int .u8 (ub k)] 5)) (some ⟨w.heap.size, 0, none⟩) 2 2 [0, k] := lit_bytes w [0, k] _ 2 rfl rfl _ rfl
  have w2 : Bs ((w.alloc (.cells #[.int .u8 0, .int .u8 (ub k)] 5)).alloc (.cells #[.int .u8 0] 5)) (some ⟨w.heap.size + 1, 0, none⟩) 1 1 [0] := lit_bytes _ [0] _ 1 rfl rfl _ (by simp)
  have hB := Blk.new ((w.alloc (.cells #[.int .u8 0, .int .u8 (ub k)] 5)).alloc (.cells #[.int .u8 0] 5)) 26 #[.slice (some ⟨w.heap.size, 0, none⟩) 2 2, .slice A n c, .slice (some ⟨w.heap.size + 1, 0, none⟩) 1 1, .slice B m d]
  have hsz : ((w.alloc (.cells #[.int .u8 0, .int .u8 (ub k)] 5)).alloc (.cells #[.int .u8 0] 5)).heap.size = w.heap.size + 1 + 1 := by simp
  rw [hsz] at hB
  have hx : Ext w (((w.alloc (.cells #[.int .u8 0, .int .u8 (ub k)] 5)).alloc (.cells #[.int .u8 0] 5)).alloc (.cells #[.slice (some ⟨w.heap.size, 0, none⟩) 2 2, .slice A n c, .slice (some ⟨w.heap.size + 1, 0, none⟩) 1 1, .slice B m d] 26)) := (by (repeat (first | assumption | exact Ext.refl _ | apply Ext.drew | apply Ext.drewN | apply Ext.alloc | refine Ext.trans ?_ (by assumption))); first | done | fail)
  have C := ConcatP (ps := [⟨some ⟨w.heap.size, 0, none⟩, 2, 2, [0, k]⟩, ⟨A, n, c, l1⟩, ⟨some ⟨w.heap.size + 1, 0, none⟩, 1, 1, [0]⟩, ⟨B, m, d, l2⟩]) (k := 4) rfl (fun j p hj => by
    match j, hj with
    | 0, hj => cases hj; exact (w1.ext (by (repeat (first | assumption | exact Ext.refl _ | apply Ext.drew | apply Ext.drewN | apply Ext.alloc | refine Ext.trans ?_ (by assumption))); first | done | fail))
    | 1, hj => cases hj; exact (h1.ext hx)
    | 2, hj => cases hj; exact (w2.ext (by (repeat (first | assumption | exact Ext.refl _ | apply Ext.drew | apply Ext.drewN | apply Ext.alloc | refine Ext.trans ?_ (by assumption))); first | done | fail))
    | 3, hj => cases hj; exact (h2.ext hx)
    | j + 4, hj => simp at hj) hB (by simp [pN]; omega) (by simp [pN]; omega) (by decide)
  rw [show pN [⟨some ⟨w.heap.size, 0, none⟩, 2, 2, [0, k]⟩, ⟨A, n, c, l1⟩, ⟨some ⟨w.heap.size + 1, 0, none⟩, 1, 1, [0]⟩, ⟨B, m, d, l2⟩] = n + m + 3 by simp [pN]; omega,
    show pL [⟨some ⟨w.heap.size, 0, none⟩, 2, 2, [0, k]⟩, ⟨A, n, c, l1⟩, ⟨some ⟨w.heap.size + 1, 0, none⟩, 1, 1, [0]⟩, ⟨B, m, d, l2⟩] = [0, k] ++ l1 ++ [0] ++ l2 by simp [pL]] at C
  have HC := Kp.mk C
  have HX := Kp.mk hx
  clear C hx hB w1 w2 h1 h2
  go_enter Tryd.func49, Tryd.ntmps49
  go_wp2_with fail
  refine HC.out.mono ?_
  rintro e w4 ⟨A4, c4, rfl, s4, o4, x4⟩
  have HF := Kp.mk (fresh_mk s4 o4 HX.out x4)
  clear s4 o4 x4
  go_wp2_with fail
  go_ret
  exact HF.out
theorem laidToHide_any (h1 : Bs w A n c l1) (h2 : Bs w B m d l2) (hn : n + m ≤ 1000000) (N : Nat) (hN : n + m + 3 = N) : Calls Tryd.prog 29 #[.slice A n c, .slice B m d] w (Fresh w N (hdL l1 l2)) := by
  have C := Kp.mk (laidOut_any 2 2 rfl h1 h2 hn N hN)
  rw [show [0, 2] ++ l1 ++ [0] ++ l2 = hdL l1 l2 from rfl] at C
  clear h1 h2
  go_enter Tryd.func29, Tryd.ntmps29
  go_wp2_with fail
  refine C.out.mono ?_
  rintro e w4 ⟨A4, c4, rfl, s4, o4, x4⟩
  go_wp2_with fail
  go_ret
  exact ⟨A4, c4, rfl, s4, o4, x4⟩
end
/-- bytes and no error; none and an error -/
def BadB (w : World) (k : Int) (e : Ending) (w' : World) : Prop := e = .returned (.tuple #[.slice none 0 0, err k]) ∧ Ext w w'
theorem WriteV {A : Option Addr} {n c v k : Nat} {w : World} (h : Nv w A n c v) (h1 : ¬ lng v) (hk : nb v ≤ k) (hk2 : k ≤ 256) : Calls Tryd.prog 48 #[.slice A n c, .int .i64 (k : Int)] w (WriteR w v k) := by
  obtain ⟨a, ha, rfl⟩ := h
  exact Write_ok ha h1 k hk hk2
section
variable {A B D : Option Addr} {n c m d k f vt vn : Nat} {w : World} {l : List (BitVec 8)}
theorem nb_mod {v vn : Nat} (h : v < vn) : nb v ≤ nb vn := (nb_iff v _).2 (Nat.lt_trans h ((nb_iff vn _).1 (Nat.le_refl _)))
set_option maxHeartbeats 2000000 in
theorem raised_some (hl : Bs w A n c l) (ht : Nv w B m d vt) (hv : Nv w D k f vn) (lt : ¬ lng vt) (h128 : nb vn ≤ 128) (h0 : vn ≠ 0) {r : List (BitVec 8)} (h : rs l vt vn = some r) :
    Calls Tryd.prog 28 #[.slice A n c, .slice B m d, .slice D k f] w (FreshE w (nb vn) r) := by
  obtain ⟨h1, h2, h3⟩ := rs_some h
  have hlen := hl.len
  obtain ⟨N, hN⟩ : ∃ N, nb vn = N := ⟨_, rfl⟩
  have hbn : bnum l < 256 ^ 256 := Nat.lt_of_lt_of_le (bnum_lt l) (Nat.pow_le_pow_right (by decide) (by omega))
  have ln : ¬ lng vn := sh32 (nb_bb h128)
  have lb : ¬ lng (bnum l) := sh32 (Nat.lt_trans h2 (nb_bb h128))
  have hmod : bnum l ^ vt % vn < vn := Nat.mod_lt _ (Nat.pos_of_ne_zero h0)
  have lp : ¬ lng (bnum l ^ vt % vn) := sh32 (Nat.lt_trans hmod (nb_bb h128))
  have hnp := nb_mod hmod
  have CR := Kp.mk (Read_any (Rd.of_sl hl.s) (Dg.of_bytes l) (by omega))
  rw [ReadR_eq] at CR
  rw [show vl 256 (l.map BitVec.toNat).reverse = bnum l from rfl] at CR
  have Z := Kp.mk (cmpI_lt h2)
  obtain rfl : n = N := by omega
  rw [hN] at hnp h3 h128 ⊢
  have HS := Kp.mk hN
  have HT := Kp.mk ht
  have HV := Kp.mk hv
  have HLT := Kp.mk lt
  have HLN := Kp.mk ln
  have HLB := Kp.mk lb
  have HLP := Kp.mk lp
  have HNP := Kp.mk hnp
  have H0 := Kp.mk h0
  have H3 := Kp.mk h3
  have HBN := Kp.mk hbn
  clear h h1 h2 h3 hl ht hv lt ln lb hmod lp hnp h0 hN hbn
  go_enter Tryd.func28, Tryd.ntmps28
  go_wp2_with fail
  refine (sizeOf_any HV.out).mono ?_
  rintro e w1 ⟨rfl, hw⟩
  subst hw
  rw [HS.out]
  go_wp2_with fail
  refine CR.out.mono ?_
  rintro e w2 (⟨h, -⟩ | ⟨_, A2, n2, c2, rfl, r2, x2⟩)
  · exact absurd HBN.out (Nat.not_lt.2 h)
  have N2 := Kp.mk (Nv.of r2 HLB.out)
  clear r2
  go_wp2_with fail
  refine (CmpV (N2.out.ext (by (repeat (first | assumption | exact Ext.refl _ | apply Ext.drew | apply Ext.drewN | apply Ext.alloc | refine Ext.trans ?_ (by assumption))); first | done | fail)) (HV.out.ext (by (repeat (first | assumption | exact Ext.refl _ | apply Ext.drew | apply Ext.drewN | apply Ext.alloc | refine Ext.trans ?_ (by assumption))); first | done | fail)) _ Z.out).mono ?_
  rintro e w3 ⟨rfl, x3⟩
  go_wp2_with fail
  refine (ExpV (N2.out.ext (by (repeat (first | assumption | exact Ext.refl _ | apply Ext.drew | apply Ext.drewN | apply Ext.alloc | refine Ext.trans ?_ (by assumption))); first | done | fail)) (HT.out.ext (by (repeat (first | assumption | exact Ext.refl _ | apply Ext.drew | apply Ext.drewN | apply Ext.alloc | refine Ext.trans ?_ (by assumption))); first | done | fail)) (HV.out.ext (by (repeat (first | assumption | exact Ext.refl _ | apply Ext.drew | apply Ext.drewN | apply Ext.alloc | refine Ext.trans ?_ (by assumption))); first | done | fail)) HLB.out HLT.out HLN.out H0.out).mono ?_
  rintro e w4 ⟨A4, n4, c4, rfl, r4, x4⟩
  have N4 := Kp.mk (Nv.of r4 HLP.out)
  clear r4
  go_wp2_with fail
  refine (WriteV (k := n) N4.out HLP.out HNP.out (by omega)).mono ?_
  rintro e w5 ⟨A5, c5, rfl, o5, x5⟩
  rw [← H3.out] at o5
  have HO := Kp.mk (o5.lower (show w1.heap.size ≤ w4.heap.size from (show Ext w1 w4 from (by (repeat (first | assumption | exact Ext.refl _ | apply Ext.drew | apply Ext.drewN | apply Ext.alloc | refine Ext.trans ?_ (by assumption))); first | done | fail)).size))
  have HX := Kp.mk (show Ext w1 w5 from (by (repeat (first | assumption | exact Ext.refl _ | apply Ext.drew | apply Ext.drewN | apply Ext.alloc | refine Ext.trans ?_ (by assumption))); first | done | fail))
  clear o5 x2 x3 x4 x5
  go_wp2_with fail
  go_ret2
  exact ⟨A5, c5, rfl, HO.out.bs, HO.out, HX.out⟩
theorem raised_none (hl : Bs w A n c l) (ht : Nv w B m d vt) (hv : Nv w D k f vn) (h128 : nb vn ≤ 128) (h : rs l vt vn = none) :
    Calls Tryd.prog 28 #[.slice A n c, .slice B m d, .slice D k f] w (BadB w 1) := by
  have hlen := hl.len
  obtain ⟨N, hN⟩ : ∃ N, nb vn = N := ⟨_, rfl⟩
  have HV := Kp.mk hv
  have HS := Kp.mk hN
  by_cases he : n = N
  · subst he
    have hge : vn ≤ bnum l := by
      unfold rs at h
      split at h
      · cases h
      · next h1 =>
        rcases Nat.lt_or_ge (bnum l) vn with h2 | h2
        · exact absurd ⟨by omega, h2⟩ h1
        · exact h2
    have hbn : bnum l < 256 ^ 256 := Nat.lt_of_lt_of_le (bnum_lt l) (Nat.pow_le_pow_right (by decide) (by omega))
    have lb : ¬ lng (bnum l) := sh32 (nb_bb ((nb_iff _ _).2 (Nat.lt_of_lt_of_le (bnum_lt l) (Nat.pow_le_pow_right (by decide) (by omega)))))
    have CR := Kp.mk (Read_any (Rd.of_sl hl.s) (Dg.of_bytes l) (by omega))
    rw [ReadR_eq] at CR
    rw [show vl 256 (l.map BitVec.toNat).reverse = bnum l from rfl] at CR
    obtain ⟨z, hz, z1⟩ := cmpI_up hge
    have Z := Kp.mk hz
    have HBN := Kp.mk hbn
    have HLB := Kp.mk lb
    clear h hl ht hv hN hge hbn lb hz
    go_enter Tryd.func28, Tryd.ntmps28
    go_wp2_with fail
    refine (sizeOf_any HV.out).mono ?_
    rintro e w1 ⟨rfl, hw⟩
    subst hw
    rw [HS.out]
    go_wp2_with fail
    refine CR.out.mono ?_
    rintro e w2 (⟨h, -⟩ | ⟨_, A2, n2, c2, rfl, r2, x2⟩)
    · exact absurd HBN.out (Nat.not_lt.2 h)
    have N2 := Kp.mk (Nv.of r2 HLB.out)
    clear r2
    go_wp2_with fail
    refine (CmpV (N2.out.ext (by (repeat (first | assumption | exact Ext.refl _ | apply Ext.drew | apply Ext.drewN | apply Ext.alloc | refine Ext.trans ?_ (by assumption))); first | done | fail)) (HV.out.ext (by (repeat (first | assumption | exact Ext.refl _ | apply Ext.drew | apply Ext.drewN | apply Ext.alloc | refine Ext.trans ?_ (by assumption))); first | done | fail)) _ Z.out).mono ?_
    rintro e w3 ⟨rfl, x3⟩
    have HX := Kp.mk (show Ext w1 w3 from (by (repeat (first | assumption | exact Ext.refl _ | apply Ext.drew | apply Ext.drewN | apply Ext.alloc | refine Ext.trans ?_ (by assumption))); first | done | fail))
    clear x2 x3
    go_wp2_with fail
    go_ret2
    exact ⟨rfl, HX.out⟩
  · have hne : ¬ (n : Int) = (N : Int) := by omega
    clear h hl ht hv hN
    go_enter Tryd.func28, Tryd.ntmps28
    go_wp2_with fail
    refine (sizeOf_any HV.out).mono ?_
    rintro e w1 ⟨rfl, hw⟩
    subst hw
    rw [HS.out]
    go_wp2_with fail
    go_ret2
    exact ⟨rfl, Ext.refl _⟩
end
end Go.Proofs.YticggkllfojgkaaDoor
