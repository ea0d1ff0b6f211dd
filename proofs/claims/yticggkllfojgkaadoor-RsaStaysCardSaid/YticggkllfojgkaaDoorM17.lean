/-
  The walks of slices.Grow, slices.Concat of two slices, bytes.Clone, Fill.
  Arrays of bytes compared.
  The library's slices.Concat of any parts, bytes.Equal, HasPrefix, CutPrefix, IndexByte.
  bytes.TrimLeft of noughts; nat: Read.
-/
import Derived.Test.YticggkllfojgkaaDoorM16
import Derived.Lib.AppendZerosOnto
import Derived.Lib.SliceRun
import Derived.Test.YticggkllfojgkaaDoorM11
import Derived.Test.YticggkllfojgkaaDoorM0
import Derived.Stop.BytesEq
import Derived.Lib.BytesEntry
import Derived.Test.YticggkllfojgkaaDoorM9
namespace Go.Proofs.YticggkllfojgkaaDoor
open Go Go.RowKit
set_option maxRecDepth 4000

set_option maxHeartbeats 1000000 in
theorem Grow_any (n : Nat) (h0 : 0 < n) (hn : n ≤ 140737488351232) (w : World) :
    Calls Tryd.prog 69 #[.slice none 0 0, .int .i64 (n : Int)] w fun e w' => ∃ A c, e = .returned (.slice A 0 c) ∧ Own w' w.heap.size (.slice A 0 c) 0 [] ∧ Ext w w' := by
  obtain ⟨i, hi, hz, hs, hb⟩ := info_parts inB
  have hrz : ∀ ty, (Builtin.append_ #[26, 3] ty #[.slice none 0 0, .int .i64 (n : Int)]).run Tryd.prog w =
      .ok (.slice (some ⟨w.heap.size, 0, none⟩) (0 + n) (grownCap w (0 + n) 0 5)) (w.drew.alloc (.cells (([] : List Value).toArray ++ Builtin.zeroCells (Value.int .u8 0).cells n ++ Builtin.zeroCells (Value.int .u8 0).cells (grownCap w (0 + n) 0 5 - (0 + n))) 5)) := fun ty =>
    Lib.run_append_grow_zeros w 26 3 ty 5 i (.int .u8 0) .i64 .i64 Tryd.underlying26 Tryd.underlying3 hi hz none 0 0 [] (run_firstCells_none w.drew i.size 0 0 0) n h0 (by omega) (by omega) (by omega) (by rw [hb]; omega) (growslice_fits (by omega) (by rw [hb]; omega))
  have hG1 := grownCap_ge w (0 + n) 0 5
  have hG2 := grownCap_le_maxLen w (0 + n) 0 5 (by unfold maxLen; omega)
  obtain ⟨G, hG⟩ : ∃ G, G = grownCap w (0 + n) 0 5 := ⟨_, rfl⟩
  rw [← hG] at hrz hG1 hG2
  obtain ⟨cs, hcs⟩ : ∃ cs, cs = (([] : List Value).toArray ++ Builtin.zeroCells (Value.int .u8 0).cells n ++ Builtin.zeroCells (Value.int .u8 0).cells (G - (0 + n))) := ⟨_, rfl⟩
  rw [← hcs] at hrz
  have hsz : cs.size = G := by
    rw [hcs, Array.size_append, Array.size_append, size_zeroCells, size_zeroCells]
    show 0 + n * 1 + (G - (0 + n)) * 1 = G
    omega
  rw [Nat.zero_add] at hrz
  have ho : Own (w.drew.alloc (.cells cs 5)) w.heap.size (.slice (some ⟨w.heap.size, 0, none⟩) 0 G) 0 [] :=
    ⟨⟨rfl, .inr ⟨w.heap.size, G, cs, rfl, Nat.le_refl _, heap_alloc_new w.drew _, Nat.zero_le _, hG2, by rw [hsz, Nat.mul_one], rfl⟩⟩⟩
  have b1 : ¬ (n : Int) < 0 := by omega
  have b2 : 0 < (n : Int) := by omega
  have hcut := fun W => run_upto (P := Tryd.prog) (some ⟨w.heap.size, 0, none⟩) n G 26 5 Tryd.underlying26 szB 0 0 rfl (Nat.zero_le _) W
  clear hcs hG hG1 hG2 hsz
  have HO := Kp.mk ho
  clear ho
  go_enter Tryd.func69, Tryd.ntmps69
  go_wp2_with (at_builtin; refine Lib.wpList_append_run _ rfl _ _ _ _ rfl _ _ rfl rfl _ _ (hrz _) ?_)
  go_ret
  exact ⟨_, _, rfl, HO.out, (by (repeat (first | assumption | exact Ext.refl _ | apply Ext.drew | apply Ext.drewN | apply Ext.alloc | refine Ext.trans ?_ (by assumption))); first | done | fail)⟩
/-- of two parts: how many bytes the first j hold, and which -/
def s2 (n m : Nat) (j : Nat) : Nat := if j = 0 then 0 else if j = 1 then n else n + m
def l2 (x y : List (BitVec 8)) (j : Nat) : List (BitVec 8) := if j = 0 then [] else if j = 1 then x else x ++ y
set_option maxHeartbeats 2000000 in
theorem Concat_any {x y : List (BitVec 8)} {A1 A2 : Option Addr} {n m c1 c2 g : Nat} {w : World} (h1 : Bs w A1 n c1 x) (h2 : Bs w A2 m c2 y) (hB : Blk w g 26 #[.slice A1 n c1, .slice A2 m c2]) (h0 : 0 < n + m) (hn : n + m ≤ 140737488351232) :
    Calls Tryd.prog 53 #[.slice (some ⟨g, 0, none⟩) 2 2] w (Fresh w (n + m) (x ++ y)) := by
  go_enter Tryd.func53, Tryd.ntmps53
  have H1 := Kp.mk h1
  have H2 := Kp.mk h2
  have HB := Kp.mk hB
  clear h1 h2 hB
  go_wp2_with fail
  go_loopw [3, 11] (fun sv iv wr => ∃ j : Nat, j ≤ 2 ∧ iv = .int .i64 j ∧ sv = .int .i64 (s2 n m j) ∧ wr = w) (fun _ i _ => 2 - (intOf i).toNat)
  case atStart => exact ⟨0, by omega, rfl, rfl, rfl⟩
  case round =>
    obtain ⟨j, hj, rfl, rfl, rfl⟩ := hrel
    have c0 := HB.out.h.cell 0
    have c1' := HB.out.h.cell 1
    have hj3 : j = 0 ∨ j = 1 ∨ j = 2 := by omega
    rcases hj3 with rfl | rfl | rfl
    · have e : s2 n m 0 = 0 := rfl
      rw [e]
      go_wp2_with fail
      go_roundw
      case rel => exact ⟨1, by omega, rfl, by simp [s2], trivial⟩
      case measure => simp [intOf]
    · have e : s2 n m 1 = n := rfl
      rw [e]
      go_wp2_with fail
      go_roundw
      case rel => exact ⟨2, by omega, rfl, by simp [s2], trivial⟩
      case measure => simp [intOf]
    · have e : s2 n m 2 = n + m := rfl
      rw [e]
      have hz : ((n + m : Nat) : Int) = (n : Int) + (m : Int) := by omega
      go_wp2_with (go_at_call 69; refine (Grow_any (n + m) h0 hn _).mono ?_; rintro e w1 ⟨A3, c3, rfl, ho3, hx3⟩)
      clear c0 c1' e hz hj
      obtain ⟨wo, rfl⟩ : ∃ wo : World, wo = wr := ⟨_, rfl⟩
      go_loopw [6, 27] (fun nv iv wq => ∃ j : Nat, j ≤ 2 ∧ iv = .int .i64 j ∧ (∃ A c, nv = .slice A (s2 n m j) c) ∧ Own wq wo.heap.size nv (s2 n m j) (l2 x y j) ∧ Ext wo wq) (fun _ i _ => 2 - (intOf i).toNat)
      case atStart => exact ⟨0, by omega, rfl, ⟨_, _, rfl⟩, ho3, hx3⟩
      case round =>
        clear ho3 hx3
        obtain ⟨j, hj, rfl, ⟨A4, c4, rfl⟩, ho4, hx4⟩ := hrel
        have c0 := (HB.out.ext hx4).h.cell 0
        have c1' := (HB.out.ext hx4).h.cell 1
        have HS := Kp.mk hx4.size
        have hj3 : j = 0 ∨ j = 1 ∨ j = 2 := by omega
        rcases hj3 with rfl | rfl | rfl
        · go_wp2_with (first | (at_builtin; refine wpList_append_bs rfl (.tmp 31) (.tmp 32) rfl wo.heap.size _ 0 [] rfl ho4 A1 n c1 x rfl (H1.out.ext hx4) (by omega) n (by omega) x rfl wo hx4 (Nat.le_refl _) HS.out ?_; intro A5 c5 w5 ho5 hx5 _) | fail)
          go_roundw
          case rel => exact ⟨1, by omega, rfl, ⟨_, _, rfl⟩, ho5, hx5⟩
          case measure => simp [intOf]
        · go_wp2_with (first | (at_builtin; refine wpList_append_bs rfl (.tmp 31) (.tmp 32) rfl wo.heap.size _ n x rfl ho4 A2 m c2 y rfl (H2.out.ext hx4) (by omega) (n + m) rfl (x ++ y) rfl wo hx4 (Nat.le_refl _) HS.out ?_; intro A5 c5 w5 ho5 hx5 _) | fail)
          go_roundw
          case rel => exact ⟨2, by omega, rfl, ⟨_, _, rfl⟩, ho5, hx5⟩
          case measure => simp [intOf]
        · have ho5 : Own wr wo.heap.size (.slice A4 (n + m) c4) (n + m) (x ++ y) := ho4
          have hx5 := hx4
          have e : s2 n m 2 = n + m := rfl
          rw [e]
          clear ho4 hx4
          go_wp2_with fail
          go_ret
          exact ⟨_, _, rfl, ho5.bs, ho5, hx5⟩
end Go.Proofs.YticggkllfojgkaaDoor
namespace Go.Proofs.YticggkllfojgkaaDoor
open Go Go.RowKit
set_option maxRecDepth 4000

theorem ub_beq (x y : BitVec 8) : (ub x == ub y) = (x == y) := by
  by_cases h : x = y
  · subst h; simp
  · have h2 : ub x ≠ ub y := fun e => h (BitVec.eq_of_toNat_eq (by unfold ub at e; omega))
    rw [beq_eq_false_iff_ne.2 h, beq_eq_false_iff_ne.2 h2]
theorem bv_cells (l : List (BitVec 8)) : bv l = ((l.map UInt8.ofBitVec).map Extern.Stop.cell).toArray := by
  unfold bv
  rw [List.map_map]
  rfl
theorem of_beq (xs ys : List (BitVec 8)) : (xs.map UInt8.ofBitVec == ys.map UInt8.ofBitVec) = (xs == ys) := by
  by_cases h : xs = ys
  · subst h; simp
  · have h2 : xs.map UInt8.ofBitVec ≠ ys.map UInt8.ofBitVec := fun e => h (by
      have h3 := congrArg (List.map UInt8.toBitVec) e
      rw [List.map_map, List.map_map] at h3
      have e1 : UInt8.toBitVec ∘ UInt8.ofBitVec = id := by funext z; rfl
      rwa [e1, List.map_id, List.map_id] at h3)
    rw [beq_eq_false_iff_ne.2 h, beq_eq_false_iff_ne.2 h2]
/-- the library's law on arrays of bytes, at bytes as bit vectors -/
theorem run_equalIn_bts {P : Program} (w : World) (d t e n : Nat) (ht : P.underlying t = some (.array n e)) (he : P.underlying e = some (.int .u8)) (hs : (P.info? e).map (·.size) = some 1)
    (xs ys : List (BitVec 8)) (hx : xs.length = n) (hy : ys.length = n) :
    (Op.equalIn (d + 2) t (.agg (bv xs)) (.agg (bv ys))).run P w = .ok (xs == ys) w := by
  have hsz : ∀ w, (sizeOf e).run P w = .ok 1 w := fun w => by
    cases hq : P.info? e with
    | none => simp [hq] at hs
    | some i =>
      have hs1 : i.size = 1 := by simpa [hq] using hs
      simp [sizeOf, typeInfo, hq, hs1]
  rw [bv_cells, bv_cells, run_equalIn_bytes w d t e n ht he hsz _ _ (by rw [List.length_map, hx]) (by rw [List.length_map, hy]), of_beq]
theorem bl_loop (bs : ByteArray) : ∀ (n i : Nat) (r : List UInt8), bs.size - i = n → ByteArray.toList.loop bs i r = r.reverse ++ bs.data.toList.drop i
  | 0, i, r, h => by
    rw [ByteArray.toList.loop, if_neg (by omega), List.drop_eq_nil_of_le (by have : bs.data.toList.length = bs.size := rfl; omega), List.append_nil]
  | n + 1, i, r, h => by
    have hi : i < bs.size := by omega
    have hi2 : i < bs.data.toList.length := hi
    rw [ByteArray.toList.loop, if_pos hi, bl_loop bs n (i + 1) _ (by omega), List.reverse_cons, List.append_assoc, List.drop_eq_getElem_cons hi2]
    congr 2
    simp [ByteArray.get!, hi]
theorem bl_toList (bs : ByteArray) : bs.toList = bs.data.toList := by
  unfold ByteArray.toList
  rw [bl_loop bs _ 0 [] rfl]
  simp
theorem strOf_toList (l : List (BitVec 8)) : (strOf l).toList = l.map UInt8.ofBitVec := by rw [bl_toList]; rfl
theorem strOf_inj {x y : List (BitVec 8)} (h : (strOf x).toList = (strOf y).toList) : x = y := by
  rw [strOf_toList, strOf_toList] at h
  have h3 := congrArg (List.map UInt8.toBitVec) h
  rw [List.map_map, List.map_map] at h3
  have e : UInt8.toBitVec ∘ UInt8.ofBitVec = id := by funext z; rfl
  rwa [e, List.map_id, List.map_id] at h3
end Go.Proofs.YticggkllfojgkaaDoor
namespace Go.Proofs.YticggkllfojgkaaDoor
open Go Go.RowKit
set_option maxRecDepth 4000

/-- one of the parts that are joined -/
structure Part where
  A : Option Addr
  n : Nat
  c : Nat
  l : List (BitVec 8)
def Part.v (p : Part) : Value := .slice p.A p.n p.c
def pN : List Part → Nat
  | [] => 0
  | p :: r => p.n + pN r
def pL : List Part → List (BitVec 8)
  | [] => []
  | p :: r => p.l ++ pL r
theorem pN_take (ps : List Part) (j : Nat) (p : Part) (h : ps[j]? = some p) : pN (ps.take (j + 1)) = pN (ps.take j) + p.n := by
  induction ps generalizing j with
  | nil => cases h
  | cons q r ih =>
    cases j with
    | zero => simp at h; subst h; simp [pN]
    | succ j =>
      have h2 := ih j (by simpa using h)
      rw [List.take_succ_cons, List.take_succ_cons, pN, pN, h2]
      omega
theorem pL_take (ps : List Part) (j : Nat) (p : Part) (h : ps[j]? = some p) : pL (ps.take (j + 1)) = pL (ps.take j) ++ p.l := by
  induction ps generalizing j with
  | nil => cases h
  | cons q r ih =>
    cases j with
    | zero => simp at h; subst h; simp [pL]
    | succ j =>
      have h2 := ih j (by simpa using h)
      rw [List.take_succ_cons, List.take_succ_cons, pL, pL, h2, List.append_assoc]
theorem pN_le (ps : List Part) : ∀ j, pN (ps.take j) ≤ pN ps := by
  induction ps with
  | nil => intro j; simp [pN]
  | cons q r ih =>
    intro j
    cases j with
    | zero => simp [pN]
    | succ j =>
      rw [List.take_succ_cons, pN, pN]
      have := ih j
      omega
set_option maxHeartbeats 2000000 in
theorem ConcatP {ps : List Part} {k g t : Nat} {w : World} (hk : ps.length = k) (hp : ∀ (j : Nat) (p : Part), ps[j]? = some p → Bs w p.A p.n p.c p.l) (hB : Blk w g t (ps.map Part.v).toArray) (h0 : 0 < pN ps) (hn : pN ps ≤ 140737488351232) (hk2 : k ≤ 100) :
    Calls Tryd.prog 53 #[.slice (some ⟨g, 0, none⟩) k k] w (Fresh w (pN ps) (pL ps)) := by
  go_enter Tryd.func53, Tryd.ntmps53
  have HP := Kp.mk hp
  have HB := Kp.mk hB
  have hat : ∀ j, j < k → ∃ p, ps[j]? = some p := fun j hj => ⟨ps[j], by simp [hk, hj]⟩
  have HAT := Kp.mk hat
  have HK := Kp.mk hk
  clear hp hB hat hk
  go_wp2_with fail
  go_loopw [3, 11] (fun sv iv wr => ∃ j : Nat, j ≤ k ∧ iv = .int .i64 j ∧ sv = .int .i64 ((pN (ps.take j) : Nat) : Int) ∧ wr = w) (fun _ i _ => k - (intOf i).toNat)
  case atStart => exact ⟨0, by omega, rfl, rfl, rfl⟩
  case round =>
    obtain ⟨j, hj, rfl, rfl, rfl⟩ := hrel
    by_cases hlt : j < k
    · obtain ⟨p, hp⟩ := HAT.out j hlt
      have c0 := HB.out.h.cell j
      rw [show ((ps.map Part.v).toArray)[j]? = some (.slice p.A p.n p.c) by simp [hp, Part.v]] at c0
      have h1 := pN_take ps j p hp
      have h2 := pN_le ps (j + 1)
      have h3 := HP.out j p hp
      have hcap := h3.cap
      have hs : (((pN (ps.take j) : Nat) : Int)) + (p.n : Int) = ((pN (ps.take (j + 1)) : Nat) : Int) := by omega
      have b0 : (j : Int) < (k : Int) := by omega
      clear h1 h3 hp
      generalize pN (ps.take j) = S at *
      obtain ⟨T, hT⟩ : ∃ T, pN (ps.take (j + 1)) = T := ⟨_, rfl⟩
      rw [hT] at hs h2
      have HTK := Kp.mk hT
      clear hT
      have b1 : IntKind.i64.wrap (T : Int) = (T : Int) := by rw [IntKind.wrap_i64]; omega
      have b2 : decide ((T : Int) < 0) = false := decide_eq_false (by omega)
      go_wp2_with fail
      go_roundw
      case rel => exact ⟨j + 1, by omega, by go_num, by rw [HTK.out], trivial⟩
      case measure => simp [intOf]; omega
    · obtain rfl : j = k := by omega
      rw [List.take_of_length_le (by rw [HK.out]; exact Nat.le_refl _)]
      have b0 : decide ((j : Int) < (j : Int)) = false := decide_eq_false (by omega)
      obtain ⟨N, hN⟩ : ∃ N, pN ps = N := ⟨_, rfl⟩
      rw [hN] at h0 hn ⊢
      have HN := Kp.mk hN
      clear hN hlt hj
      go_wp2_with (go_at_call 69; refine (Grow_any N h0 hn _).mono ?_; rintro e w1 ⟨A3, c3, rfl, ho3, hx3⟩)
      obtain ⟨wo, rfl⟩ : ∃ wo : World, wo = wr := ⟨_, rfl⟩
      go_loopw [6, 27] (fun nv iv wq => ∃ i : Nat, i ≤ j ∧ iv = .int .i64 i ∧ (∃ A c, nv = .slice A (pN (ps.take i)) c) ∧ Own wq wo.heap.size nv (pN (ps.take i)) (pL (ps.take i)) ∧ Ext wo wq) (fun _ i _ => j - (intOf i).toNat)
      case atStart => exact ⟨0, by omega, rfl, ⟨_, _, rfl⟩, ho3, hx3⟩
      case round =>
        clear ho3 hx3
        obtain ⟨i, hi, rfl, ⟨A4, c4, rfl⟩, ho4, hx4⟩ := hrel
        by_cases hlt : i < j
        · obtain ⟨p, hp⟩ := HAT.out i hlt
          have c0 := (HB.out.ext hx4).h.cell i
          rw [show ((ps.map Part.v).toArray)[i]? = some (.slice p.A p.n p.c) by simp [hp, Part.v]] at c0
          have h1 := pN_take ps i p hp
          have h2 := pL_take ps i p hp
          have h4 := pN_le ps (i + 1)
          have H3 := Kp.mk ((HP.out i p hp).ext hx4)
          have HS := Kp.mk hx4.size
          have HO := Kp.mk ho4
          have HX := Kp.mk hx4
          have HE := Kp.mk h2
          have hb : pN (ps.take i) + p.n ≤ 140737488355328 := by have := HN.out; omega
          have HQ := Kp.mk h1
          have b1 : (i : Int) < (j : Int) := by omega
          obtain ⟨Ap, np, cp, lp⟩ := p
          clear h1 h2 h4 hp ho4 hx4
          generalize pN (ps.take i) = S at *
          generalize pL (ps.take i) = L at *
          obtain ⟨T, hT⟩ : ∃ T, pN (ps.take (i + 1)) = T := ⟨_, rfl⟩
          obtain ⟨M, hM⟩ : ∃ M, pL (ps.take (i + 1)) = M := ⟨_, rfl⟩
          rw [hT] at HQ
          rw [hM] at HE
          have HTK := Kp.mk hT
          have HMK := Kp.mk hM
          clear hT hM
          go_wp2_with (first | (at_builtin; refine wpList_append_bs rfl (.tmp 31) (.tmp 32) rfl wo.heap.size _ S L rfl HO.out Ap np cp lp rfl H3.out hb T HQ.out.symm M HE.out.symm wo HX.out (Nat.le_refl _) HS.out ?_; intro A5 c5 w5 ho5 hx5 _) | fail)
          go_roundw
          case rel => exact ⟨i + 1, by omega, by go_num, ⟨A5, c5, by rw [HTK.out]⟩, by rw [HTK.out, HMK.out]; exact ho5, hx5⟩
          case measure => simp [intOf]; omega
        · obtain rfl : i = j := by omega
          rw [List.take_of_length_le (by rw [HK.out]; exact Nat.le_refl _), HN.out] at ho4
          rw [List.take_of_length_le (by rw [HK.out]; exact Nat.le_refl _), HN.out]
          clear hlt hi
          go_wp2_with fail
          go_ret
          have hN := HN.out
          subst hN
          exact ⟨_, _, rfl, ho4.bs, ho4, hx4⟩
theorem str_beq (l1 l2 : List (BitVec 8)) : ((strOf l1).toList == (strOf l2).toList) = (l1 == l2) := by rw [strOf_toList, strOf_toList, of_beq]
theorem Equal_any {l1 l2 : List (BitVec 8)} {A B : Option Addr} {n c m d : Nat} {w : World} (h1 : Bs w A n c l1) (h2 : Bs w B m d l2) :
    Calls Tryd.prog 37 #[.slice A n c, .slice B m d] w fun e w' => e = .returned (.bool (l1 == l2)) ∧ w' = w := by
  have k1 := h1.str (Ext.refl w)
  have k2 := h2.str (Ext.refl w)
  rw [← str_beq]
  clear h1 h2
  go_enter Tryd.func37, Tryd.ntmps37
  go_wp2
  go_ret
  exact ⟨rfl, rfl⟩
set_option maxHeartbeats 1000000 in
/-- does it begin so? -/
theorem HasPrefix_any {l1 l2 : List (BitVec 8)} {A B : Option Addr} {n c m d : Nat} {w : World} (h1 : Bs w A n c l1) (h2 : Bs w B m d l2) (hn : n ≤ 4611686018427387904) (hm : m ≤ 4611686018427387904) (b : Bool) (hb : b = true ↔ l1.take m = l2) :
    Calls Tryd.prog 68 #[.slice A n c, .slice B m d] w fun e w' => e = .returned (.bool b) ∧ w' = w := by
  have e1 := h1.len
  have e2 := h2.len
  by_cases hle : m ≤ n
  · have h3 := h1.take m hle
    have b0 : (m : Int) ≤ (n : Int) := by omega
    have hcap := h1.cap
    have hs := fun W => run_upto (P := Tryd.prog) A n c 26 5 Tryd.underlying26 szB m (m : Int) rfl (by omega) W
    have C := Kp.mk (Equal_any h3 h2)
    rw [show (l1.take m == l2) = b by
      cases b
      · exact beq_eq_false_iff_ne.2 fun e => by have := hb.2 e; cases this
      · exact beq_iff_eq.2 (hb.1 rfl)] at C
    clear h1 h2 h3 hb e1 e2 hle
    cases b
    · go_enter Tryd.func68, Tryd.ntmps68
      go_wp2_with (go_at_call 37; refine C.out.mono ?_; rintro e w1 ⟨rfl, rfl⟩)
      go_ret
      exact ⟨rfl, rfl⟩
    · go_enter Tryd.func68, Tryd.ntmps68
      go_wp2_with (go_at_call 37; refine C.out.mono ?_; rintro e w1 ⟨rfl, rfl⟩)
      go_ret
      exact ⟨rfl, rfl⟩
  · obtain rfl : b = false := by
      cases b
      · rfl
      · have h3 := hb.1 rfl
        have := congrArg List.length h3
        rw [List.length_take] at this
        omega
    have b0 : decide ((m : Int) ≤ (n : Int)) = false := decide_eq_false (by omega)
    clear h1 h2 hb e1 e2
    go_enter Tryd.func68, Tryd.ntmps68
    go_wp2_with fail
    go_ret
    exact ⟨rfl, rfl⟩
theorem Bs.drop {w : World} {A : Option Addr} {n c : Nat} {l : List (BitVec 8)} (h : Bs w A n c l) (k : Nat) (hk : k ≤ n) : Bs w (if c = k then A else A.map (·.add k)) (n - k) (c - k) (l.drop k) := by
  have hl := h.len
  have hcap := h.cap
  refine ⟨by rw [List.length_drop, hl], by omega, fun e => ?_, fun hn => ?_⟩
  · have hA : A = none := by
      cases A with
      | none => rfl
      | some a => split at e <;> simp at e
    have := h.s.2.2.1 hA
    omega
  · obtain ⟨g, o, rfl, hc⟩ := h.s.2.2.2 (by omega)
    rw [if_neg (by omega)]
    have hadd : (⟨g, o, none⟩ : Addr).add k = ⟨g, o + k, none⟩ := by unfold Addr.add; split <;> simp_all
    refine ⟨g, o + k, by simp [hadd], fun j hj => ?_⟩
    rw [gb_drop, Nat.add_assoc]
    exact hc (k + j) (by omega)
set_option maxHeartbeats 1000000 in
/-- what is behind it -/
theorem CutPrefix_any {l1 l2 : List (BitVec 8)} {A B : Option Addr} {n c m d : Nat} {w : World} (h1 : Bs w A n c l1) (h2 : Bs w B m d l2) (hn : n ≤ 4611686018427387904) (hm : m ≤ 4611686018427387904) (h : l1.take m = l2) :
    Calls Tryd.prog 52 #[.slice A n c, .slice B m d] w fun e w' => ∃ A' c', e = .returned (.tuple #[.slice A' (n - m) c', .bool true]) ∧ Bs w A' (n - m) c' (l1.drop m) ∧ w' = w := by
  have e1 := h1.len
  have e2 := h2.len
  have hle : m ≤ n := by
    have := congrArg List.length h
    rw [List.length_take] at this
    omega
  have HD := Kp.mk (h1.drop m hle)
  have hcap := h1.cap
  have hs := fun W => run_from (P := Tryd.prog) A n c 26 5 Tryd.underlying26 szB m (m : Int) rfl (by omega) W
  have C := Kp.mk (HasPrefix_any h1 h2 hn hm true (by simp [h]))
  obtain ⟨A', hA'⟩ : ∃ A', (if c = m then A else Option.map (fun x => x.add m) A) = A' := ⟨_, rfl⟩
  rw [hA'] at HD
  simp only [hA'] at hs
  clear hA'
  clear h1 h2 e1 e2
  go_enter Tryd.func52, Tryd.ntmps52
  go_wp2_with (go_at_call 68; refine C.out.mono ?_; rintro e w1 ⟨rfl, rfl⟩)
  go_ret2
  exact ⟨_, _, rfl, HD.out, rfl⟩
theorem CutPrefix_not {l1 l2 : List (BitVec 8)} {A B : Option Addr} {n c m d : Nat} {w : World} (h1 : Bs w A n c l1) (h2 : Bs w B m d l2) (hn : n ≤ 4611686018427387904) (hm : m ≤ 4611686018427387904) (h : l1.take m ≠ l2) :
    Calls Tryd.prog 52 #[.slice A n c, .slice B m d] w fun e w' => e = .returned (.tuple #[.slice A n c, .bool false]) ∧ w' = w := by
  have C := Kp.mk (HasPrefix_any h1 h2 hn hm false (by simp [h]))
  clear h1 h2
  go_enter Tryd.func52, Tryd.ntmps52
  go_wp2_with (go_at_call 68; refine C.out.mono ?_; rintro e w1 ⟨rfl, rfl⟩)
  go_ret2
  exact ⟨rfl, rfl⟩
/-- how many bytes stand ahead of the first 00 -/
def fz : List (BitVec 8) → Nat
  | [] => 0
  | x :: r => if x = 0 then 0 else fz r + 1
theorem fz_le (l : List (BitVec 8)) : fz l ≤ l.length := by
  induction l with
  | nil => exact Nat.le_refl _
  | cons x r ih => unfold fz; split <;> simp; omega
theorem fz_ahead (l : List (BitVec 8)) : ∀ j, j < fz l → gb l j ≠ 0 := by
  induction l with
  | nil => intro j h; exact absurd h (Nat.not_lt_zero _)
  | cons x r ih =>
    intro j h
    unfold fz at h
    split at h
    · omega
    · next hx =>
      cases j with
      | zero => simpa [gb] using hx
      | succ j => have := ih j (by omega); simpa [gb] using this
theorem fz_at (l : List (BitVec 8)) (h : fz l < l.length) : gb l (fz l) = 0 := by
  induction l with
  | nil => cases h
  | cons x r ih =>
    by_cases hx : x = 0
    · rw [show fz (x :: r) = 0 by unfold fz; rw [if_pos hx]]
      simp [gb, hx]
    · have e : fz (x :: r) = fz r + 1 := by rw [fz, if_neg hx]
      rw [e] at h ⊢
      have := ih (by simpa using h)
      simpa [gb] using this
def fzI (l : List (BitVec 8)) : Int := if fz l < l.length then (fz l : Int) else -1
theorem ib_fz (l : List (BitVec 8)) : Lib.indexByte (l.map UInt8.ofBitVec) 0 = fzI l := by
  induction l with
  | nil => rfl
  | cons x r ih =>
    rw [List.map_cons, Lib.indexByte, ih]
    by_cases hx : x = 0
    · subst hx
      rfl
    · have hne : (UInt8.ofBitVec x == 0) = false := by
        refine beq_eq_false_iff_ne.2 fun e => hx ?_
        have := congrArg UInt8.toBitVec e
        exact this
      rw [hne]
      unfold fzI
      rw [fz, if_neg hx]
      simp only [Bool.false_eq_true, if_false, List.length_cons]
      by_cases h : fz r < r.length
      · have e1 : ((fz r : Int) == -1) = false := beq_eq_false_iff_ne.2 (by omega)
        simp only [if_pos h, e1, if_pos (show fz r + 1 < r.length + 1 by omega)]
        simp
      · simp only [if_neg h, if_neg (show ¬ fz r + 1 < r.length + 1 by omega)]
        rfl
theorem IndexByte_any {l : List (BitVec 8)} {A : Option Addr} {n c : Nat} {w : World} (h : Bs w A n c l) :
    Calls Tryd.prog 27 #[.slice A n c, .int .u8 0] w fun e w' => e = .returned (.int .i64 (fzI l)) ∧ w' = w := by
  have hlen := h.len
  have hcall : (callFunc 45 #[.slice A n c, .int .u8 0]).run Tryd.prog w = .ok (.value (.int .i64 (fzI l))) w := by
    rw [run_callFunc_extern Tryd.func45 (by kernel_rfl) (by kernel_rfl) (by kernel_rfl) (e := Extern.BytealgIndexByte.indexByte) (by kernel_rfl)]
    by_cases hn : n = 0
    · obtain rfl : l = [] := List.eq_nil_of_length_eq_zero (by omega)
      subst hn
      cases A with
      | none => rw [Lib.run_indexByteNil]; rfl
      | some a =>
        obtain ⟨g, o, q⟩ := a
        rfl
    · obtain ⟨g, o, rfl, hc⟩ := h.s.2.2.2 (by omega)
      rw [Lib.run_indexByteSlice w g o n c (l.map ub) (by rw [List.length_map, hlen]) (fun i hi => by
        rw [hc i hi, List.getD_eq_getElem?_getD, List.getElem?_map]
        simp [gb, show i < l.length by omega]) 0]
      rw [← ib_fz]
      have e : Lib.bytesOf (l.map ub) = l.map UInt8.ofBitVec := by
        unfold Lib.bytesOf
        rw [List.map_map]
        refine List.map_congr_left fun x _ => ?_
        apply UInt8.eq_of_toBitVec_eq
        simp [ub]
      rw [e]
      rfl
  clear h hlen
  go_enter Tryd.func27, Tryd.ntmps27
  go_wp2
  go_ret
  exact ⟨rfl, rfl⟩
end Go.Proofs.YticggkllfojgkaaDoor
namespace Go.Proofs.YticggkllfojgkaaDoor
open Go Go.RowKit
set_option maxRecDepth 4000

theorem szB8 : (Tryd.prog.info? 5).map (·.size) = some 1 := by kernel_rfl
theorem trimByte_any {l : List Nat} {A : Option Addr} {n c : Nat} {w : World} (h : Rd vB w A n c l) (hn : n ≤ 9223372036854775807) :
    Calls Tryd.prog 80 #[.slice A n c, .int .u8 0] w fun e w' => ∃ A' n' c', e = .returned (.slice A' n' c') ∧ Rd vB w A' n' c' (l.dropWhile (· == 0)) ∧ w' = w := by
  have HR := Kp.mk h
  clear h
  go_enter Tryd.func80, Tryd.ntmps80
  go_wp2_with fail
  go_loopw [0] (fun iv wr => ∃ A' n' c' l', n' ≤ n ∧ iv = .slice A' n' c' ∧ Rd vB w A' n' c' l' ∧ l'.dropWhile (· == 0) = l.dropWhile (· == 0) ∧ wr = w) (fun iv _ => lenOf iv)
  case atStart => exact ⟨A, n, c, l, Nat.le_refl _, rfl, HR.out, rfl, rfl⟩
  case round =>
    obtain ⟨A', n', c', l', hle, rfl, hr, hd, rfl⟩ := hrel
    have hlen := hr.len
    cases l' with
    | nil =>
      obtain rfl : n' = 0 := hlen.symm
      have HF := Kp.mk (show Rd vB wr none 0 0 (l.dropWhile (· == 0)) by rw [← hd]; exact Rd.nil wr)
      clear hr hd hlen
      go_wp2_with fail
      go_ret
      exact ⟨none, 0, 0, rfl, HF.out, rfl⟩
    | cons x l' =>
      obtain ⟨g, o, rfl⟩ := hr.some_ (by simp at hlen; omega)
      have hn0 : 0 < n' := by simp at hlen; omega
      have k1 := hr.dig 0 hn0
      unfold vB at k1
      rw [show dg (x :: l') 0 = x from rfl, Nat.add_zero] at k1
      have b0 : (0 : Int) < (n' : Int) := by omega
      have b1 : (n' : Int) ≤ 9223372036854775807 := by omega
      have b2 : ((n' : Int) == 0) = false := beq_eq_false_iff_ne.2 (by omega)
      by_cases hx : x = 0
      · subst hx
        have hs := fun W => run_from (P := Tryd.prog) (some ⟨g, o, none⟩) n' c' 26 5 Tryd.underlying26 szB8 1 1 rfl (by omega) W
        have HF := Kp.mk (And.intro (hr.drop 1 (by omega)) (show l'.dropWhile (· == 0) = l.dropWhile (· == 0) by rw [← hd, List.dropWhile_cons]; simp))
        rw [show (0 :: l').drop 1 = l' from rfl] at HF
        rw [show ((0 : Nat) : Int) = 0 from rfl] at k1
        generalize (if c' = 1 then some (⟨g, o, none⟩ : Addr) else (some (⟨g, o, none⟩ : Addr)).map (·.add 1)) = A2 at *
        clear hr hd hlen
        go_wp2_with fail
        go_roundw
        case rel => exact ⟨_, _, _, _, by omega, rfl, HF.out.1, HF.out.2, by trivial⟩
        case measure => simp [lenOf]; omega
      · have hx2 : ((x : Int) == 0) = false := beq_eq_false_iff_ne.2 (by omega)
        have HF := Kp.mk (show Rd vB wr (some ⟨g, o, none⟩) n' c' (l.dropWhile (· == 0)) by rw [← hd, List.dropWhile_cons]; simp [hx]; exact hr)
        clear hr hd hlen
        go_wp2_with fail
        go_ret
        exact ⟨_, _, _, rfl, HF.out, rfl⟩
set_option maxHeartbeats 4000000 in
set_option maxRecDepth 1000000 in
theorem trim_left0 {l : List Nat} {A : Option Addr} {n c : Nat} {w : World} (cc : UInt8) (hcc : cc.toNat = 0) (h : Rd vB w A n c l) (hn : n ≤ 9223372036854775807) :
    Calls Tryd.prog 63 #[.slice A n c, .string ⟨#[cc]⟩] w fun e w' => ∃ A' n' c', e = .returned (.slice A' n' c') ∧ Rd vB w A' n' c' (l.dropWhile (· == 0)) ∧ w' = w := by
  by_cases h0 : n = 0
  · subst h0
    have e : l = [] := List.eq_nil_of_length_eq_zero h.len
    subst e
    clear h
    go_enter Tryd.func63, Tryd.ntmps63
    go_wp2_with fail
    go_ret
    exact ⟨none, 0, 0, rfl, Rd.nil _, rfl⟩
  · have b0 : ¬ (n : Int) = 0 := by omega
    have hn0 : ((n : Int) == 0) = false := beq_eq_false_iff_ne.2 b0
    have hc' : ¬ (128 : Int) ≤ (cc.toNat : Int) := by omega
    have hg0 : ((⟨#[cc]⟩ : ByteArray)[0]'Nat.zero_lt_one) = cc := rfl
    have C := Kp.mk (trimByte_any h hn)
    clear h
    go_enter Tryd.func63, Tryd.ntmps63
    go_wp2_with (go_at_call 80; refine C.out.mono ?_; rintro e w1 ⟨A1, n1, c1, rfl, h1, rfl⟩)
    all_goals first | (go_ret; exact ⟨_, _, _, rfl, h1, rfl⟩) | (exfalso; simp_all; done) | (exfalso; omega)
theorem trim_left {l : List Nat} {A : Option Addr} {n c : Nat} {w : World} (h : Rd vB w A n c l) (hn : n ≤ 9223372036854775807) :
    Calls Tryd.prog 63 #[.slice A n c, .string ⟨#[0]⟩] w fun e w' => ∃ A' n' c', e = .returned (.slice A' n' c') ∧ Rd vB w A' n' c' (l.dropWhile (· == 0)) ∧ w' = w := trim_left0 0 rfl h hn
/-- what Read tells -/
def ReadR (w : World) (l : List Nat) (e : Ending) (w' : World) : Prop :=
  (256 ^ 256 ≤ vl 256 l.reverse ∧ Bad1 w 4 e w') ∨ (vl 256 l.reverse < 256 ^ 256 ∧ Ok1 w (vl 256 l.reverse) e w')
theorem drop_top (l : List Nat) : (l.dropWhile (· == 0)).reverse.length = 0 ∨ dg (l.dropWhile (· == 0)).reverse ((l.dropWhile (· == 0)).reverse.length - 1) ≠ 0 := by
  cases h : l.dropWhile (· == 0) with
  | nil => exact .inl rfl
  | cons x t =>
    refine .inr ?_
    have hx : (x == 0) = false := by
      have h1 := List.head?_dropWhile_not (· == 0) l
      rw [h] at h1
      simpa using h1
    rw [dg_rev _ _ (by simp), List.length_reverse]
    have e : (x :: t).length - 1 - ((x :: t).length - 1) = 0 := by omega
    rw [e]
    show x ≠ 0
    exact fun e => by simp [e] at hx
theorem or32 (x y : Nat) (hx : x < 4294967296) (hy : y < 4294967296) : bits .or .u32 (x : Int) (y : Int) = ((x ||| y : Nat) : Int) := by
  show IntKind.u32.wrap ((BitVec.ofInt 32 (x : Int) ||| BitVec.ofInt 32 (y : Int)).toNat : Int) = _
  have h := Nat.or_lt_two_pow (x := x) (y := y) (n := 32) (by omega) (by omega)
  rw [BitVec.ofInt_natCast, BitVec.ofInt_natCast, BitVec.toNat_or, BitVec.toNat_ofNat, BitVec.toNat_ofNat, Nat.mod_eq_of_lt (by omega), Nat.mod_eq_of_lt (by omega), IntKind.wrap_u32]
  omega
theorem or_low (x y E : Nat) (hx : x < 2 ^ E) : x ||| y * 2 ^ E = y * 2 ^ E + x := by
  rw [Nat.or_comm]
  exact or_add y E x hx
end Go.Proofs.YticggkllfojgkaaDoor
