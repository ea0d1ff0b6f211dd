/-
  The walks of slices.Grow, slices.Concat of two slices, bytes.Clone, Fill.
  Arrays of bytes compared.
  The library's slices.Concat of any parts, bytes.Equal, HasPrefix, CutPrefix, IndexByte.
  Elements of bytes: marks, lengths, what a writer holds; plain.
-/
import Derived.Test.YtkdjhklnlnfhfaaGreatDoorM3
import Derived.Lib.AppendZerosOnto
import Derived.Lib.SliceRun
import Derived.Test.YtkdjhklnlnfhfaaGreatDoorM1
import Derived.Test.YtkdjhklnlnfhfaaGreatDoorM0
import Derived.Stop.BytesEq
import Derived.Lib.BytesEntry
namespace Go.Proofs.YtkdjhklnlnfhfaaGreatDoor
open Go Go.RowKit
set_option maxRecDepth 4000

set_option maxHeartbeats 1000000 in
theorem Grow_any (n : Nat) (h0 : 0 < n) (hn : n ≤ 140737488351232) (w : World) :
    Calls Tryz.prog 172 #[.slice none 0 0, .int .i64 (n : Int)] w fun e w' => ∃ A c, e = .returned (.slice A 0 c) ∧ Own w' w.heap.size (.slice A 0 c) 0 [] ∧ Ext w w' := by
  obtain ⟨i, hi, hz, hs, hb⟩ := info_parts inB
  have hrz : ∀ ty, (Builtin.append_ #[39, 3] ty #[.slice none 0 0, .int .i64 (n : Int)]).run Tryz.prog w =
      .ok (.slice (some ⟨w.heap.size, 0, none⟩) (0 + n) (grownCap w (0 + n) 0 5)) (w.drew.alloc (.cells (([] : List Value).toArray ++ Builtin.zeroCells (Value.int .u8 0).cells n ++ Builtin.zeroCells (Value.int .u8 0).cells (grownCap w (0 + n) 0 5 - (0 + n))) 5)) := fun ty =>
    Lib.run_append_grow_zeros w 39 3 ty 5 i (.int .u8 0) .i64 .i64 Tryz.underlying39 Tryz.underlying3 hi hz none 0 0 [] (run_firstCells_none w.drew i.size 0 0 0) n h0 (by omega) (by omega) (by omega) (by rw [hb]; omega) (growslice_fits (by omega) (by rw [hb]; omega))
  have hG1 := grownCap_ge w (0 + n) 0 5
  have hG2 := grownCap_le_maxLen w (0 + n) 0 5 (by unfold maxLen; omega)
  obtain ⟨G, hG⟩ : ∃ G, G = grownCap w (0 + n) 0 5 := ⟨_, rfl⟩
  rw [← hG] at hrz hG1 hG2
  obtain ⟨cs, hcs⟩ : ∃ cs, cs = (([] : List Value).toArray ++ Builtin.zeroCells (Value.int .u8 0).cells n ++ Builtin.zeroCells (Value.int .u8 0).cells (G - (0 + n))) := ⟨_, rfl⟩
  rw [← hcs] at hrz
  have hsz : cs.size = G := by
    rw [hcs, Array.size_append, Array.size_append, size_zeroCells, size_zeroCells]
    show 0 + n * 1 + (G - (0 + n)) * 1 = G
    omega
  rw [Nat.zero_add] at hrz
  have ho : Own (w.drew.alloc (.cells cs 5)) w.heap.size (.slice (some ⟨w.heap.size, 0, none⟩) 0 G) 0 [] :=
    ⟨⟨rfl, .inr ⟨w.heap.size, G, cs, rfl, Nat.le_refl _, heap_alloc_new w.drew _, Nat.zero_le _, hG2, by rw [hsz, Nat.mul_one], rfl⟩⟩⟩
  have b1 : ¬ (n : Int) < 0 := by omega
  have b2 : 0 < (n : Int) := by omega
  have hcut := fun W => run_upto (P := Tryz.prog) (some ⟨w.heap.size, 0, none⟩) n G 39 5 Tryz.underlying39 szB 0 0 rfl (Nat.zero_le _) W
  clear hcs hG hG1 hG2 hsz
  have HO := Kp.mk ho
  clear ho
  go_enter Tryz.func172, Tryz.ntmps172
  go_wp2_with (at_builtin; refine Lib.wpList_append_run _ rfl _ _ _ _ rfl _ _ rfl rfl _ _ (hrz _) ?_)
  go_ret
  exact ⟨_, _, rfl, HO.out, (by (repeat (first | assumption | exact Ext.refl _ | apply Ext.drew | apply Ext.drewN | apply Ext.alloc | refine Ext.trans ?_ (by assumption))); first | done | fail)⟩
/-- of two parts: how many bytes the first j hold, and which -/
def s2 (n m : Nat) (j : Nat) : Nat := if j = 0 then 0 else if j = 1 then n else n + m
def l2 (x y : List (BitVec 8)) (j : Nat) : List (BitVec 8) := if j = 0 then [] else if j = 1 then x else x ++ y
set_option maxHeartbeats 2000000 in
theorem Concat_any {x y : List (BitVec 8)} {A1 A2 : Option Addr} {n m c1 c2 g : Nat} {w : World} (h1 : Bs w A1 n c1 x) (h2 : Bs w A2 m c2 y) (hB : Blk w g 39 #[.slice A1 n c1, .slice A2 m c2]) (h0 : 0 < n + m) (hn : n + m ≤ 140737488351232) :
    Calls Tryz.prog 125 #[.slice (some ⟨g, 0, none⟩) 2 2] w (Fresh w (n + m) (x ++ y)) := by
  go_enter Tryz.func125, Tryz.ntmps125
  have H1 := Kp.mk h1
  have H2 := Kp.mk h2
  have HB := Kp.mk hB
  clear h1 h2 hB
  go_wp2_with fail
  go_loopw [3, 11] (fun sv iv wr => ∃ j : Nat, j ≤ 2 ∧ iv = .int .i64 j ∧ sv = .int .i64 (s2 n m j) ∧ wr = w) (fun _ i _ => 2 - (intOf i).toNat)
  case atStart => exact ⟨0, by omega, rfl, rfl, rfl⟩
  case round =>
    obtain ⟨j, hj, rfl, rfl, rfl⟩ := hrel
    have c0 := HB.out.h.cell 0
    have c1' := HB.out.h.cell 1
    have hj3 : j = 0 ∨ j = 1 ∨ j = 2 := by omega
    rcases hj3 with rfl | rfl | rfl
    · have e : s2 n m 0 = 0 := rfl
      rw [e]
      go_wp2_with fail
      go_roundw
      case rel => exact ⟨1, by omega, rfl, by simp [s2], trivial⟩
      case measure => simp [intOf]
    · have e : s2 n m 1 = n := rfl
      rw [e]
      go_wp2_with fail
      go_roundw
      case rel => exact ⟨2, by omega, rfl, by simp [s2], trivial⟩
      case measure => simp [intOf]
    · have e : s2 n m 2 = n + m := rfl
      rw [e]
      have hz : ((n + m : Nat) : Int) = (n : Int) + (m : Int) := by omega
      go_wp2_with (go_at_call 172; refine (Grow_any (n + m) h0 hn _).mono ?_; rintro e w1 ⟨A3, c3, rfl, ho3, hx3⟩)
      clear c0 c1' e hz hj
      obtain ⟨wo, rfl⟩ : ∃ wo : World, wo = wr := ⟨_, rfl⟩
      go_loopw [6, 27] (fun nv iv wq => ∃ j : Nat, j ≤ 2 ∧ iv = .int .i64 j ∧ (∃ A c, nv = .slice A (s2 n m j) c) ∧ Own wq wo.heap.size nv (s2 n m j) (l2 x y j) ∧ Ext wo wq) (fun _ i _ => 2 - (intOf i).toNat)
      case atStart => exact ⟨0, by omega, rfl, ⟨_, _, rfl⟩, ho3, hx3⟩
      case round =>
        clear ho3 hx3
        obtain ⟨j, hj, rfl, ⟨A4, c4, rfl⟩, ho4, hx4⟩ := hrel
        have c0 := (HB.out.ext hx4).h.cell 0
        have c1' := (HB.out.ext hx4).h.cell 1
        have HS := Kp.mk hx4.size
        have hj3 : j = 0 ∨ j = 1 ∨ j = 2 := by omega
        rcases hj3 with rfl | rfl | rfl
        · go_wp2_with (first | (at_builtin; refine wpList_append_bs rfl (.tmp 31) (.tmp 32) rfl wo.heap.size _ 0 [] rfl ho4 A1 n c1 x rfl (H1.out.ext hx4) (by omega) n (by omega) x rfl wo hx4 (Nat.le_refl _) HS.out ?_; intro A5 c5 w5 ho5 hx5 _) | fail)
          go_roundw
          case rel => exact ⟨1, by omega, rfl, ⟨_, _, rfl⟩, ho5, hx5⟩
          case measure => simp [intOf]
        · go_wp2_with (first | (at_builtin; refine wpList_append_bs rfl (.tmp 31) (.tmp 32) rfl wo.heap.size _ n x rfl ho4 A2 m c2 y rfl (H2.out.ext hx4) (by omega) (n + m) rfl (x ++ y) rfl wo hx4 (Nat.le_refl _) HS.out ?_; intro A5 c5 w5 ho5 hx5 _) | fail)
          go_roundw
          case rel => exact ⟨2, by omega, rfl, ⟨_, _, rfl⟩, ho5, hx5⟩
          case measure => simp [intOf]
        · have ho5 : Own wr wo.heap.size (.slice A4 (n + m) c4) (n + m) (x ++ y) := ho4
          have hx5 := hx4
          have e : s2 n m 2 = n + m := rfl
          rw [e]
          clear ho4 hx4
          go_wp2_with fail
          go_ret
          exact ⟨_, _, rfl, ho5.bs, ho5, hx5⟩
set_option maxHeartbeats 1000000 in
theorem Clone_any {b : List (BitVec 8)} {A : Option Addr} {n c : Nat} {w : World} (h : Bs w A n c b) (hn : n ≤ 140737488351232) :
    Calls Tryz.prog 152 #[.slice A n c] w (Fresh w n b) := by
  have hnil := fun (w : World) (a : Option Addr) (n c n' c' : Nat) => Lib.run_eql_slice_nil (P := Tryz.prog) w 39 5 a n c n' c' Tryz.underlying39
  have ho := Own.new w w.heap.size 0 [] rfl (Nat.le_refl _) (Nat.zero_le _)
  have hx : Ext w (w.alloc (.cells (bv []) 5)) := (by (repeat (first | assumption | exact Ext.refl _ | apply Ext.drew | apply Ext.drewN | apply Ext.alloc | refine Ext.trans ?_ (by assumption))); first | done | fail)
  have hb := h.ext hx
  have HN := Kp.mk h
  clear h
  cases A with
  | none =>
    obtain ⟨rfl, rfl⟩ := HN.out.s.2.2.1 rfl
    obtain rfl : b = [] := List.eq_nil_of_length_eq_zero HN.out.len
    go_enter Tryz.func152, Tryz.ntmps152
    go_wp2
    go_ret
    exact ⟨_, _, rfl, Bs.nil _, Own.nil _ _, Ext.refl _⟩
  | some a =>
    go_enter Tryz.func152, Tryz.ntmps152
    go_wp2_with (first | (at_builtin; refine wpList_append_bs rfl (.tmp 5) (.tmp 6) rfl w.heap.size _ 0 [] rfl ho (some a) n c b rfl hb (by omega) n (by omega) b rfl w hx (Nat.le_refl _) hx.size ?_; intro A5 c5 w5 ho5 hx5 _) | fail)
    go_ret
    exact ⟨_, _, rfl, ho5.bs, ho5, hx5⟩
end Go.Proofs.YtkdjhklnlnfhfaaGreatDoor
namespace Go.Proofs.YtkdjhklnlnfhfaaGreatDoor
open Go Go.RowKit
set_option maxRecDepth 4000

theorem ub_beq (x y : BitVec 8) : (ub x == ub y) = (x == y) := by
  by_cases h : x = y
  · subst h; simp
  · have h2 : ub x ≠ ub y := fun e => h (BitVec.eq_of_toNat_eq (by unfold ub at e; omega))
    rw [beq_eq_false_iff_ne.2 h, beq_eq_false_iff_ne.2 h2]
theorem bv_cells (l : List (BitVec 8)) : bv l = ((l.map UInt8.ofBitVec).map Extern.Stop.cell).toArray := by
  unfold bv
  rw [List.map_map]
  rfl
theorem of_beq (xs ys : List (BitVec 8)) : (xs.map UInt8.ofBitVec == ys.map UInt8.ofBitVec) = (xs == ys) := by
  by_cases h : xs = ys
  · subst h; simp
  · have h2 : xs.map UInt8.ofBitVec ≠ ys.map UInt8.ofBitVec := fun e => h (by
      have h3 := congrArg (List.map UInt8.toBitVec) e
      rw [List.map_map, List.map_map] at h3
      have e1 : UInt8.toBitVec ∘ UInt8.ofBitVec = id := by funext z; rfl
      rwa [e1, List.map_id, List.map_id] at h3)
    rw [beq_eq_false_iff_ne.2 h, beq_eq_false_iff_ne.2 h2]
/-- the library's law on arrays of bytes, at bytes as bit vectors -/
theorem run_equalIn_bts {P : Program} (w : World) (d t e n : Nat) (ht : P.underlying t = some (.array n e)) (he : P.underlying e = some (.int .u8)) (hs : (P.info? e).map (·.size) = some 1)
    (xs ys : List (BitVec 8)) (hx : xs.length = n) (hy : ys.length = n) :
    (Op.equalIn (d + 2) t (.agg (bv xs)) (.agg (bv ys))).run P w = .ok (xs == ys) w := by
  have hsz : ∀ w, (sizeOf e).run P w = .ok 1 w := fun w => by
    cases hq : P.info? e with
    | none => simp [hq] at hs
    | some i =>
      have hs1 : i.size = 1 := by simpa [hq] using hs
      simp [sizeOf, typeInfo, hq, hs1]
  rw [bv_cells, bv_cells, run_equalIn_bytes w d t e n ht he hsz _ _ (by rw [List.length_map, hx]) (by rw [List.length_map, hy]), of_beq]
theorem bl_loop (bs : ByteArray) : ∀ (n i : Nat) (r : List UInt8), bs.size - i = n → ByteArray.toList.loop bs i r = r.reverse ++ bs.data.toList.drop i
  | 0, i, r, h => by
    rw [ByteArray.toList.loop, if_neg (by omega), List.drop_eq_nil_of_le (by have : bs.data.toList.length = bs.size := rfl; omega), List.append_nil]
  | n + 1, i, r, h => by
    have hi : i < bs.size := by omega
    have hi2 : i < bs.data.toList.length := hi
    rw [ByteArray.toList.loop, if_pos hi, bl_loop bs n (i + 1) _ (by omega), List.reverse_cons, List.append_assoc, List.drop_eq_getElem_cons hi2]
    congr 2
    simp [ByteArray.get!, hi]
theorem bl_toList (bs : ByteArray) : bs.toList = bs.data.toList := by
  unfold ByteArray.toList
  rw [bl_loop bs _ 0 [] rfl]
  simp
theorem strOf_toList (l : List (BitVec 8)) : (strOf l).toList = l.map UInt8.ofBitVec := by rw [bl_toList]; rfl
theorem strOf_inj {x y : List (BitVec 8)} (h : (strOf x).toList = (strOf y).toList) : x = y := by
  rw [strOf_toList, strOf_toList] at h
  have h3 := congrArg (List.map UInt8.toBitVec) h
  rw [List.map_map, List.map_map] at h3
  have e : UInt8.toBitVec ∘ UInt8.ofBitVec = id := by funext z; rfl
  rwa [e, List.map_id, List.map_id] at h3
end Go.Proofs.YtkdjhklnlnfhfaaGreatDoor
namespace Go.Proofs.YtkdjhklnlnfhfaaGreatDoor
open Go Go.RowKit
set_option maxRecDepth 4000

/-- one of the parts that are joined -/
structure Part where
  A : Option Addr
  n : Nat
  c : Nat
  l : List (BitVec 8)
def Part.v (p : Part) : Value := .slice p.A p.n p.c
def pN : List Part → Nat
  | [] => 0
  | p :: r => p.n + pN r
def pL : List Part → List (BitVec 8)
  | [] => []
  | p :: r => p.l ++ pL r
theorem pN_take (ps : List Part) (j : Nat) (p : Part) (h : ps[j]? = some p) : pN (ps.take (j + 1)) = pN (ps.take j) + p.n := by
  induction ps generalizing j with
  | nil => cases h
  | cons q r ih =>
    cases j with
    | zero => simp at h; subst h; simp [pN]
    | succ j =>
      have h2 := ih j (by simpa using h)
      rw [List.take_succ_cons, List.take_succ_cons, pN, pN, h2]
      omega
theorem pL_take (ps : List Part) (j : Nat) (p : Part) (h : ps[j]? = some p) : pL (ps.take (j + 1)) = pL (ps.take j) ++ p.l := by
  induction ps generalizing j with
  | nil => cases h
  | cons q r ih =>
    cases j with
    | zero => simp at h; subst h; simp [pL]
    | succ j =>
      have h2 := ih j (by simpa using h)
      rw [List.take_succ_cons, List.take_succ_cons, pL, pL, h2, List.append_assoc]
theorem pN_le (ps : List Part) : ∀ j, pN (ps.take j) ≤ pN ps := by
  induction ps with
  | nil => intro j; simp [pN]
  | cons q r ih =>
    intro j
    cases j with
    | zero => simp [pN]
    | succ j =>
      rw [List.take_succ_cons, pN, pN]
      have := ih j
      omega
set_option maxHeartbeats 2000000 in
theorem ConcatP {ps : List Part} {k g t : Nat} {w : World} (hk : ps.length = k) (hp : ∀ (j : Nat) (p : Part), ps[j]? = some p → Bs w p.A p.n p.c p.l) (hB : Blk w g t (ps.map Part.v).toArray) (h0 : 0 < pN ps) (hn : pN ps ≤ 140737488351232) (hk2 : k ≤ 100) :
    Calls Tryz.prog 125 #[.slice (some ⟨g, 0, none⟩) k k] w (Fresh w (pN ps) (pL ps)) := by
  go_enter Tryz.func125, Tryz.ntmps125
  have HP := Kp.mk hp
  have HB := Kp.mk hB
  have hat : ∀ j, j < k → ∃ p, ps[j]? = some p := fun j hj => ⟨ps[j], by simp [hk, hj]⟩
  have HAT := Kp.mk hat
  have HK := Kp.mk hk
  clear hp hB hat hk
  go_wp2_with fail
  go_loopw [3, 11] (fun sv iv wr => ∃ j : Nat, j ≤ k ∧ iv = .int .i64 j ∧ sv = .int .i64 ((pN (ps.take j) : Nat) : Int) ∧ wr = w) (fun _ i _ => k - (intOf i).toNat)
  case atStart => exact ⟨0, by omega, rfl, rfl, rfl⟩
  case round =>
    obtain ⟨j, hj, rfl, rfl, rfl⟩ := hrel
    by_cases hlt : j < k
    · obtain ⟨p, hp⟩ := HAT.out j hlt
      have c0 := HB.out.h.cell j
      rw [show ((ps.map Part.v).toArray)[j]? = some (.slice p.A p.n p.c) by simp [hp, Part.v]] at c0
      have h1 := pN_take ps j p hp
      have h2 := pN_le ps (j + 1)
      have h3 := HP.out j p hp
      have hcap := h3.cap
      have hs : (((pN (ps.take j) : Nat) : Int)) + (p.n : Int) = ((pN (ps.take (j + 1)) : Nat) : Int) := by omega
      have b0 : (j : Int) < (k : Int) := by omega
      clear h1 h3 hp
      generalize pN (ps.take j) = S at *
      obtain ⟨T, hT⟩ : ∃ T, pN (ps.take (j + 1)) = T := ⟨_, rfl⟩
      rw [hT] at hs h2
      have HTK := Kp.mk hT
      clear hT
      have b1 : IntKind.i64.wrap (T : Int) = (T : Int) := by rw [IntKind.wrap_i64]; omega
      have b2 : decide ((T : Int) < 0) = false := decide_eq_false (by omega)
      go_wp2_with fail
      go_roundw
      case rel => exact ⟨j + 1, by omega, by go_num, by rw [HTK.out], trivial⟩
      case measure => simp [intOf]; omega
    · obtain rfl : j = k := by omega
      rw [List.take_of_length_le (by rw [HK.out]; exact Nat.le_refl _)]
      have b0 : decide ((j : Int) < (j : Int)) = false := decide_eq_false (by omega)
      obtain ⟨N, hN⟩ : ∃ N, pN ps = N := ⟨_, rfl⟩
      rw [hN] at h0 hn ⊢
      have HN := Kp.mk hN
      clear hN hlt hj
      go_wp2_with (go_at_call 172; refine (Grow_any N h0 hn _).mono ?_; rintro e w1 ⟨A3, c3, rfl, ho3, hx3⟩)
      obtain ⟨wo, rfl⟩ : ∃ wo : World, wo = wr := ⟨_, rfl⟩
      go_loopw [6, 27] (fun nv iv wq => ∃ i : Nat, i ≤ j ∧ iv = .int .i64 i ∧ (∃ A c, nv = .slice A (pN (ps.take i)) c) ∧ Own wq wo.heap.size nv (pN (ps.take i)) (pL (ps.take i)) ∧ Ext wo wq) (fun _ i _ => j - (intOf i).toNat)
      case atStart => exact ⟨0, by omega, rfl, ⟨_, _, rfl⟩, ho3, hx3⟩
      case round =>
        clear ho3 hx3
        obtain ⟨i, hi, rfl, ⟨A4, c4, rfl⟩, ho4, hx4⟩ := hrel
        by_cases hlt : i < j
        · obtain ⟨p, hp⟩ := HAT.out i hlt
          have c0 := (HB.out.ext hx4).h.cell i
          rw [show ((ps.map Part.v).toArray)[i]? = some (.slice p.A p.n p.c) by simp [hp, Part.v]] at c0
          have h1 := pN_take ps i p hp
          have h2 := pL_take ps i p hp
          have h4 := pN_le ps (i + 1)
          have H3 := Kp.mk ((HP.out i p hp).ext hx4)
          have HS := Kp.mk hx4.size
          have HO := Kp.mk ho4
          have HX := Kp.mk hx4
          have HE := Kp.mk h2
          have hb : pN (ps.take i) + p.n ≤ 140737488355328 := by have := HN.out; omega
          have HQ := Kp.mk h1
          have b1 : (i : Int) < (j : Int) := by omega
          obtain ⟨Ap, np, cp, lp⟩ := p
          clear h1 h2 h4 hp ho4 hx4
          generalize pN (ps.take i) = S at *
          generalize pL (ps.take i) = L at *
          obtain ⟨T, hT⟩ : ∃ T, pN (ps.take (i + 1)) = T := ⟨_, rfl⟩
          obtain ⟨M, hM⟩ : ∃ M, pL (ps.take (i + 1)) = M := ⟨_, rfl⟩
          rw [hT] at HQ
          rw [hM] at HE
          have HTK := Kp.mk hT
          have HMK := Kp.mk hM
          clear hT hM
          go_wp2_with (first | (at_builtin; refine wpList_append_bs rfl (.tmp 31) (.tmp 32) rfl wo.heap.size _ S L rfl HO.out Ap np cp lp rfl H3.out hb T HQ.out.symm M HE.out.symm wo HX.out (Nat.le_refl _) HS.out ?_; intro A5 c5 w5 ho5 hx5 _) | fail)
          go_roundw
          case rel => exact ⟨i + 1, by omega, by go_num, ⟨A5, c5, by rw [HTK.out]⟩, by rw [HTK.out, HMK.out]; exact ho5, hx5⟩
          case measure => simp [intOf]; omega
        · obtain rfl : i = j := by omega
          rw [List.take_of_length_le (by rw [HK.out]; exact Nat.le_refl _), HN.out] at ho4
          rw [List.take_of_length_le (by rw [HK.out]; exact Nat.le_refl _), HN.out]
          clear hlt hi
          go_wp2_with fail
          go_ret
          have hN := HN.out
          subst hN
          exact ⟨_, _, rfl, ho4.bs, ho4, hx4⟩
theorem str_beq (l1 l2 : List (BitVec 8)) : ((strOf l1).toList == (strOf l2).toList) = (l1 == l2) := by rw [strOf_toList, strOf_toList, of_beq]
theorem Equal_any {l1 l2 : List (BitVec 8)} {A B : Option Addr} {n c m d : Nat} {w : World} (h1 : Bs w A n c l1) (h2 : Bs w B m d l2) :
    Calls Tryz.prog 65 #[.slice A n c, .slice B m d] w fun e w' => e = .returned (.bool (l1 == l2)) ∧ w' = w := by
  have k1 := h1.str (Ext.refl w)
  have k2 := h2.str (Ext.refl w)
  rw [← str_beq]
  clear h1 h2
  go_enter Tryz.func65, Tryz.ntmps65
  go_wp2
  go_ret
  exact ⟨rfl, rfl⟩
set_option maxHeartbeats 1000000 in
/-- does it begin so? -/
theorem HasPrefix_any {l1 l2 : List (BitVec 8)} {A B : Option Addr} {n c m d : Nat} {w : World} (h1 : Bs w A n c l1) (h2 : Bs w B m d l2) (hn : n ≤ 4611686018427387904) (hm : m ≤ 4611686018427387904) (b : Bool) (hb : b = true ↔ l1.take m = l2) :
    Calls Tryz.prog 195 #[.slice A n c, .slice B m d] w fun e w' => e = .returned (.bool b) ∧ w' = w := by
  have e1 := h1.len
  have e2 := h2.len
  by_cases hle : m ≤ n
  · have h3 := h1.take m hle
    have b0 : (m : Int) ≤ (n : Int) := by omega
    have hcap := h1.cap
    have hs := fun W => run_upto (P := Tryz.prog) A n c 39 5 Tryz.underlying39 szB m (m : Int) rfl (by omega) W
    have C := Kp.mk (Equal_any h3 h2)
    rw [show (l1.take m == l2) = b by
      cases b
      · exact beq_eq_false_iff_ne.2 fun e => by have := hb.2 e; cases this
      · exact beq_iff_eq.2 (hb.1 rfl)] at C
    clear h1 h2 h3 hb e1 e2 hle
    cases b
    · go_enter Tryz.func195, Tryz.ntmps195
      go_wp2_with (go_at_call 65; refine C.out.mono ?_; rintro e w1 ⟨rfl, rfl⟩)
      go_ret
      exact ⟨rfl, rfl⟩
    · go_enter Tryz.func195, Tryz.ntmps195
      go_wp2_with (go_at_call 65; refine C.out.mono ?_; rintro e w1 ⟨rfl, rfl⟩)
      go_ret
      exact ⟨rfl, rfl⟩
  · obtain rfl : b = false := by
      cases b
      · rfl
      · have h3 := hb.1 rfl
        have := congrArg List.length h3
        rw [List.length_take] at this
        omega
    have b0 : decide ((m : Int) ≤ (n : Int)) = false := decide_eq_false (by omega)
    clear h1 h2 hb e1 e2
    go_enter Tryz.func195, Tryz.ntmps195
    go_wp2_with fail
    go_ret
    exact ⟨rfl, rfl⟩
theorem Bs.drop {w : World} {A : Option Addr} {n c : Nat} {l : List (BitVec 8)} (h : Bs w A n c l) (k : Nat) (hk : k ≤ n) : Bs w (if c = k then A else A.map (·.add k)) (n - k) (c - k) (l.drop k) := by
  have hl := h.len
  have hcap := h.cap
  refine ⟨by rw [List.length_drop, hl], by omega, fun e => ?_, fun hn => ?_⟩
  · have hA : A = none := by
      cases A with
      | none => rfl
      | some a => split at e <;> simp at e
    have := h.s.2.2.1 hA
    omega
  · obtain ⟨g, o, rfl, hc⟩ := h.s.2.2.2 (by omega)
    rw [if_neg (by omega)]
    have hadd : (⟨g, o, none⟩ : Addr).add k = ⟨g, o + k, none⟩ := by unfold Addr.add; split <;> simp_all
    refine ⟨g, o + k, by simp [hadd], fun j hj => ?_⟩
    rw [gb_drop, Nat.add_assoc]
    exact hc (k + j) (by omega)
/-- how many bytes stand ahead of the first 00 -/
def fz : List (BitVec 8) → Nat
  | [] => 0
  | x :: r => if x = 0 then 0 else fz r + 1
theorem fz_le (l : List (BitVec 8)) : fz l ≤ l.length := by
  induction l with
  | nil => exact Nat.le_refl _
  | cons x r ih => unfold fz; split <;> simp; omega
theorem fz_ahead (l : List (BitVec 8)) : ∀ j, j < fz l → gb l j ≠ 0 := by
  induction l with
  | nil => intro j h; exact absurd h (Nat.not_lt_zero _)
  | cons x r ih =>
    intro j h
    unfold fz at h
    split at h
    · omega
    · next hx =>
      cases j with
      | zero => simpa [gb] using hx
      | succ j => have := ih j (by omega); simpa [gb] using this
theorem fz_at (l : List (BitVec 8)) (h : fz l < l.length) : gb l (fz l) = 0 := by
  induction l with
  | nil => cases h
  | cons x r ih =>
    by_cases hx : x = 0
    · rw [show fz (x :: r) = 0 by unfold fz; rw [if_pos hx]]
      simp [gb, hx]
    · have e : fz (x :: r) = fz r + 1 := by rw [fz, if_neg hx]
      rw [e] at h ⊢
      have := ih (by simpa using h)
      simpa [gb] using this
def fzI (l : List (BitVec 8)) : Int := if fz l < l.length then (fz l : Int) else -1
theorem ib_fz (l : List (BitVec 8)) : Lib.indexByte (l.map UInt8.ofBitVec) 0 = fzI l := by
  induction l with
  | nil => rfl
  | cons x r ih =>
    rw [List.map_cons, Lib.indexByte, ih]
    by_cases hx : x = 0
    · subst hx
      rfl
    · have hne : (UInt8.ofBitVec x == 0) = false := by
        refine beq_eq_false_iff_ne.2 fun e => hx ?_
        have := congrArg UInt8.toBitVec e
        exact this
      rw [hne]
      unfold fzI
      rw [fz, if_neg hx]
      simp only [Bool.false_eq_true, if_false, List.length_cons]
      by_cases h : fz r < r.length
      · have e1 : ((fz r : Int) == -1) = false := beq_eq_false_iff_ne.2 (by omega)
        simp only [if_pos h, e1, if_pos (show fz r + 1 < r.length + 1 by omega)]
        simp
      · simp only [if_neg h, if_neg (show ¬ fz r + 1 < r.length + 1 by omega)]
        rfl
end Go.Proofs.YtkdjhklnlnfhfaaGreatDoor
namespace Go.Proofs.YtkdjhklnlnfhfaaGreatDoor
open Go
set_option maxRecDepth 4000

/-- is a byte a mark; one of a whole; one of a part -/
def mkB (m : BitVec 8) : Bool := m.toNat % 32 != 31
def whB (m : BitVec 8) : Bool := m.toNat / 32 % 2 == 1
def isW (m : BitVec 8) : Bool := mkB m && whB m
def isP (m : BitVec 8) : Bool := mkB m && !whB m
/-- how long a mark and a length are; they themselves; an element -/
def hdn (n : Nat) : Nat := if n < 128 then 2 else if n < 256 then 3 else 4
def hdr (m : BitVec 8) (n : Nat) : List (BitVec 8) := if n < 128 then [m, BitVec.ofNat 8 n] else if n < 256 then [m, 129, BitVec.ofNat 8 n] else [m, 130, BitVec.ofNat 8 (n / 256), BitVec.ofNat 8 (n % 256)]
def elm (m : BitVec 8) (b : List (BitVec 8)) : List (BitVec 8) := hdr m b.length ++ b
theorem hdr_len (m : BitVec 8) (n : Nat) : (hdr m n).length = hdn n := by unfold hdr hdn; split; rfl; split <;> rfl
theorem hdn_lo (n : Nat) : 2 ≤ hdn n := by unfold hdn; split; omega; split <;> omega
theorem hdn_hi (n : Nat) : hdn n ≤ 4 := by unfold hdn; split; omega; split <;> omega
theorem elm_len (m : BitVec 8) (b : List (BitVec 8)) : (elm m b).length = hdn b.length + b.length := by unfold elm; rw [List.length_append, hdr_len]
theorem hdr_cons (m : BitVec 8) (n : Nat) : ∃ r, hdr m n = m :: r ∧ r.length = hdn n - 1 := by
  unfold hdr hdn; split
  · exact ⟨_, rfl, rfl⟩
  · split
    · exact ⟨_, rfl, rfl⟩
    · exact ⟨_, rfl, rfl⟩
theorem hdr_gb0 (m : BitVec 8) (n : Nat) (r : List (BitVec 8)) : gb (hdr m n ++ r) 0 = m := by
  obtain ⟨t, e, _⟩ := hdr_cons m n
  rw [e]; rfl
/-- what a writer holds: the innermost whole's body, ahead of it the marks and the bodies of those that it is in; or what was amiss -/
inductive TWs where
  | ok (cur : List (BitVec 8)) (st : List (BitVec 8 × List (BitVec 8)))
  | bad (c : Nat)
def putS (m : BitVec 8) (b : List (BitVec 8)) : TWs → TWs
  | .bad c => .bad c
  | .ok cur st => if isP m = true then (if b.length ≤ 65535 then .ok (cur ++ elm m b) st else .bad 4) else .bad 1
def openS (m : BitVec 8) : TWs → TWs
  | .bad c => .bad c
  | .ok cur st => if isW m = true then (if st.length < 24 then .ok [] ((m, cur) :: st) else .bad 5) else .bad 1
def closeS : TWs → TWs
  | .bad c => .bad c
  | .ok _ [] => .bad 17
  | .ok cur ((m, out) :: st) => if cur.length ≤ 65535 then .ok (out ++ elm m cur) st else .bad 4
def doneL : TWs → List (BitVec 8)
  | .ok cur [] => cur
  | _ => []
def doneC : TWs → Nat
  | .bad c => c
  | .ok _ [] => 0
  | .ok _ (_ :: _) => 17
/-- all that is written, the lengths of the open ones aside; where the marks of the open ones stand; their number -/
def flatT (cur : List (BitVec 8)) : List (BitVec 8 × List (BitVec 8)) → List (BitVec 8)
  | [] => cur
  | (m, out) :: st => flatT out st ++ (m :: cur)
def ahead : List (BitVec 8 × List (BitVec 8)) → List (BitVec 8)
  | [] => []
  | (m, out) :: st => ahead st ++ out ++ [m]
theorem flatT_eq (cur : List (BitVec 8)) : ∀ st, flatT cur st = ahead st ++ cur
  | [] => rfl
  | (m, out) :: st => by rw [flatT, flatT_eq out st, ahead]; simp
theorem flatT_app (cur x : List (BitVec 8)) (st : List (BitVec 8 × List (BitVec 8))) : flatT (cur ++ x) st = flatT cur st ++ x := by
  rw [flatT_eq, flatT_eq, List.append_assoc]
theorem flatT_open (m : BitVec 8) (cur : List (BitVec 8)) (st : List (BitVec 8 × List (BitVec 8))) : flatT [] ((m, cur) :: st) = flatT cur st ++ [m] := rfl
def posT : List (BitVec 8 × List (BitVec 8)) → List Nat
  | [] => []
  | (_, out) :: st => posT st ++ [(flatT out st).length]
theorem posT_len : ∀ st, (posT st).length = st.length
  | [] => rfl
  | (m, out) :: st => by rw [posT, List.length_append, posT_len st]; rfl
theorem posT_last (m : BitVec 8) (out : List (BitVec 8)) (st : List (BitVec 8 × List (BitVec 8))) : (posT ((m, out) :: st))[st.length]? = some (flatT out st).length := by
  rw [posT, List.getElem?_append_right (by rw [posT_len]; exact Nat.le_refl _), posT_len, Nat.sub_self]; rfl
theorem posT_take (m : BitVec 8) (out : List (BitVec 8)) (st : List (BitVec 8 × List (BitVec 8))) : (posT ((m, out) :: st)).take st.length = posT st := by
  rw [posT, List.take_append_of_le_length (by rw [posT_len]; exact Nat.le_refl _), ← posT_len, List.take_length]
theorem flatT_at (m : BitVec 8) (cur out : List (BitVec 8)) (st : List (BitVec 8 × List (BitVec 8))) : gb (flatT cur ((m, out) :: st)) (flatT out st).length = m := by
  rw [flatT, gb_app, if_neg (Nat.lt_irrefl _), Nat.sub_self]; rfl
/-- a whole is closed: its mark becomes mark and length -/
theorem flatT_close (m : BitVec 8) (cur out : List (BitVec 8)) (st : List (BitVec 8 × List (BitVec 8))) :
    flatT (out ++ elm m cur) st = flatT out st ++ hdr m cur.length ++ cur := by
  rw [flatT_app, elm, List.append_assoc]
theorem flatT_cut (m : BitVec 8) (cur out : List (BitVec 8)) (st : List (BitVec 8 × List (BitVec 8))) : (flatT cur ((m, out) :: st)).take (flatT out st).length = flatT out st ∧ (flatT cur ((m, out) :: st)).drop ((flatT out st).length + 1) = cur := by
  constructor
  · rw [flatT, List.take_left']
    rfl
  · rw [flatT, List.drop_append, List.drop_of_length_le (by omega)]
    simp
theorem flatT_len (m : BitVec 8) (cur out : List (BitVec 8)) (st : List (BitVec 8 × List (BitVec 8))) : (flatT cur ((m, out) :: st)).length = (flatT out st).length + 1 + cur.length := by
  rw [flatT]; simp; omega
/-- the reference's: marks and bodies from the outermost on -/
def mks : List (BitVec 8 × List (BitVec 8)) → List (BitVec 8)
  | [] => []
  | (m, _) :: st => mks st ++ [m]
def bods (cur : List (BitVec 8)) : List (BitVec 8 × List (BitVec 8)) → List (List (BitVec 8))
  | [] => [cur]
  | (_, out) :: st => bods out st ++ [cur]
theorem mks_len : ∀ st, (mks st).length = st.length
  | [] => rfl
  | (m, out) :: st => by rw [mks, List.length_append, mks_len st]; rfl
theorem bods_len (cur : List (BitVec 8)) : ∀ st, (bods cur st).length = st.length + 1
  | [] => rfl
  | (m, out) :: st => by rw [bods, List.length_append, bods_len out st]; rfl
theorem bods_last (cur : List (BitVec 8)) : ∀ st, (bods cur st)[st.length]? = some cur
  | [] => rfl
  | (m, out) :: st => by rw [bods, List.getElem?_append_right (by rw [bods_len, List.length_cons]; exact Nat.le_refl _), bods_len, List.length_cons, Nat.sub_self]; rfl
theorem bods_set (cur new : List (BitVec 8)) : ∀ st, (bods cur st).set st.length new = bods new st
  | [] => rfl
  | (m, out) :: st => by rw [bods, bods, List.set_append_right _ _ (by rw [bods_len, List.length_cons]; exact Nat.le_refl _), bods_len, List.length_cons, Nat.sub_self]; rfl
theorem bods_take (m : BitVec 8) (cur out : List (BitVec 8)) (st : List (BitVec 8 × List (BitVec 8))) : (bods cur ((m, out) :: st)).take (st.length + 1) = bods out st := by
  rw [bods, List.take_append_of_le_length (by rw [bods_len]; exact Nat.le_refl _), ← bods_len out st, List.take_length]
theorem mks_last (m : BitVec 8) (out : List (BitVec 8)) (st : List (BitVec 8 × List (BitVec 8))) : (mks ((m, out) :: st))[st.length]? = some m := by
  rw [mks, List.getElem?_append_right (by rw [mks_len]; exact Nat.le_refl _), mks_len, Nat.sub_self]; rfl
theorem mks_take (m : BitVec 8) (out : List (BitVec 8)) (st : List (BitVec 8 × List (BitVec 8))) : (mks ((m, out) :: st)).take st.length = mks st := by
  rw [mks, List.take_append_of_le_length (by rw [mks_len]; exact Nat.le_refl _), ← mks_len, List.take_length]
/-- how much is held in all -/
def szW : TWs → Nat
  | .ok cur st => (flatT cur st).length
  | .bad _ => 0
theorem szW_put (m : BitVec 8) (b : List (BitVec 8)) (s : TWs) : szW (putS m b s) ≤ szW s + b.length + 4 := by
  cases s with
  | bad c => simp [putS, szW]
  | ok cur st =>
    simp only [putS]
    split
    · split
      · have := hdn_hi b.length
        simp only [szW, flatT_app, List.length_append, elm_len]; omega
      · simp [szW]
    · simp [szW]
theorem szW_open (m : BitVec 8) (s : TWs) : szW (openS m s) ≤ szW s + 1 := by
  cases s with
  | bad c => simp [openS, szW]
  | ok cur st =>
    simp only [openS]
    split
    · split
      · simp [szW, flatT_open]
      · simp [szW]
    · simp [szW]
theorem szW_close (s : TWs) : szW (closeS s) ≤ szW s + 3 := by
  cases s with
  | bad c => simp [closeS, szW]
  | ok cur st =>
    cases st with
    | nil => simp [closeS, szW]
    | cons p st =>
      obtain ⟨m, out⟩ := p
      simp only [closeS]
      split
      · have := hdn_hi cur.length
        simp only [szW, flatT_close, List.length_append, hdr_len, flatT_len]; omega
      · simp [szW]
/-- what stands ahead of a byte's end: the first element -/
def lnOf (b : List (BitVec 8)) : Nat :=
  if 3 < b.length ∧ gb b 1 = 130 then (gb b 2).toNat * 256 + (gb b 3).toNat
  else if 2 < b.length ∧ gb b 1 = 129 then (gb b 2).toNat
  else if 1 < b.length then (gb b 1).toNat else 0
/-- an element stands there -/
def El (b : List (BitVec 8)) (m : BitVec 8) (x r : List (BitVec 8)) : Prop := mkB m = true ∧ x.length ≤ 65535 ∧ b = elm m x ++ r
theorem lnOf_el {b x r : List (BitVec 8)} {m : BitVec 8} (h : El b m x r) : lnOf b = x.length := by
  obtain ⟨_, h2, rfl⟩ := h
  unfold elm hdr
  by_cases h3 : x.length < 128
  · rw [if_pos h3]
    have e1 : gb ([m, BitVec.ofNat 8 x.length] ++ x ++ r) 1 = BitVec.ofNat 8 x.length := rfl
    have e2 : BitVec.ofNat 8 x.length ≠ 130 := fun e => by have := congrArg BitVec.toNat e; simp at this; omega
    have e3 : BitVec.ofNat 8 x.length ≠ 129 := fun e => by have := congrArg BitVec.toNat e; simp at this; omega
    unfold lnOf
    rw [e1, if_neg (fun h => e2 h.2), if_neg (fun h => e3 h.2), if_pos (by simp)]
    simp; omega
  · rw [if_neg h3]
    by_cases h4 : x.length < 256
    · rw [if_pos h4]
      have e1 : gb ([m, 129, BitVec.ofNat 8 x.length] ++ x ++ r) 1 = 129 := rfl
      have e2 : gb ([m, 129, BitVec.ofNat 8 x.length] ++ x ++ r) 2 = BitVec.ofNat 8 x.length := rfl
      unfold lnOf
      rw [e1, if_neg (fun h => absurd h.2 (by decide)), if_pos ⟨by simp, rfl⟩, e2]
      simp; omega
    · rw [if_neg h4]
      unfold lnOf
      rw [if_pos ⟨by simp, rfl⟩]
      show (BitVec.ofNat 8 (x.length / 256)).toNat * 256 + (BitVec.ofNat 8 (x.length % 256)).toNat = x.length
      simp; omega
/-- where the length that stands there makes the head that stands there, an element does -/
theorem el_of {b : List (BitVec 8)} (hm : mkB (gb b 0) = true) (hn : lnOf b ≤ 65535) (hp : b.take (hdn (lnOf b)) = hdr (gb b 0) (lnOf b)) (hr : hdn (lnOf b) + lnOf b ≤ b.length) :
    El b (gb b 0) ((b.drop (hdn (lnOf b))).take (lnOf b)) (b.drop (hdn (lnOf b) + lnOf b)) := by
  have e1 : ((b.drop (hdn (lnOf b))).take (lnOf b)).length = lnOf b := by rw [List.length_take, List.length_drop]; omega
  refine ⟨hm, by omega, ?_⟩
  unfold elm
  rw [e1, ← hp, List.append_assoc, ← List.drop_drop, List.take_append_drop, List.take_append_drop]
theorem el_parts {b x r : List (BitVec 8)} {m : BitVec 8} (h : El b m x r) : gb b 0 = m ∧ b.take (hdn x.length) = hdr m x.length ∧ hdn x.length + x.length + r.length = b.length ∧ b.take (hdn x.length + x.length) = elm m x ∧ (b.drop (hdn x.length)).take x.length = x ∧ b.drop (hdn x.length + x.length) = r := by
  obtain ⟨_, h2, rfl⟩ := h
  refine ⟨?_, ?_, ?_, ?_, ?_, ?_⟩
  · unfold elm; rw [List.append_assoc, hdr_gb0]
  · unfold elm; rw [List.append_assoc, List.take_left' (hdr_len _ _)]
  · rw [List.length_append, elm_len]
  · rw [List.take_left' (elm_len _ _)]
  · unfold elm; rw [List.append_assoc, List.drop_left' (hdr_len _ _), List.take_left' rfl]
  · rw [List.drop_left' (elm_len _ _)]
theorem lnOf_hi (b : List (BitVec 8)) : lnOf b ≤ 65535 := by
  have h1 := (gb b 1).isLt
  have h2 := (gb b 2).isLt
  have h3 := (gb b 3).isLt
  unfold lnOf
  split
  · omega
  · split
    · omega
    · split <;> omega
/-- what a writer can hold -/
def VW : TWs → Prop
  | .ok _ st => st.length ≤ 24 ∧ ∀ x ∈ st, isW x.1 = true
  | .bad c => 0 < c ∧ c < 100
theorem VW.put {s : TWs} (h : VW s) (m : BitVec 8) (b : List (BitVec 8)) : VW (putS m b s) := by
  cases s with
  | bad c => exact h
  | ok cur st =>
    simp only [putS]
    split
    · split
      · exact h
      · exact ⟨by decide, by decide⟩
    · exact ⟨by decide, by decide⟩
theorem VW.open_ {s : TWs} (h : VW s) (m : BitVec 8) : VW (openS m s) := by
  cases s with
  | bad c => exact h
  | ok cur st =>
    simp only [openS]
    split
    · next hm =>
      split
      · next hl =>
        refine ⟨by rw [List.length_cons]; omega, fun x hx => ?_⟩
        rcases List.mem_cons.1 hx with rfl | hx
        · exact hm
        · exact h.2 x hx
      · exact ⟨by decide, by decide⟩
    · exact ⟨by decide, by decide⟩
theorem VW.close {s : TWs} (h : VW s) : VW (closeS s) := by
  cases s with
  | bad c => exact h
  | ok cur st =>
    cases st with
    | nil => exact ⟨by decide, by decide⟩
    | cons x st =>
      obtain ⟨m, out⟩ := x
      simp only [closeS]
      split
      · exact ⟨by have := h.1; rw [List.length_cons] at this; omega, fun y hy => h.2 y (List.mem_cons_of_mem _ hy)⟩
      · exact ⟨by decide, by decide⟩
end Go.Proofs.YtkdjhklnlnfhfaaGreatDoor
