/-
  Arrays of bytes compared.
  The library's slices.Concat of any parts, bytes.Equal, HasPrefix, CutPrefix, IndexByte.
  prim: numbersOf, ReadOid.
  The laws' head.
-/
import Derived.Test.YtfipgmjaabggjaaDoorM3
import Derived.Test.YtfipgmjaabggjaaDoorM0
import Derived.Stop.BytesEq
import Derived.Test.YtfipgmjaabggjaaDoorM19
import Derived.Lib.BytesEntry
import Derived.Test.YtfipgmjaabggjaaDoorM22
import Derived.Laws.BitsLemmas
import Derived.Test.YtfipgmjaabggjaaDoorM21
namespace Go.Proofs.YtfipgmjaabggjaaDoor
open Go Go.RowKit
set_option maxRecDepth 4000

theorem ub_beq (x y : BitVec 8) : (ub x == ub y) = (x == y) := by
  by_cases h : x = y
  · subst h; simp
  · have h2 : ub x ≠ ub y := fun e => h (BitVec.eq_of_toNat_eq (by unfold ub at e; omega))
    rw [beq_eq_false_iff_ne.2 h, beq_eq_false_iff_ne.2 h2]
theorem bv_cells (l : List (BitVec 8)) : bv l = ((l.map UInt8.ofBitVec).map Extern.Stop.cell).toArray := by
  unfold bv
  rw [List.map_map]
  rfl
theorem of_beq (xs ys : List (BitVec 8)) : (xs.map UInt8.ofBitVec == ys.map UInt8.ofBitVec) = (xs == ys) := by
  by_cases h : xs = ys
  · subst h; simp
  · have h2 : xs.map UInt8.ofBitVec ≠ ys.map UInt8.ofBitVec := fun e => h (by
      have h3 := congrArg (List.map UInt8.toBitVec) e
      rw [List.map_map, List.map_map] at h3
      have e1 : UInt8.toBitVec ∘ UInt8.ofBitVec = id := by funext z; rfl
      rwa [e1, List.map_id, List.map_id] at h3)
    rw [beq_eq_false_iff_ne.2 h, beq_eq_false_iff_ne.2 h2]
/-- the library's law on arrays of bytes, at bytes as bit vectors -/
theorem run_equalIn_bts {P : Program} (w : World) (d t e n : Nat) (ht : P.underlying t = some (.array n e)) (he : P.underlying e = some (.int .u8)) (hs : (P.info? e).map (·.size) = some 1)
    (xs ys : List (BitVec 8)) (hx : xs.length = n) (hy : ys.length = n) :
    (Op.equalIn (d + 2) t (.agg (bv xs)) (.agg (bv ys))).run P w = .ok (xs == ys) w := by
  have hsz : ∀ w, (sizeOf e).run P w = .ok 1 w := fun w => by
    cases hq : P.info? e with
    | none => simp [hq] at hs
    | some i =>
      have hs1 : i.size = 1 := by simpa [hq] using hs
      simp [sizeOf, typeInfo, hq, hs1]
  rw [bv_cells, bv_cells, run_equalIn_bytes w d t e n ht he hsz _ _ (by rw [List.length_map, hx]) (by rw [List.length_map, hy]), of_beq]
theorem bl_loop (bs : ByteArray) : ∀ (n i : Nat) (r : List UInt8), bs.size - i = n → ByteArray.toList.loop bs i r = r.reverse ++ bs.data.toList.drop i
  | 0, i, r, h => by
    rw [ByteArray.toList.loop, if_neg (by omega), List.drop_eq_nil_of_le (by have : bs.data.toList.length = bs.size := rfl; omega), List.append_nil]
  | n + 1, i, r, h => by
    have hi : i < bs.size := by omega
    have hi2 : i < bs.data.toList.length := hi
    rw [ByteArray.toList.loop, if_pos hi, bl_loop bs n (i + 1) _ (by omega), List.reverse_cons, List.append_assoc, List.drop_eq_getElem_cons hi2]
    congr 2
    simp [ByteArray.get!, hi]
theorem bl_toList (bs : ByteArray) : bs.toList = bs.data.toList := by
  unfold ByteArray.toList
  rw [bl_loop bs _ 0 [] rfl]
  simp
theorem strOf_toList (l : List (BitVec 8)) : (strOf l).toList = l.map UInt8.ofBitVec := by rw [bl_toList]; rfl
theorem strOf_inj {x y : List (BitVec 8)} (h : (strOf x).toList = (strOf y).toList) : x = y := by
  rw [strOf_toList, strOf_toList] at h
  have h3 := congrArg (List.map UInt8.toBitVec) h
  rw [List.map_map, List.map_map] at h3
  have e : UInt8.toBitVec ∘ UInt8.ofBitVec = id := by funext z; rfl
  rwa [e, List.map_id, List.map_id] at h3
end Go.Proofs.YtfipgmjaabggjaaDoor
namespace Go.Proofs.YtfipgmjaabggjaaDoor
open Go Go.RowKit
set_option maxRecDepth 4000

/-- one of the parts that are joined -/
structure Part where
  A : Option Addr
  n : Nat
  c : Nat
  l : List (BitVec 8)
def Part.v (p : Part) : Value := .slice p.A p.n p.c
def pN : List Part → Nat
  | [] => 0
  | p :: r => p.n + pN r
def pL : List Part → List (BitVec 8)
  | [] => []
  | p :: r => p.l ++ pL r
theorem pN_take (ps : List Part) (j : Nat) (p : Part) (h : ps[j]? = some p) : pN (ps.take (j + 1)) = pN (ps.take j) + p.n := by
  induction ps generalizing j with
  | nil => cases h
  | cons q r ih =>
    cases j with
    | zero => simp at h; subst h; simp [pN]
    | succ j =>
      have h2 := ih j (by simpa using h)
      rw [List.take_succ_cons, List.take_succ_cons, pN, pN, h2]
      omega
theorem pL_take (ps : List Part) (j : Nat) (p : Part) (h : ps[j]? = some p) : pL (ps.take (j + 1)) = pL (ps.take j) ++ p.l := by
  induction ps generalizing j with
  | nil => cases h
  | cons q r ih =>
    cases j with
    | zero => simp at h; subst h; simp [pL]
    | succ j =>
      have h2 := ih j (by simpa using h)
      rw [List.take_succ_cons, List.take_succ_cons, pL, pL, h2, List.append_assoc]
theorem pN_le (ps : List Part) : ∀ j, pN (ps.take j) ≤ pN ps := by
  induction ps with
  | nil => intro j; simp [pN]
  | cons q r ih =>
    intro j
    cases j with
    | zero => simp [pN]
    | succ j =>
      rw [List.take_succ_cons, pN, pN]
      have := ih j
      omega
theorem str_beq (l1 l2 : List (BitVec 8)) : ((strOf l1).toList == (strOf l2).toList) = (l1 == l2) := by rw [strOf_toList, strOf_toList, of_beq]
theorem Equal_any {l1 l2 : List (BitVec 8)} {A B : Option Addr} {n c m d : Nat} {w : World} (h1 : Bs w A n c l1) (h2 : Bs w B m d l2) :
    Calls Tryd.prog 50 #[.slice A n c, .slice B m d] w fun e w' => e = .returned (.bool (l1 == l2)) ∧ w' = w := by
  have k1 := h1.str (Ext.refl w)
  have k2 := h2.str (Ext.refl w)
  rw [← str_beq]
  clear h1 h2
  go_enter Tryd.func50, Tryd.ntmps50
  go_wp2
  go_ret
  exact ⟨rfl, rfl⟩
theorem Bs.drop {w : World} {A : Option Addr} {n c : Nat} {l : List (BitVec 8)} (h : Bs w A n c l) (k : Nat) (hk : k ≤ n) : Bs w (if c = k then A else A.map (·.add k)) (n - k) (c - k) (l.drop k) := by
  have hl := h.len
  have hcap := h.cap
  refine ⟨by rw [List.length_drop, hl], by omega, fun e => ?_, fun hn => ?_⟩
  · have hA : A = none := by
      cases A with
      | none => rfl
      | some a => split at e <;> simp at e
    have := h.s.2.2.1 hA
    omega
  · obtain ⟨g, o, rfl, hc⟩ := h.s.2.2.2 (by omega)
    rw [if_neg (by omega)]
    have hadd : (⟨g, o, none⟩ : Addr).add k = ⟨g, o + k, none⟩ := by unfold Addr.add; split <;> simp_all
    refine ⟨g, o + k, by simp [hadd], fun j hj => ?_⟩
    rw [gb_drop, Nat.add_assoc]
    exact hc (k + j) (by omega)
/-- how many bytes stand ahead of the first 00 -/
def fz : List (BitVec 8) → Nat
  | [] => 0
  | x :: r => if x = 0 then 0 else fz r + 1
theorem fz_le (l : List (BitVec 8)) : fz l ≤ l.length := by
  induction l with
  | nil => exact Nat.le_refl _
  | cons x r ih => unfold fz; split <;> simp; omega
theorem fz_ahead (l : List (BitVec 8)) : ∀ j, j < fz l → gb l j ≠ 0 := by
  induction l with
  | nil => intro j h; exact absurd h (Nat.not_lt_zero _)
  | cons x r ih =>
    intro j h
    unfold fz at h
    split at h
    · omega
    · next hx =>
      cases j with
      | zero => simpa [gb] using hx
      | succ j => have := ih j (by omega); simpa [gb] using this
theorem fz_at (l : List (BitVec 8)) (h : fz l < l.length) : gb l (fz l) = 0 := by
  induction l with
  | nil => cases h
  | cons x r ih =>
    by_cases hx : x = 0
    · rw [show fz (x :: r) = 0 by unfold fz; rw [if_pos hx]]
      simp [gb, hx]
    · have e : fz (x :: r) = fz r + 1 := by rw [fz, if_neg hx]
      rw [e] at h ⊢
      have := ih (by simpa using h)
      simpa [gb] using this
def fzI (l : List (BitVec 8)) : Int := if fz l < l.length then (fz l : Int) else -1
theorem ib_fz (l : List (BitVec 8)) : Lib.indexByte (l.map UInt8.ofBitVec) 0 = fzI l := by
  induction l with
  | nil => rfl
  | cons x r ih =>
    rw [List.map_cons, Lib.indexByte, ih]
    by_cases hx : x = 0
    · subst hx
      rfl
    · have hne : (UInt8.ofBitVec x == 0) = false := by
        refine beq_eq_false_iff_ne.2 fun e => hx ?_
        have := congrArg UInt8.toBitVec e
        exact this
      rw [hne]
      unfold fzI
      rw [fz, if_neg hx]
      simp only [Bool.false_eq_true, if_false, List.length_cons]
      by_cases h : fz r < r.length
      · have e1 : ((fz r : Int) == -1) = false := beq_eq_false_iff_ne.2 (by omega)
        simp only [if_pos h, e1, if_pos (show fz r + 1 < r.length + 1 by omega)]
        simp
      · simp only [if_neg h, if_neg (show ¬ fz r + 1 < r.length + 1 by omega)]
        rfl
end Go.Proofs.YtfipgmjaabggjaaDoor
namespace Go.Proofs.YtfipgmjaabggjaaDoor
open Go Go.RowKit
set_option maxRecDepth 4000

/-- a step of the numbers that groups make, all of 32 bits -/
def stO (s : List Nat × Nat) (x : BitVec 8) : List Nat × Nat := if x.toNat < 128 then (s.1 ++ [(s.2 * 128 + x.toNat % 128) % 4294967296], 0) else (s.1, (s.2 * 128 + x.toNat % 128) % 4294967296)
def stT (b : List (BitVec 8)) (j : Nat) : List Nat × Nat := (b.take j).foldl stO ([], 0)
/-- all numbers of a body -/
def pmO (b : List (BitVec 8)) : List Nat := (stT b b.length).1
theorem stT_succ (b : List (BitVec 8)) (j : Nat) (h : j < b.length) : stT b (j + 1) = stO (stT b j) (gb b j) := by
  unfold stT
  rw [take_gb b j h, List.foldl_append]
  rfl
theorem stO_p7 : ∀ (b : List (BitVec 8)) (acc : List Nat) (n : Nat), (b.foldl stO (acc, n % 4294967296)).1 = acc ++ (p7 n b).map (· % 4294967296)
  | [], acc, n => by simp [p7]
  | x :: r, acc, n => by
    rw [List.foldl_cons]
    unfold stO
    by_cases h : x.toNat < 128
    · rw [if_pos h]
      have := stO_p7 r (acc ++ [(n % 4294967296 * 128 + x.toNat % 128) % 4294967296]) 0
      rw [Nat.zero_mod] at this
      show (r.foldl stO (acc ++ [(n % 4294967296 * 128 + x.toNat % 128) % 4294967296], 0)).1 = _
      rw [this, p7, if_pos h, List.map_cons, List.append_assoc, show (n % 4294967296 * 128 + x.toNat % 128) % 4294967296 = (n * 128 + x.toNat % 128) % 4294967296 by omega]
      rfl
    · rw [if_neg h]
      show (r.foldl stO (acc, (n % 4294967296 * 128 + x.toNat % 128) % 4294967296)).1 = _
      rw [show (n % 4294967296 * 128 + x.toNat % 128) % 4294967296 = (n * 128 + x.toNat % 128) % 4294967296 by omega, stO_p7 r acc (n * 128 + x.toNat % 128), p7, if_neg h]
theorem pmO_back {l : List Nat} (h : OidP l) : oidU (pmO (oidB l)) = l := by
  have e : pmO (oidB l) = oidL l := by
    unfold pmO stT
    rw [List.take_length]
    have := stO_p7 (oidB l) [] 0
    rw [Nat.zero_mod] at this
    rw [this]
    unfold oidB
    rw [p7_all, List.nil_append]
    obtain ⟨a, b, r, rfl, h1, ha, hb, hc, hr⟩ := h
    show ((40 * a + b) :: r).map _ = (40 * a + b) :: r
    rw [List.map_cons, Nat.mod_eq_of_lt (by omega)]
    congr 1
    exact (List.map_congr_left fun x hx => Nat.mod_eq_of_lt (hr x hx)).trans (List.map_id _)
  rw [e, oidU_L h]
theorem oidU_app (l : List Nat) (x : Nat) (h : l ≠ []) : oidU (l ++ [x]) = oidU l ++ [x] := by
  match l, h with
  | z :: r, _ => rfl
theorem oidU_one (z : Nat) : oidU [z] = [(if z / 40 > 2 then 2 else z / 40), z - 40 * (if z / 40 > 2 then 2 else z / 40)] := rfl
theorem oidU_len (l : List Nat) : (oidU l).length ≤ l.length + 1 := by
  match l with
  | [] => exact Nat.zero_le _
  | z :: r => exact Nat.le_refl _
theorem stT_len (b : List (BitVec 8)) (j : Nat) (h : j ≤ b.length) : (stT b j).1.length ≤ j ∧ (stT b j).2 < 4294967296 ∧ Dg 4294967296 (stT b j).1 := by
  induction j with
  | zero => exact ⟨Nat.le_refl _, (by decide : 0 < 4294967296), fun d hd => by cases hd⟩
  | succ j ih =>
    obtain ⟨i1, i2, i3⟩ := ih (by omega)
    rw [stT_succ b j (by omega)]
    unfold stO
    split
    · refine ⟨by rw [List.length_append, List.length_singleton]; omega, (by decide : 0 < 4294967296), fun d hd => ?_⟩
      rcases List.mem_append.1 hd with hd | hd
      · exact i3 d hd
      · rw [List.mem_singleton.1 hd]
        exact Nat.mod_lt _ (by decide)
    · exact ⟨Nat.le_trans i1 (Nat.le_succ _), Nat.mod_lt _ (by decide), i3⟩
theorem oidU_dg {l : List Nat} (h : Dg 4294967296 l) : Dg 4294967296 (oidU l) := by
  match l, h with
  | [], _ => exact fun d hd => by cases hd
  | z :: r, h =>
    intro d hd
    have hz := h z (by simp)
    rcases List.mem_cons.1 hd with rfl | hd
    · split <;> omega
    · rcases List.mem_cons.1 hd with rfl | hd
      · omega
      · exact h d (by simp [hd])
abbrev u32t : TypeId := 70
theorem inU : (Tryd.prog.info? u32t).map (fun i => (i.zero, i.size, i.bytes)) = some (some (.int .u32 0), 1, 4) := by kernel_rfl
theorem lit_u (w : World) (x : Nat) : Rd vL (w.alloc (.cells #[.int .u32 (x : Int)] u32t)) (some ⟨w.heap.size, 0, none⟩) 1 1 [x] := by
  have := Rw.has (T := u32t) (e := vL) (B := 0) (n := 1) (l := [x]) (g := w.heap.size) (w := w.alloc (.cells #[.int .u32 (x : Int)] u32t)) (Has.new w u32t _ _ rfl) rfl (Nat.zero_le _) (by decide)
  exact this.rd
section
variable {w : World} {ops : Array Oper} {rest : List Oper} {o : Oper} {a : Act} {Q : Exit → Act → World → Prop}
theorem wpList_append_u (hgd : o.guard = none) (s x : Operand)
    (ho : o.op = .call { callee := .builtin .append, args := #[s, x], argTypes := #[22, 22] })
    (B : Nat) (v : Value) (n : Nat) (l1 : List Nat) (hs : a.eval s = v) (hown : Rw u32t vL w B v n l1)
    (A : Option Addr) (m c : Nat) (l2 : List Nat) (hx : a.eval x = .slice A m c) (hl : Rd vL w A m c l2)
    (h47 : (n + m) * 4 ≤ 140737488355328) (N : Nat) (hN : n + m = N) (L : List Nat) (hL : l1 ++ l2 = L) (w0 : World) (hx0 : Ext w0 w) (hB : w0.heap.size ≤ B) (hBw : B ≤ w.heap.size)
    (h : ∀ A' c' w', Rw u32t vL w' B (.slice A' N c') N L → Ext w0 w' → Apd w w' v (.slice A' N c') → wpList Tryd.prog ops Q rest (a.put o.dst (.slice A' N c')) w') : wpList Tryd.prog ops Q (o :: rest) a w :=
  wpList_append_rd 22 (.int .u32 0) 4 Tryd.underlying22 inU rfl (by decide) (fun _ => rfl) hgd s x ho B v n l1 hs hown A m c l2 hx hl h47 N hN L hL w0 hx0 hB hBw h
end
/-- the sums of a round -/
structure OStep (s : Nat) (x : BitVec 8) (q c n : Nat) (y : BitVec 8) : Prop where
  sh : IntKind.u32.wrap ((s : Int) * 128) = (q : Int)
  an : bits .andNot .u8 (ub x) 128 = ub y
  cv : IntKind.u32.wrap (ub y) = (c : Int)
  or_ : bits .or .u32 (q : Int) (c : Int) = (n : Int)
  val : n = (s * 128 + x.toNat % 128) % 4294967296
theorem ostep (s : Nat) (x : BitVec 8) : ∃ q c n y, OStep s x q c n y := by
  have hy : (BitVec.ofNat 8 (x.toNat % 128)).toNat = x.toNat % 128 := by rw [BitVec.toNat_ofNat]; omega
  refine ⟨s * 128 % 4294967296, x.toNat % 128, s * 128 % 4294967296 + x.toNat % 128, BitVec.ofNat 8 (x.toNat % 128), ?_, andnot128 x, ?_, ?_, by omega⟩
  · rw [IntKind.wrap_u32]; omega
  · unfold ub; rw [hy, IntKind.wrap_u32]; omega
  · rw [bits_join .u32 32 (by decide) (fun n h0 h1 => by rw [IntKind.wrap_u32]; omega) 7 _ _ (by omega) (by omega) (by omega) (by omega) (by omega) (by omega)]
    omega
set_option maxHeartbeats 4000000 in
theorem numbersOf_any {b : List (BitVec 8)} {A : Option Addr} {n c : Nat} {w : World} (h : Bs w A n c b) (hn : n ≤ 1000) :
    Calls Tryd.prog 49 #[.slice A n c] w fun e w' => ∃ A' c', e = .returned (.slice A' (oidU (pmO b)).length c') ∧ Rw u32t vL w' w.heap.size (.slice A' (oidU (pmO b)).length c') (oidU (pmO b)).length (oidU (pmO b)) ∧ Ext w w' := by
  have hl := h.len
  have HB := Kp.mk h
  have HL := Kp.mk hl
  clear h hl
  go_enter Tryd.func49, Tryd.ntmps49
  go_wp2_with fail
  go_loopw [3, 4, 10] (fun v m i wr => ∃ j N : Nat, ∃ A2 c2, j ≤ n ∧ N = (oidU (stT b j).1).length ∧ i = .int .i64 (j : Int) ∧ m = .int .u32 ((stT b j).2 : Int) ∧ v = .slice A2 N c2 ∧ Rw u32t vL wr w.heap.size (.slice A2 N c2) N (oidU (stT b j).1) ∧ Ext w wr) (fun _ _ i _ => n - (intOf i).toNat)
  case atStart => exact ⟨0, 0, none, 0, Nat.zero_le _, rfl, rfl, rfl, rfl, Rw.nil _ _, Ext.refl _⟩
  case round =>
    obtain ⟨j, N, A2, c2, hj, hN, rfl, rfl, rfl, ho, hx⟩ := hrel
    by_cases hlt : j < n
    · have b4 : (j : Int) < (n : Int) := by omega
      obtain ⟨g, o, rfl, hc⟩ := (HB.out.ext hx).s.2.2.2 (by omega)
      have k1 := hc j hlt
      have hst := stT_succ b j (by rw [HL.out]; exact hlt)
      obtain ⟨i1, i2, i3⟩ := stT_len b j (by rw [HL.out]; exact hj)
      have hUl := oidU_len (stT b j).1
      obtain ⟨q, z, m, y, hS⟩ := ostep (stT b j).2 (gb b j)
      obtain ⟨s1, s2, s3, s4, s5⟩ := hS
      have s6 := and128b (gb b j)
      have hm32 : m < 4294967296 := by rw [s5]; exact Nat.mod_lt _ (by decide)
      clear hc
      unfold stO at hst
      rw [← s5] at hst
      by_cases hx8 : (gb b j).toNat < 128
      · rw [if_pos hx8] at hst
        rw [if_neg (by omega)] at s6
        have HT := Kp.mk hst
        clear hst
        generalize gb b j = x at *
        cases hS1 : (stT b j).1 with
        | nil =>
          rw [hS1] at hN ho
          generalize (stT b j).2 = s at *
          obtain rfl : N = 0 := hN
          obtain ⟨f, hf⟩ : ∃ f, (if m / 40 > 2 then 2 else m / 40) = f := ⟨_, rfl⟩
          have f1 : (m : Int).tdiv 40 = ((m / 40 : Nat) : Int) := by rw [Int.tdiv_eq_ediv_of_nonneg (by omega)]; omega
          have f2 : IntKind.u32.wrap ((m / 40 : Nat) : Int) = ((m / 40 : Nat) : Int) := by rw [IntKind.wrap_u32]; omega
          have f3 : min ((m / 40 : Nat) : Int) 2 = (f : Int) := by rw [← hf]; split <;> omega
          have f4 : IntKind.u32.wrap (40 * (f : Int)) = ((40 * f : Nat) : Int) := by rw [IntKind.wrap_u32, ← hf]; split <;> omega
          have f5 : IntKind.u32.wrap ((m : Int) - ((40 * f : Nat) : Int)) = ((m - 40 * f : Nat) : Int) := by
            have : 40 * f ≤ m := by rw [← hf]; split <;> omega
            rw [IntKind.wrap_u32]; omega
          have H3 := Kp.mk (show oidU [m] = [f, m - 40 * f] by rw [oidU_one, hf])
          have HS1 := Kp.mk hS1
          clear hf hS1
          generalize m / 40 = m40 at *
          generalize hd : m - 40 * f = d at *
          generalize 40 * f = f40 at *
          have H1 := Kp.mk (show Rw u32t vL wr w.heap.size (.slice A2 0 c2) 0 [] from ho)
          have H2 := Kp.mk hx
          clear ho hx hd s5 hx8 i1 i2 i3 hUl
          go_wp2_with (first | (at_builtin; refine wpList_append_u rfl (.tmp 29) (.tmp 31) rfl w.heap.size _ 0 [] rfl (H1.out.ext (by (repeat (first | assumption | exact Ext.refl _ | apply Ext.drew | apply Ext.drewN | apply Ext.alloc | refine Ext.trans ?_ (by assumption))); first | done | fail)) _ 1 1 [f] rfl (lit_u wr f) (by omega) 1 rfl [f] rfl w (H2.out.trans (by (repeat (first | assumption | exact Ext.refl _ | apply Ext.drew | apply Ext.drewN | apply Ext.alloc | refine Ext.trans ?_ (by assumption))); first | done | fail)) (Nat.le_refl _) (H2.out.trans (by (repeat (first | assumption | exact Ext.refl _ | apply Ext.drew | apply Ext.drewN | apply Ext.alloc | refine Ext.trans ?_ (by assumption))); first | done | fail)).size ?_; intro A4 c4 w4 ho4 hx4 hap4) | (at_builtin; refine wpList_append_u rfl (.tmp 37) (.tmp 39) rfl w.heap.size _ 1 [f] rfl (ho4.ext (by (repeat (first | assumption | exact Ext.refl _ | apply Ext.drew | apply Ext.drewN | apply Ext.alloc | refine Ext.trans ?_ (by assumption))); first | done | fail)) _ 1 1 [d] rfl (lit_u w4 d) (by omega) 2 rfl [f, d] rfl w (hx4.trans (by (repeat (first | assumption | exact Ext.refl _ | apply Ext.drew | apply Ext.drewN | apply Ext.alloc | refine Ext.trans ?_ (by assumption))); first | done | fail)) (Nat.le_refl _) (hx4.trans (by (repeat (first | assumption | exact Ext.refl _ | apply Ext.drew | apply Ext.drewN | apply Ext.alloc | refine Ext.trans ?_ (by assumption))); first | done | fail)).size ?_; intro A5 c5 w5 ho5 hx5 hap5) | fail)
          go_roundw
          case rel =>
            have e : stT b (j + 1) = ([m], 0) := by rw [HT.out, HS1.out]; rfl
            refine ⟨j + 1, 2, A5, c5, hlt, by rw [e]; rfl, by go_num, by rw [e]; rfl, rfl, ?_, hx5⟩
            rw [e]
            show Rw u32t vL w5 w.heap.size (.slice A5 2 c5) 2 (oidU [m])
            rw [H3.out]
            exact ho5
          case measure => simp [intOf]; omega
        | cons a r =>
          have hne : (stT b j).1 ≠ [] := by rw [hS1]; exact fun h => by cases h
          have hU := oidU_app (stT b j).1 m hne
          have hN0 : N ≠ 0 := by rw [hN, hS1]; exact fun h => by cases h
          have d1 : ((N : Int) == 0) = false := beq_eq_false_iff_ne.2 (by omega)
          have d2 : ¬ N = 0 := hN0
          have hNm : N ≤ 1002 := by omega
          generalize (stT b j).2 = s at *
          generalize hT1 : (stT b j).1 = T at *
          have H1 := Kp.mk ho
          have H2 := Kp.mk hx
          have H3 := Kp.mk hU
          have H4 := Kp.mk hN
          clear ho hx hU hN s5 hx8 hS1 i1 i2 i3 hUl hne hN0 hT1
          go_wp2_with (first | (at_builtin; refine wpList_append_u rfl (.tmp 37) (.tmp 39) rfl w.heap.size _ N (oidU T) rfl (H1.out.ext (by (repeat (first | assumption | exact Ext.refl _ | apply Ext.drew | apply Ext.drewN | apply Ext.alloc | refine Ext.trans ?_ (by assumption))); first | done | fail)) _ 1 1 [m] rfl (lit_u wr m) (by omega) (N + 1) rfl (oidU T ++ [m]) rfl w (H2.out.trans (by (repeat (first | assumption | exact Ext.refl _ | apply Ext.drew | apply Ext.drewN | apply Ext.alloc | refine Ext.trans ?_ (by assumption))); first | done | fail)) (Nat.le_refl _) (H2.out.trans (by (repeat (first | assumption | exact Ext.refl _ | apply Ext.drew | apply Ext.drewN | apply Ext.alloc | refine Ext.trans ?_ (by assumption))); first | done | fail)).size ?_; intro A5 c5 w5 ho5 hx5 hap5) | fail)
          go_roundw
          case rel =>
            rw [← H3.out] at ho5
            refine ⟨j + 1, N + 1, A5, c5, hlt, ?_, by go_num, by rw [HT.out]; rfl, by first | rfl | (congr 1; omega), by rw [HT.out]; exact ho5, hx5⟩
            rw [HT.out]
            show N + 1 = (oidU (T ++ [m])).length
            rw [H3.out, List.length_append, ← H4.out]
            rfl
          case measure => simp [intOf]; omega
      · rw [if_neg hx8] at hst
        rw [if_pos (by omega)] at s6
        have HT := Kp.mk hst
        clear hst
        generalize gb b j = x at *
        generalize (stT b j).2 = s at *
        generalize (stT b j).1 = T at *
        have H1 := Kp.mk ho
        have H2 := Kp.mk hx
        have H4 := Kp.mk hN
        clear ho hx hN s5 hx8 i1 i2 i3 hUl
        go_wp2_with fail
        go_roundw
        case rel =>
          exact ⟨j + 1, N, A2, c2, hlt, by rw [HT.out]; exact H4.out, by go_num, by rw [HT.out], rfl, by rw [HT.out]; exact H1.out, H2.out.trans (by (repeat (first | assumption | exact Ext.refl _ | apply Ext.drew | apply Ext.drewN | apply Ext.alloc | refine Ext.trans ?_ (by assumption))); first | done | fail)⟩
        case measure => simp [intOf]; omega
    · obtain rfl : j = n := by omega
      have b4 : ¬ (j : Int) < (j : Int) := by omega
      have e : (stT b j).1 = pmO b := by unfold pmO; rw [HL.out]
      rw [e] at hN ho
      subst hN
      have H1 := Kp.mk ho
      have H2 := Kp.mk hx
      clear ho hx e
      go_wp2_with fail
      go_ret
      exact ⟨_, _, rfl, H1.out, H2.out.trans (by (repeat (first | assumption | exact Ext.refl _ | apply Ext.drew | apply Ext.drewN | apply Ext.alloc | refine Ext.trans ?_ (by assumption))); first | done | fail)⟩
set_option maxHeartbeats 4000000 in
theorem ReadOid_any {b : List (BitVec 8)} {A : Option Addr} {n c : Nat} {w : World} (h : Bs w A n c b) :
    Calls Tryd.prog 23 #[.slice A n c] w fun e w' =>
      (¬ (OidP (oidU (pmO b)) ∧ oidB (oidU (pmO b)) = b) ∧ e = .returned (.tuple #[.slice none 0 0, err 2]) ∧ Ext w w') ∨
      (OidP (oidU (pmO b)) ∧ oidB (oidU (pmO b)) = b ∧ ∃ A' c', e = .returned (.tuple #[.slice A' (oidU (pmO b)).length c', .nilIface]) ∧ Rw u32t vL w' w.heap.size (.slice A' (oidU (pmO b)).length c') (oidU (pmO b)).length (oidU (pmO b)) ∧ Ext w w') := by
  have hl := h.len
  have hDg : Dg 4294967296 (oidU (pmO b)) := oidU_dg (stT_len b b.length (Nat.le_refl _)).2.2
  by_cases h75 : 75 < n
  · have hno : ¬ (OidP (oidU (pmO b)) ∧ oidB (oidU (pmO b)) = b) := fun ⟨h1, h2⟩ => by
      have := oidB_len h1
      rw [h2] at this
      omega
    refine Calls.mono (R := fun e w' => e = .returned (.tuple #[.slice none 0 0, err 2]) ∧ Ext w w') ?_ fun _ _ h => .inl ⟨hno, h⟩
    have b1 : decide ((75 : Int) < (n : Int)) = true := decide_eq_true (by omega)
    clear hDg hno h hl h75
    go_enter Tryd.func23, Tryd.ntmps23
    go_wp2_with fail
    go_ret2
    exact ⟨rfl, (by (repeat (first | assumption | exact Ext.refl _ | apply Ext.drew | apply Ext.drewN | apply Ext.alloc | refine Ext.trans ?_ (by assumption))); first | done | fail)⟩
  · have b1 : decide ((75 : Int) < (n : Int)) = false := decide_eq_false (by omega)
    have hC := numbersOf_any h (by omega)
    obtain ⟨Q, hQ⟩ : ∃ Q, Q = oidU (pmO b) := ⟨_, rfl⟩
    rw [← hQ] at hDg hC ⊢
    obtain ⟨N, hN⟩ : ∃ N, N = Q.length := ⟨_, rfl⟩
    rw [← hN] at hC ⊢
    have HB := Kp.mk h
    have HD := Kp.mk hDg
    clear h hQ hDg hl
    by_cases hP : OidP Q
    · by_cases hE : oidB Q = b
      · refine Calls.mono (R := fun e w' => ∃ A' c', e = .returned (.tuple #[.slice A' N c', .nilIface]) ∧ Rw u32t vL w' w.heap.size (.slice A' N c') N Q ∧ Ext w w') ?_ fun _ _ h => .inr ⟨hP, hE, h⟩
        have HE := Kp.mk hE
        have HP := Kp.mk hP
        have HN := Kp.mk hN
        clear hE hP hN
        go_enter Tryd.func23, Tryd.ntmps23
        go_wp2_with fail
        refine hC.mono ?_
        rintro e w1 ⟨A1, c1, rfl, ho1, hx1⟩
        go_wp2_with fail
        refine (Oid_any ho1.rd HD.out).mono ?_
        rintro e w2 (⟨hno, rfl, hx2⟩ | ⟨_, A2, c2, rfl, hs2, ho2, hx2⟩)
        · exact absurd HP.out hno
        have hEq := Equal_any hs2 ((HB.out.ext hx1).ext hx2)
        have e1 : (oidB Q == b) = true := by rw [HE.out, beq_self_eq_true]
        rw [e1] at hEq
        clear hs2 ho2 e1
        generalize (oidB Q).length = M at *
        have H1 := Kp.mk (ho1.ext hx2)
        have H2 := Kp.mk (hx1.trans hx2)
        clear ho1 hx1 hx2 hC
        go_wp2_with (go_at_call 50; refine (hEq).mono ?_; rintro e w3 ⟨rfl, hw⟩; obtain rfl : w2 = w3 := hw.symm)
        go_ret2
        exact ⟨_, _, rfl, H1.out, H2.out⟩
      · refine Calls.mono (R := fun e w' => e = .returned (.tuple #[.slice none 0 0, err 2]) ∧ Ext w w') ?_ fun _ _ h => .inl ⟨fun h => hE h.2, h⟩
        have HE := Kp.mk hE
        have HP := Kp.mk hP
        clear hE hP hN
        go_enter Tryd.func23, Tryd.ntmps23
        go_wp2_with fail
        refine hC.mono ?_
        rintro e w1 ⟨A1, c1, rfl, ho1, hx1⟩
        go_wp2_with fail
        refine (Oid_any ho1.rd HD.out).mono ?_
        rintro e w2 (⟨hno, rfl, hx2⟩ | ⟨_, A2, c2, rfl, hs2, ho2, hx2⟩)
        · exact absurd HP.out hno
        have hEq := Equal_any hs2 ((HB.out.ext hx1).ext hx2)
        rw [beq_eq_false_iff_ne.2 HE.out] at hEq
        clear hs2 ho2
        generalize (oidB Q).length = M at *
        have H2 := Kp.mk (hx1.trans hx2)
        clear ho1 hx1 hx2 hC
        go_wp2_with (go_at_call 50; refine (hEq).mono ?_; rintro e w3 ⟨rfl, hw⟩; obtain rfl : w2 = w3 := hw.symm)
        go_ret2
        exact ⟨rfl, H2.out⟩
    · refine Calls.mono (R := fun e w' => e = .returned (.tuple #[.slice none 0 0, err 2]) ∧ Ext w w') ?_ fun _ _ h => .inl ⟨fun h => hP h.1, h⟩
      have HP := Kp.mk hP
      clear hP hN
      go_enter Tryd.func23, Tryd.ntmps23
      go_wp2_with fail
      refine hC.mono ?_
      rintro e w1 ⟨A1, c1, rfl, ho1, hx1⟩
      go_wp2_with fail
      refine (Oid_any ho1.rd HD.out).mono ?_
      rintro e w2 (⟨_, rfl, hx2⟩ | ⟨hyes, A2, c2, rfl, hs2, ho2, hx2⟩)
      · have H2 := Kp.mk (hx1.trans hx2)
        clear ho1 hx1 hx2 hC
        go_wp2_with fail
        go_ret2
        exact ⟨rfl, H2.out⟩
      · exact absurd hyes HP.out
end Go.Proofs.YtfipgmjaabggjaaDoor
namespace Go.Proofs.YtfipgmjaabggjaaDoor
open Go Go.RowKit
set_option maxRecDepth 4000

theorem lit_us (w : World) (l : List Nat) (cs : Array Value) (hcs : cs = (l.map vL).toArray) (n : Nat) (hn : l.length = n) (hm : n ≤ maxLen) : Rd vL (w.alloc (.cells cs u32t)) (some ⟨w.heap.size, 0, none⟩) n n l := by
  subst hcs
  exact (Rw.has (T := u32t) (e := vL) (B := 0) (Has.new w u32t _ _ rfl) hn (Nat.zero_le _) hm).rd
theorem up_oid : oidB [1, 2, 840, 113549] = [42, 134, 72, 134, 247, 13] := by
  have h0 : g7hi 0 = [] := g7hi_zero
  have h6 : g7hi 6 = [134] := by rw [g7hi_pos 6 (by decide)]; rw [show 6 / 128 = 0 from rfl, h0]; rfl
  have h887 : g7hi 887 = [134, 247] := by rw [g7hi_pos 887 (by decide)]; rw [show 887 / 128 = 6 from rfl, h6]; rfl
  show g7 42 ++ (g7 840 ++ (g7 113549 ++ [])) = _
  unfold g7
  rw [show 42 / 128 = 0 from rfl, show 840 / 128 = 6 from rfl, show 113549 / 128 = 887 from rfl, h0, h6, h887]
  rfl
theorem up_oidP : OidP [1, 2, 840, 113549] := ⟨1, 2, [840, 113549], rfl, by decide, by decide, by decide, by decide, by decide⟩
theorem up_dg : Dg 4294967296 [1, 2, 840, 113549] := by unfold Dg; decide
def upT : Tmt := ⟨2049, 12, 31, 23, 59, 59⟩
def upU : Tmt := ⟨1, 1, 1, 0, 0, 1⟩
theorem upT_may : MayT upT := ⟨by decide, by decide, by decide, by decide, by decide, by decide, by decide, by decide, by decide⟩
theorem upU_may : MayT upU := ⟨by decide, by decide, by decide, by decide, by decide, by decide, by decide, by decide, by decide⟩
theorem upT_B : tmB upT = [52, 57, 49, 50, 51, 49, 50, 51, 53, 57, 53, 57, 90] := by decide
theorem upT_M : tmM upT = 23 := by decide
theorem upU_C : cntT upU = 1 := by decide
theorem up_int {l : List (BitVec 8)} (h1 : tcB l = true) (h2 : tcV l = -129) : l = [255, 127] := tcV_inj h1 (by decide) (h2.trans (by decide))
set_option maxHeartbeats 4000000 in
theorem up8 (w : World) : Calls Tryd.prog 7 #[] w fun e w' => e = .returned (.bool true) ∧ Ext w w' := by
  have ee := code_eq 2 2
  go_enter Tryd.func7, Tryd.ntmps7
  go_wp2_with fail
  refine (ReadInt_any (b := [0, 127]) (w := w.alloc (.cells #[.int .u8 0, .int .u8 127] 5)) ((Blk.new w 5 (bv [0, 127])).bs 0 2 2 (by decide) (by decide)) 0 (err 2) (.inl ⟨by decide, rfl, rfl⟩)).mono ?_
  rintro e w1 ⟨rfl, x1⟩
  have X1 := Kp.mk (Ext.trans ((by (repeat (first | assumption | exact Ext.refl _ | apply Ext.drew | apply Ext.drewN | apply Ext.alloc | refine Ext.trans ?_ (by assumption))); first | done | fail) : Ext w (w.alloc (.cells #[.int .u8 0, .int .u8 127] 5))) x1)
  clear x1
  go_wp2_with fail
  refine (Oid_any (l := [1, 2, 840, 113549]) (w := w1.alloc (.cells #[.int .u32 1, .int .u32 2, .int .u32 840, .int .u32 113549] u32t)) (lit_us w1 [1, 2, 840, 113549] #[.int .u32 1, .int .u32 2, .int .u32 840, .int .u32 113549] rfl 4 rfl (by decide)) up_dg).mono ?_
  rintro e w2 (⟨hno, _, _⟩ | ⟨_, A2, c2, rfl, hs2, ho2, x2⟩)
  · exact absurd up_oidP hno
  rw [up_oid] at hs2
  rw [up_oid]
  have X2 := Kp.mk (X1.out.trans (Ext.trans ((by (repeat (first | assumption | exact Ext.refl _ | apply Ext.drew | apply Ext.drewN | apply Ext.alloc | refine Ext.trans ?_ (by assumption))); first | done | fail) : Ext w1 (w1.alloc (.cells #[.int .u32 1, .int .u32 2, .int .u32 840, .int .u32 113549] u32t))) x2))
  have H2 := Kp.mk (show Bs w2 A2 6 c2 [42, 134, 72, 134, 247, 13] from hs2)
  clear hs2 ho2 x2
  go_wp2_with fail
  refine (Time_ok upT upT_may w2).mono ?_
  rintro e w3 ⟨A3, c3, rfl, ho3, x3⟩
  rw [upT_B] at ho3
  rw [upT_B, upT_M]
  have X3 := Kp.mk (X2.out.trans x3)
  have H3 := Kp.mk (show Bs w3 A3 13 c3 [52, 57, 49, 50, 51, 49, 50, 51, 53, 57, 53, 57, 90] from ho3.bs)
  have H2' := Kp.mk (H2.out.ext x3)
  clear ho3 x3
  go_wp2_with fail
  refine (Count_ok upU upU_may w3).mono ?_
  rintro e w4 ⟨rfl, x4⟩
  rw [upU_C]
  have X4 := Kp.mk (X3.out.trans x4)
  have H3' := Kp.mk (H3.out.ext x4)
  have H2' := Kp.mk (H2'.out.ext x4)
  clear x4
  go_wp2_with fail
  obtain ⟨k, l, hl, hk1, hk8, hb, hv, hC⟩ := Int_any (-129) w4 (by decide) (by decide)
  obtain rfl := up_int hb hv
  obtain rfl : k = 2 := hl.symm
  refine hC.mono ?_
  rintro e w5 ⟨A5, c5, rfl, hs5, ho5, x5⟩
  have S5 := fun (w' : World) (hx : Ext w5 w') => hs5.str hx
  have S3 := fun (w' : World) (hx : Ext w5 w') => (H3'.out.ext x5).str hx
  have S2 := fun (w' : World) (hx : Ext w5 w') => (H2'.out.ext x5).str hx
  rw [show strOf [255, 127] = ⟨#[255, 127]⟩ from rfl] at S5
  rw [show strOf [52, 57, 49, 50, 51, 49, 50, 51, 53, 57, 53, 57, 90] = ⟨#[52, 57, 49, 50, 51, 49, 50, 51, 53, 57, 53, 57, 90]⟩ from rfl] at S3
  rw [show strOf [42, 134, 72, 134, 247, 13] = ⟨#[42, 134, 72, 134, 247, 13]⟩ from rfl] at S2
  have X5 := Kp.mk (X4.out.trans x5)
  have s5 := S5 w5 (Ext.refl _)
  have s3 := S3 w5 (Ext.refl _)
  have s2 := S2 w5 (Ext.refl _)
  clear hs5 ho5 x5 S5 S3 S2 hb hv hC
  go_wp2_with fail
  go_ret
  exact ⟨rfl, X5.out⟩
end Go.Proofs.YtfipgmjaabggjaaDoor
