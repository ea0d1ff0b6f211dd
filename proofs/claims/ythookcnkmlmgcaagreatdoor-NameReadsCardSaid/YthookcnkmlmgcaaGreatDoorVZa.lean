/-
  unicode/utf8.word of bytes: the number that the first eight spell.
-/
import Derived.Test.YthookcnkmlmgcaaGreatDoorM7
import Derived.Shelf.Unicode.WordAny
import Derived.Lib.ValidAsc
namespace Go.Proofs.YthookcnkmlmgcaaGreatDoor
open Go Go.RowKit Go.Lib
set_option maxRecDepth 4000

/-- the bytes as the library has them -/
abbrev oct (l : List (BitVec 8)) : List UInt8 := l.map UInt8.ofBitVec
theorem oct_len (l : List (BitVec 8)) : (oct l).length = l.length := by simp
theorem oct_drop (l : List (BitVec 8)) (k : Nat) : oct (l.drop k) = (oct l).drop k := by simp [List.map_drop]
theorem oct_getD (l : List (BitVec 8)) (i : Nat) : ((oct l).getD i 0).toNat = (gb l i).toNat := by
  unfold gb
  rw [List.getD_eq_getElem?_getD, List.getD_eq_getElem?_getD, List.getElem?_map]
  cases l[i]? <;> rfl
/-- the number that the first eight spell, the lowest first -/
def w8 (l : List (BitVec 8)) : Nat := leNat ((oct l).take 8)
theorem w8_eq (l : List (BitVec 8)) (h : 8 ≤ l.length) : w8 l = (gb l 0).toNat + (gb l 1).toNat * 256 + (gb l 2).toNat * 65536 + (gb l 3).toNat * 16777216 + (gb l 4).toNat * 4294967296 + (gb l 5).toNat * 1099511627776 + (gb l 6).toNat * 281474976710656 + (gb l 7).toNat * 72057594037927936 := by
  match l, h with
  | a0 :: a1 :: a2 :: a3 :: a4 :: a5 :: a6 :: a7 :: r, _ =>
    simp only [w8, oct, List.map_cons, List.take_succ_cons, List.take_zero, leNat, gb, List.getD_cons_zero, List.getD_cons_succ, UInt8.toNat_ofBitVec]
    omega
theorem w8_lt (l : List (BitVec 8)) (h : 8 ≤ l.length) : w8 l < 18446744073709551616 := by
  rw [w8_eq l h]
  have h0 := (gb l 0).isLt
  have h1 := (gb l 1).isLt
  have h2 := (gb l 2).isLt
  have h3 := (gb l 3).isLt
  have h4 := (gb l 4).isLt
  have h5 := (gb l 5).isLt
  have h6 := (gb l 6).isLt
  have h7 := (gb l 7).isLt
  omega
/-- the first k bytes are below 128 -/
def LoA (l : List (BitVec 8)) (k : Nat) : Prop := ∀ b ∈ (oct l).take k, b.toNat < 128
theorem w8_lo (l : List (BitVec 8)) (h : 8 ≤ l.length) : (w8 l &&& 9259542123273814144 = 0) ↔ LoA l 8 := by
  have h8 : ((oct l).take 8).length = 8 := by rw [List.length_take, oct_len]; omega
  have := leNat_mask ((oct l).take 8)
  rw [h8, maskN8] at this
  exact this
theorem lo_add (l : List (BitVec 8)) (a b : Nat) (ha : LoA l a) (hb : LoA (l.drop a) b) : LoA l (a + b) := by
  unfold LoA at *
  rw [oct_drop] at hb
  rw [List.take_add]
  intro x hx
  rcases List.mem_append.1 hx with h | h
  · exact ha x h
  · exact hb x h
theorem valid_lo (l : List (BitVec 8)) (k : Nat) (h : LoA l k) : validD (oct (l.drop k)) = validD (oct l) := by
  rw [oct_drop]
  exact (validD_ascii k _ h).symm
theorem lo_one (l : List (BitVec 8)) (h0 : 0 < l.length) (h : (gb l 0).toNat < 128) : LoA l 1 := by
  match l, h0 with
  | a :: r, _ =>
    intro b hb
    simp [oct] at hb
    subst hb
    simpa [gb] using h
set_option maxHeartbeats 8000000 in
set_option maxRecDepth 100000 in
theorem word8_any {l : List (BitVec 8)} {A : Option Addr} {n c : Nat} {w : World} (h : Bs w A n c l) (hn : 8 ≤ n) : Calls Tryz.prog 106 #[.slice A n c] w fun e w' => e = .returned (.int .u64 (w8 l : Nat)) ∧ ∃ q, w' = w.drewN q := by
  have hw8 := w8_eq l (by rw [h.len]; exact hn)
  obtain ⟨g, o, rfl, hc⟩ := h.s.2.2.2 (by omega)
  have c0 := hc 0 (by omega)
  have h0 := (gb l 0).isLt
  have q0 : (0 : Int) < (n : Int) := by omega
  have c1 := hc 1 (by omega)
  have h1 := (gb l 1).isLt
  have q1 : (1 : Int) < (n : Int) := by omega
  have c2 := hc 2 (by omega)
  have h2 := (gb l 2).isLt
  have q2 : (2 : Int) < (n : Int) := by omega
  have c3 := hc 3 (by omega)
  have h3 := (gb l 3).isLt
  have q3 : (3 : Int) < (n : Int) := by omega
  have c4 := hc 4 (by omega)
  have h4 := (gb l 4).isLt
  have q4 : (4 : Int) < (n : Int) := by omega
  have c5 := hc 5 (by omega)
  have h5 := (gb l 5).isLt
  have q5 : (5 : Int) < (n : Int) := by omega
  have c6 := hc 6 (by omega)
  have h6 := (gb l 6).isLt
  have q6 : (6 : Int) < (n : Int) := by omega
  have c7 := hc 7 (by omega)
  have h7 := (gb l 7).isLt
  have q7 : (7 : Int) < (n : Int) := by omega
  rw [Nat.add_zero] at c0
  have hv : ((w8 l : Nat) : Int) = ((gb l 0).toNat : Int) + ((gb l 1).toNat : Int) * 256 + ((gb l 2).toNat : Int) * 65536 + ((gb l 3).toNat : Int) * 16777216 + ((gb l 4).toNat : Int) * 4294967296 + ((gb l 5).toNat : Int) * 1099511627776 + ((gb l 6).toNat : Int) * 281474976710656 + ((gb l 7).toNat : Int) * 72057594037927936 := by
    omega
  clear hw8 hc h
  unfold ub at c0 c1 c2 c3 c4 c5 c6 c7
  generalize (gb l 0).toNat = x0 at *
  generalize (gb l 1).toNat = x1 at *
  generalize (gb l 2).toNat = x2 at *
  generalize (gb l 3).toNat = x3 at *
  generalize (gb l 4).toNat = x4 at *
  generalize (gb l 5).toNat = x5 at *
  generalize (gb l 6).toNat = x6 at *
  generalize (gb l 7).toNat = x7 at *
  generalize w8 l = R at *
  have HV := Kp.mk hv
  clear hv
  go_enter Tryz.func106, Tryz.ntmps106
  go_wp2_with fail
  go_quiet (fail)
  go_wp2_with fail
  go_ret
  refine ⟨congrArg (fun z => Ending.returned (.int .u64 z)) (?_ : _ = (R : Int)), _, rfl⟩
  simp (maxSteps := 1000000) (disch := omega) only [u64_or8, u64_or16, u64_or24, u64_or32, u64_or40, u64_or48, u64_or56]
  rw [HV.out]
end Go.Proofs.YthookcnkmlmgcaaGreatDoor
