/-
  Rows of ints: appended to; the reference's Of.
-/
import Derived.Test.YtpmoaccaknfodaaDoorNa
namespace Go.Proofs.YtpmoaccaknfodaaDoor
open Go Go.RowKit

abbrev it : TypeId := 3
theorem inI : (Tryd.prog.info? it).map (fun i => (i.zero, i.size, i.bytes)) = some (some (.int .i64 0), 1, 8) := by kernel_rfl
theorem lit_rd (w : World) (l : List Nat) (cs : Array Value) (h : cs = (l.map vI).toArray) (n : Nat) (hn : l.length = n) (hm : n ≤ maxLen) : Rd vI (w.alloc (.cells cs it)) (some ⟨w.heap.size, 0, none⟩) n n l := by
  subst h
  exact (Rw.has (B := 0) (Has.new w it _ _ rfl) hn (Nat.zero_le _) hm).rd
theorem lit2 (w : World) (x y : Nat) (a b : Int) (ha : a = (x : Int)) (hb : b = (y : Int)) : Rd vI (w.alloc (.cells #[.int .i64 a, .int .i64 b] it)) (some ⟨w.heap.size, 0, none⟩) 2 2 [x, y] := lit_rd w [x, y] _ (by subst ha hb; rfl) 2 rfl (by decide)
theorem lit1 (w : World) (x : Nat) (a : Int) (ha : a = (x : Int)) : Rd vI (w.alloc (.cells #[.int .i64 a] it)) (some ⟨w.heap.size, 0, none⟩) 1 1 [x] := lit_rd w [x] _ (by subst ha; rfl) 1 rfl (by decide)
abbrev Rn (w : World) (B : Nat) (v : Value) (n : Nat) (l : List Nat) : Prop := Rw it vI w B v n l
theorem wp_append_I {w : World} {o : Oper} {a : Act} {K : Act → World → Prop} {Q : Exit → Act → World → Prop} (s x : Operand)
    (ho : o.op = .call { callee := .builtin .append, args := #[s, x], argTypes := #[nm, nm] })
    (B : Nat) (v : Value) (n : Nat) (l1 : List Nat) (hs : a.eval s = v) (hown : Rn w B v n l1)
    (A : Option Addr) (m c : Nat) (l2 : List Nat) (hx : a.eval x = .slice A m c) (hl : Rd vI w A m c l2)
    (h47 : (n + m) * 8 ≤ 140737488355328) (N : Nat) (hN : n + m = N) (L : List Nat) (hL : l1 ++ l2 = L) (w0 : World) (hx0 : Ext w0 w) (hB : w0.heap.size ≤ B) (hBw : B ≤ w.heap.size)
    (h : ∀ A' c' w', Rn w' B (.slice A' N c') N L → Ext w0 w' → Apd w w' v (.slice A' N c') → K (a.put o.dst (.slice A' N c')) w') : o.wp Tryd.prog a w K Q :=
  wp_append_rd nm (.int .i64 0) 8 Tryd.underlying31 inI rfl (by decide) (fun _ => rfl) s x ho B v n l1 hs hown A m c l2 hx hl h47 N hN L hL w0 hx0 hB hBw h
theorem wpList_append_I {w : World} {ops : Array Oper} {rest : List Oper} {o : Oper} {a : Act} {Q : Exit → Act → World → Prop} (hgd : o.guard = none) (s x : Operand)
    (ho : o.op = .call { callee := .builtin .append, args := #[s, x], argTypes := #[nm, nm] })
    (B : Nat) (v : Value) (n : Nat) (l1 : List Nat) (hs : a.eval s = v) (hown : Rn w B v n l1)
    (A : Option Addr) (m c : Nat) (l2 : List Nat) (hx : a.eval x = .slice A m c) (hl : Rd vI w A m c l2)
    (h47 : (n + m) * 8 ≤ 140737488355328) (N : Nat) (hN : n + m = N) (L : List Nat) (hL : l1 ++ l2 = L) (w0 : World) (hx0 : Ext w0 w) (hB : w0.heap.size ≤ B) (hBw : B ≤ w.heap.size)
    (h : ∀ A' c' w', Rn w' B (.slice A' N c') N L → Ext w0 w' → Apd w w' v (.slice A' N c') → wpList Tryd.prog ops Q rest (a.put o.dst (.slice A' N c')) w') : wpList Tryd.prog ops Q (o :: rest) a w :=
  wpList_append_rd nm (.int .i64 0) 8 Tryd.underlying31 inI rfl (by decide) (fun _ => rfl) hgd s x ho B v n l1 hs hown A m c l2 hx hl h47 N hN L hL w0 hx0 hB hBw h
theorem sp_snoc (B : Nat) (l : List Nat) (x : Nat) : sp B (l ++ [x]) = sp B l ++ [x % B, x / B] := by
  induction l with
  | nil => rfl
  | cons y l ih => rw [List.cons_append, sp, sp, ih]; rfl
theorem sp_len (B : Nat) (l : List Nat) : (sp B l).length = 2 * l.length := by
  induction l with
  | nil => rfl
  | cons y l ih => rw [sp]; simp only [List.length_cons, ih]; omega
theorem sp_take (B : Nat) (l : List Nat) (i : Nat) (h : i < l.length) : sp B (l.take (i + 1)) = sp B (l.take i) ++ [dg l i % B, dg l i / B] := by rw [take_succ_dg l i h, sp_snoc]
/-- what a call leaves that makes a number: its digits -/
def FreshN (w : World) (v : Nat) (e : Ending) (w' : World) : Prop :=
  ∃ A n c, e = .returned (.slice A n c) ∧ Rd vI w' A n c (dgs 65536 v) ∧ Rn w' w.heap.size (.slice A n c) n (dgs 65536 v) ∧ Ext w w'
theorem trim_own {l : List Nat} {A : Option Addr} {n c : Nat} {B : Nat} {w : World} (h : Rn w B (.slice A n c) n l) (hd : Dg 65536 l) (hn : n ≤ 4611686018427387904) :
    Calls Tryd.prog 16 #[.slice A n c] w fun e w' => ∃ m, e = .returned (.slice A m c) ∧ Rn w B (.slice A m c) m (dgs 65536 (vl 65536 l)) ∧ w' = w := by
  refine (trim_any h.rd hd hn).mono ?_
  rintro e w' ⟨m, hm, rfl, hr, hw⟩
  refine ⟨m, rfl, ?_, hw⟩
  rw [← hr]
  exact h.take hm
theorem FreshN.of_trim {w w1 : World} {l : List Nat} {A : Option Addr} {n c v : Nat} (h : Rn w1 w.heap.size (.slice A n c) n l) (hd : Dg 65536 l) (hn : n ≤ 4611686018427387904) (hv : vl 65536 l = v) (hx : Ext w w1) :
    Calls Tryd.prog 16 #[.slice A n c] w1 (FreshN w v) := by
  refine (trim_own h hd hn).mono ?_
  rintro e w' ⟨m, rfl, hr, rfl⟩
  rw [hv] at hr
  exact ⟨A, m, c, rfl, hr.rd, hr, hx⟩
theorem w_lo (x : Nat) : IntKind.i64.wrap ((x : Int).tmod 65536) = ((x % 65536 : Nat) : Int) := by
  rw [Int.tmod_eq_emod_of_nonneg (by omega), IntKind.wrap_i64]; omega
theorem w_hi (x : Nat) (h : x < 4294967296) : IntKind.i64.wrap (IntKind.u32.wrap ((x : Int) / 65536)) = ((x / 65536 : Nat) : Int) := by
  rw [IntKind.wrap_u32, IntKind.wrap_i64]; omega
end Go.Proofs.YtpmoaccaknfodaaDoor
