/-
  A writer and a reader beside one another; the laws' head up.
-/
import Derived.Test.YtadndhenfoppiaaVHj
import Derived.Test.YtadndhenfoppiaaVHm
import Derived.Test.YtadndhenfoppiaaVHv
namespace Go.Proofs.Ytadndhenfoppiaa
open Go Go.RowKit
set_option maxRecDepth 4000

/-- a writer and a reader, apart, behind block b -/
structure Pr2 (b : Nat) (w : World) (p q : Nat) (s : TWs) (rest : List (BitVec 8)) (bs : List (List (BitVec 8))) : Prop where
  ex : ∃ G H, Wr w p G s ∧ Rr w q H rest bs ∧ Ap G H ∧ Lo b G ∧ Lo b H ∧ b ≤ w.heap.size
section
variable {b : Nat} {w w' : World} {p q : Nat} {s s' : TWs} {rest rest' : List (BitVec 8)} {bs bs' : List (List (BitVec 8))} {G G' : List Nat}
theorem Pr2.ext (h : Pr2 b w p q s rest bs) (hx : Ext w w') : Pr2 b w' p q s rest bs := by
  obtain ⟨G, H, h1, h2, h3, h4, h5, h6⟩ := h.ex
  exact ⟨⟨G, H, h1.ext hx, h2.ext hx, h3, h4, h5, Nat.le_trans h6 hx.size⟩⟩
/-- look at the writer -/
theorem Pr2.wr (h : Pr2 b w p q s rest bs) : ∃ G, Wr w p G s ∧ Lo b G ∧ ∀ (w' : World) (s' : TWs), (∃ G', Wr w' p G' s' ∧ Mvs G G' w w') → Pr2 b w' p q s' rest bs ∧ ∀ w0 : World, Ext w0 w → w0.heap.size ≤ b → Ext w0 w' := by
  obtain ⟨G, H, h1, h2, h3, h4, h5, h6⟩ := h.ex
  refine ⟨G, h1, h4, fun w' s' ⟨G', k1, k2⟩ => ⟨⟨G', H, k1, h2.mds k2.m h3.symm, k2.ap h2.hi h3, k2.lo h6 h4, h5, Nat.le_trans h6 k2.m.size⟩, fun w0 hx hb => k2.ext hx (h4.mono hb)⟩⟩
/-- look at the reader -/
theorem Pr2.rd (h : Pr2 b w p q s rest bs) : ∃ H, Rr w q H rest bs ∧ Lo b H ∧ ∀ (w' : World) (rest' : List (BitVec 8)) (bs' : List (List (BitVec 8))), (∃ H', Rr w' q H' rest' bs' ∧ Mvs H H' w w') → Pr2 b w' p q s rest' bs' ∧ ∀ w0 : World, Ext w0 w → w0.heap.size ≤ b → Ext w0 w' := by
  obtain ⟨G, H, h1, h2, h3, h4, h5, h6⟩ := h.ex
  refine ⟨H, h2, h5, fun w' rest' bs' ⟨H', k1, k2⟩ => ⟨⟨G, H', h1.mds k2.m h3, k1, (k2.ap h1.hi h3.symm).symm, h4, k2.lo h6 h5, Nat.le_trans h6 k2.m.size⟩, fun w0 hx hb => k2.ext hx (h5.mono hb)⟩⟩
end
/-- what each of these functions needs to be called -/
theorem Pr2.put {b : Nat} {w0 w : World} {p q : Nat} {s : TWs} {rest : List (BitVec 8)} {bs : List (List (BitVec 8))} (h : Pr2 b w0 p q s rest bs) (hx0 : Ext w0 w) (m : BitVec 8) {x : List (BitVec 8)} {A : Option Addr} {n c : Nat} (hx : Bs w A n c x) (ho : ∀ G, Lo b G → Hi w0 G → Off A n G) (hf : szW s ≤ 10000000000000) :
    Calls Try.prog 15 #[.pointer (some ⟨p, 0, none⟩), .int .u8 (ub m), .slice A n c] w fun e w' => e = .returned (.tuple #[]) ∧ Pr2 b w' p q (putS m x s) rest bs ∧ ∀ w1 : World, Ext w1 w → w1.heap.size ≤ b → Ext w1 w' := by
  obtain ⟨G, H, h1, h2, h3, h4, h5, h6⟩ := h.ex
  refine (Put_any (h1.ext hx0) hx (ho G h4 h1.hi) hf).mono ?_
  rintro e w' ⟨rfl, G', k1, k2⟩
  exact ⟨rfl, ⟨G', H, k1, (h2.ext hx0).mds k2.m h3.symm, k2.ap (h2.ext hx0).hi h3, k2.lo (Nat.le_trans h6 hx0.size) h4, h5, Nat.le_trans h6 (Nat.le_trans hx0.size k2.m.size)⟩, fun w1 hx hb => k2.ext hx (h4.mono hb)⟩
theorem off_lit {G : List Nat} {w : World} (hi : Hi w G) (n o : Nat) : Off (some ⟨w.heap.size, o, none⟩) n G := fun ad _ e hk => by
  cases e
  exact Nat.lt_irrefl _ (hi _ hk)
theorem off_own {G : List Nat} {w0 w : World} {A : Option Addr} {n c : Nat} {x : List (BitVec 8)} (hi : Hi w0 G) (hx : Own w w0.heap.size (.slice A n c) n x) : Off A n G := hx.off fun k hk h4 => by
  have h5 := hx.rw.base k (mem_fpv.1 hk)
  have h6 := hi k h4
  omega
theorem Pr2.open_ {b : Nat} {w : World} {p q : Nat} {s : TWs} {rest : List (BitVec 8)} {bs : List (List (BitVec 8))} (h : Pr2 b w p q s rest bs) (m : BitVec 8) (hf : szW s ≤ 10000000000000) :
    Calls Try.prog 17 #[.pointer (some ⟨p, 0, none⟩), .int .u8 (ub m)] w fun e w' => e = .returned (.tuple #[]) ∧ Pr2 b w' p q (openS m s) rest bs ∧ ∀ w0 : World, Ext w0 w → w0.heap.size ≤ b → Ext w0 w' := by
  obtain ⟨G, h1, h2, h3⟩ := h.wr
  refine (Open_any h1 hf).mono ?_
  rintro e w' ⟨rfl, hg⟩
  exact ⟨rfl, h3 w' _ hg⟩
theorem Pr2.close {b : Nat} {w : World} {p q : Nat} {s : TWs} {rest : List (BitVec 8)} {bs : List (List (BitVec 8))} (h : Pr2 b w p q s rest bs) (hv : VW s) (hf : szW s ≤ 10000000000000) :
    Calls Try.prog 19 #[.pointer (some ⟨p, 0, none⟩)] w fun e w' => e = .returned (.tuple #[]) ∧ Pr2 b w' p q (closeS s) rest bs ∧ ∀ w0 : World, Ext w0 w → w0.heap.size ≤ b → Ext w0 w' := by
  obtain ⟨G, h1, h2, h3⟩ := h.wr
  refine (Close_any h1 hv hf).mono ?_
  rintro e w' ⟨rfl, hg⟩
  exact ⟨rfl, h3 w' _ hg⟩
theorem Pr2.bytes {b : Nat} {w : World} {p q : Nat} {s : TWs} {rest : List (BitVec 8)} {bs : List (List (BitVec 8))} (h : Pr2 b w p q s rest bs) (hv : VW s) (hf : szW s ≤ 10000000000000) :
    Calls Try.prog 21 #[.pointer (some ⟨p, 0, none⟩)] w (BytR w s) := by
  obtain ⟨G, h1, h2, h3⟩ := h.wr
  exact Bytes_any h1 hv hf
theorem no_el : ¬ (isP 2 = true ∧ ∃ x r, El [2, 129, 1, 5] 2 x r) := by
  rintro ⟨_, x, r, h⟩
  have h1 := lnOf_el h
  have h2 := (el_parts h).2.1
  rw [← h1] at h2
  exact absurd h2 (by decide)
theorem up7_list : doneL (closeS (putS 2 [5] (openS 48 (.ok [] [])))) = [48, 3, 2, 1, 5] := by decide
theorem up7_code : errV (doneC (closeS (putS 2 [5] (openS 48 (.ok [] []))))) = .nilIface := by
  have : doneC (closeS (putS 2 [5] (openS 48 (.ok [] [])))) = 0 := by decide
  rw [this]; rfl
theorem up7_str : strOf [48, 3, 2, 1, 5] = ⟨#[48, 3, 2, 1, 5]⟩ := rfl
set_option maxHeartbeats 4000000 in
theorem up7_any (w : World) : Calls Try.prog 8 #[] w fun e w' => e = .returned (.bool true) ∧ Ext w w' := by
  have ee := code_eq 2 2
  go_enter Try.func8, Try.ntmps8
  go_wp2_with fail
  refine (NewWriter_any w).mono ?_
  rintro e w1 ⟨rfl, ⟨G, hW, hG⟩, x1⟩
  have HW := Kp.mk hW
  have HG := Kp.mk hG
  have X1 := Kp.mk x1
  clear hW hG x1
  go_wp2_with fail
  refine (NewReader_any (b := [2, 129, 1, 5]) (w := w1.alloc (.cells #[.int .u8 2, .int .u8 129, .int .u8 1, .int .u8 5] 5)) ((Blk.new w1 5 (bv [2, 129, 1, 5])).bs 0 4 4 (by decide) (by decide)) (by decide)).mono ?_
  rintro e w2 ⟨q, rfl, ⟨H, hR, hH⟩, x2⟩
  have X2 := Kp.mk (Ext.trans ((by (repeat (first | assumption | exact Ext.refl _ | apply Ext.drew | apply Ext.drewN | apply Ext.alloc | refine Ext.trans ?_ (by assumption))); first | done | fail) : Ext w1 (w1.alloc (.cells #[.int .u8 2, .int .u8 129, .int .u8 1, .int .u8 5] 5))) x2)
  have P2 := Kp.mk (Pr2.mk ⟨G, H, HW.out.ext X2.out, hR, (Ap.of_lo (hH.mono (show w1.heap.size ≤ _ by simp)) HW.out.hi).symm, HG.out, hH.mono (Nat.le_trans X1.out.size (by simp)), Nat.le_trans X1.out.size X2.out.size⟩ : Pr2 w.heap.size w2 w.heap.size q (.ok [] []) [2, 129, 1, 5] [])
  have E2 := Kp.mk (X1.out.trans X2.out)
  clear hR hH x2
  go_wp2_with fail
  refine (P2.out.open_ 48 (by decide)).mono ?_
  rintro e w3 ⟨rfl, p3, x3⟩
  have P3 := Kp.mk p3
  have E3 := Kp.mk (x3 w E2.out (Nat.le_refl _))
  clear p3 x3
  go_wp2_with fail
  have x3' : Ext w3 (w3.alloc (.cells #[.int .u8 5] 5)) := (by (repeat (first | assumption | exact Ext.refl _ | apply Ext.drew | apply Ext.drewN | apply Ext.alloc | refine Ext.trans ?_ (by assumption))); first | done | fail)
  refine (P3.out.put x3' 2 (num_bs w3 5 5 rfl) (fun G _ hi => off_lit hi _ _) (by decide)).mono ?_
  rintro e w4 ⟨rfl, p4, x4⟩
  have P4 := Kp.mk p4
  have E4 := Kp.mk (x4 w (E3.out.trans x3') (Nat.le_refl _))
  clear p4 x4 x3'
  go_wp2_with fail
  refine (P4.out.close ⟨by decide, by decide⟩ (by decide)).mono ?_
  rintro e w5 ⟨rfl, p5, x5⟩
  have P5 := Kp.mk p5
  have E5 := Kp.mk (x5 w E4.out (Nat.le_refl _))
  clear p5 x5
  go_wp2_with fail
  refine (P5.out.bytes ⟨by decide, by decide⟩ (by decide)).mono ?_
  rintro e w6 ⟨A6, n6, c6, rfl, ho6, x6⟩
  rw [up7_list] at ho6
  rw [up7_code]
  have P6 := Kp.mk (P5.out.ext x6)
  have E6 := Kp.mk (E5.out.trans x6)
  have S6 := fun (w' : World) (hx : Ext w6 w') => ho6.bs.str hx
  rw [up7_str] at S6
  clear ho6 x6
  go_wp2_with fail
  obtain ⟨H6, r6, _, _⟩ := P6.out.rd
  refine (Take_err (m := 2) r6 (by decide) no_el).mono ?_
  rintro e w7 ⟨rfl, x7⟩
  have E7 := Kp.mk (E6.out.trans x7)
  have hs7 := S6 _ x7
  rw [show ((erC [2, 129, 1, 5] 2 : Nat) : Int) = 2 from rfl]
  go_wp2_with fail
  go_ret
  exact ⟨rfl, E7.out⟩
end Go.Proofs.Ytadndhenfoppiaa
