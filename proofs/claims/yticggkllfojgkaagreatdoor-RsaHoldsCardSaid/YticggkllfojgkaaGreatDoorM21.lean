/-
  The walk of sha.pressAll.
  The digest as plain lists.
  The walk of sha.Sum.
  Marks and derived keys as plain lists.
-/
import Derived.Test.YticggkllfojgkaaGreatDoorM20
import Derived.Test.YticggkllfojgkaaGreatDoorM0
import Derived.Deep.RegionHeld3
import Derived.Deep.DeepCutAuto
import Derived.Test.YticggkllfojgkaaGreatDoorM11
import Derived.Laws.CopyOwn
namespace Go.Proofs.YticggkllfojgkaaGreatDoor
open Go Go.RowKit
set_option maxRecDepth 4000

theorem sizeB : (Tryz.prog.info? 5).map (·.size) = some 1 := by kernel_rfl
theorem gb_blk (l : List (BitVec 8)) (k j : Nat) (h : j < 64) : gb (blk l k) j = gb (l.drop (64 * k)) j := gb_take _ _ _ h
theorem run_arrayAt {P : Program} (w : World) (t e n m c : Nat) (a : Addr) (h : P.underlying t = some (.array n e)) (hm : n ≤ m) : (Instr.arrayAt t (.slice (some a) m c)).run P w = .ok (.pointer (some a)) w := by
  simp [Instr.arrayAt, Sem.run_bind, run_underlying h, show ¬ m < n by omega]
def lenW : Value → Nat | .slice _ n _ => n | _ => 0
/-- what the loop of pressAll keeps: slot 1, the words -/
def AI (l : List (BitVec 8)) (v : List (BitVec 32)) (n : Nat) (w : World) (x : Value) (wr : World) : Prop :=
  ∃ (k : Nat) (A : Option Addr) (c m : Nat), m + 64 * k = n ∧ x = .slice A m c ∧ Sl w A m c (l.drop (64 * k)) ∧ Has wr w.heap.size 63 (wv (pa KK l v k)) ∧ Has wr (w.heap.size + 1) 63 zero8 ∧ Below w.heap.size w wr

set_option maxHeartbeats 2000000 in
theorem pressAll_any (v : List (BitVec 32)) (l : List (BitVec 8)) (A : Option Addr) (n c : Nat) (w : World) (hv : v.length = 8) (hl : Sl w A n c l) (hw : Laid w) (hn : n ≤ maxLen) :
    Calls Tryz.prog 74 #[.agg (wv v), .slice A n c] w fun e w' => e = .returned (.agg (wv (pa KK l v (n / 64)))) ∧ Below w.heap.size w w' := by
  have H := Lib.hid hv
  have HL := Lib.hid hl
  have HW := Lib.hid hw
  unfold maxLen at hn
  clear hv hl hw
  go_enter Tryz.func74, Tryz.ntmps74
  go_wp2
  go_loopw [1] (fun x wr => AI l v n w x wr) (fun x _ => lenW x)
  case atStart =>
    exact ⟨0, A, c, n, by omega, rfl, HL.out, (Has.new _ _ _ _ rfl).alloc _, Has.new _ _ _ _ (by simp), ((Below.refl _ _).alloc (Nat.le_refl _) _).alloc (by simp) _⟩
  case round =>
    obtain ⟨k, A, c, m, hm, rfl, hs0, hh, hz, hb⟩ := hrel
    have hs := hs0.keep hb
    have HS := Lib.hid hs0
    clear hs0
    have HM := Lib.hid hm
    clear hm
    have hmn : m ≤ n := by have := HM.out; omega
    by_cases hlt : 64 ≤ m
    · obtain ⟨g, o, hA, hc⟩ := hs.some_ (by omega)
      subst hA
      go_wp2
      refine wp_region_still_tail 4 (by kernel_rfl) (by kernel_rfl) ?_
      simp only [List.take_succ_cons, List.take_zero, List.drop_succ_cons, List.drop_zero]
      have hb1 : Below wr.heap.size wr wr.drew := (Below.refl _ _).drew
      have hc2 : ∀ j, j < m → wr.drew.cell? ⟨g, o + j, none⟩ = some (.int .u8 (ub (gb (l.drop (64 * k)) j))) := hc
      have hs2 := hs.keep hb1
      have hh2 := hh.below hb1 hh.lt
      have hz2 := hz.below hb1 hz.lt
      have hb2 := hb.trans (hb1.mono hb.size)
      change wpStill _ _ wr.drew (fun a' => wpList _ _ _ _ a' wr.drew) _ _
      clear hc hs hh hz hb hb1
      generalize wr.drew = wz at *
      have hl8 := pa_len KK l v H.out k
      have HL8 := Lib.hid hl8
      clear hl8
      have hbl := blk_len l k (by have := HL.out.1; have := HM.out; omega)
      have HBL := Lib.hid hbl
      clear hbl
      have hload := run_load_arr (P := Tryz.prog) wz 63 50 8 w.heap.size (wv (pa KK l v k)) Tryz.underlying63 (szW8 _ HL8.out) (fun j v hv => (hh2.cell j).trans hv)
      have harr : (Instr.arrayAt 88 (.slice (some ⟨g, o, none⟩) m c)).run Tryz.prog wz = .ok (.pointer (some ⟨g, o, none⟩)) wz := run_arrayAt wz 88 5 64 m c _ Tryz.underlying88 hlt
      have hload2 := run_load_at (P := Tryz.prog) wz 88 5 64 g o (bv (blk l k)) Tryz.underlying88 (szB64 _ HBL.out) (fun j x hx => by
        have hj : j < 64 := by have := (Array.getElem?_eq_some_iff.1 hx).1; rwa [bv_size, HBL.out] at this
        rw [hc2 j (by omega), ← hx, bv_at _ _ (by rw [HBL.out]; exact hj), gb_blk _ _ _ hj])
      have HLO := Lib.hid hload
      have HLO2 := Lib.hid hload2
      clear hload hload2 hc2
      refine wpStill_load_row rfl 63 _ rfl ⟨w.heap.size, 0, none⟩ rfl _ HLO.out ?_
      iterate 2 still_step
      refine wpStill_load_row rfl 88 _ rfl ⟨g, o, none⟩ rfl _ HLO2.out ?_
      refine wpStill_nil ?_
      clear harr HLO HLO2
      go_wp2_with (first | (go_at_call 102; refine (press_any (pa KK l v k) (blk l k) _ HL8.out HBL.out (HW.out.below hb2 (Nat.le_refl _))).mono ?_; rintro e w1 ⟨rfl, hb3⟩) | (refine wpList_store_row rfl 63 _ _ rfl w.heap.size _ rfl rfl 63 _ (hh2.below hb3 hh2.lt) (szW8 _ (press_len _ _ _ HL8.out)) (by rw [wv_size, wv_size, press_len _ _ _ HL8.out, HL8.out]) (wv_one _) ?_) | fail)
      go_roundw
      case rel =>
        have hd := HS.out.drop 64 hlt
        rw [List.drop_drop] at hd
        refine ⟨k + 1, _, _, m - 64, by have := HM.out; omega, rfl, ?_, (hh2.below hb3 hh2.lt).row _, (hz2.below hb3 hz2.lt).rowfar (by omega) _, below_row (hb2.trans (hb3.mono hb2.size)) (Nat.le_refl _) _⟩
        rw [show 64 * (k + 1) = 64 * k + 64 by omega]
        exact hd
      case measure => simp [lenW]; omega
    · have e : n / 64 = k := by have := HM.out; omega
      subst e
      go_wp2_with (first | (refine wpList_load_row rfl 63 _ rfl w.heap.size rfl 63 _ (0, 0) _ hh Tryz.underlying63 rfl (szW8 _ (pa_len _ _ _ H.out _)) ?_) | (refine wpList_store_row rfl 63 _ _ rfl (w.heap.size + 1) _ rfl rfl 63 _ hz (szW8 _ (pa_len _ _ _ H.out _)) (by rw [wv_size, pa_len _ _ _ H.out]; rfl) (wv_one _) ?_) | fail)
      refine bodyPost_ret (v := .agg (wv (pa KK l v (n / 64)))) ?_ rfl ⟨rfl, ?_⟩
      · exact results_cell_row rfl _ _ (w.heap.size + 1) 63 _ (0, 0) _ rfl (hz.row _) Tryz.underlying63 rfl (szW8 _ (pa_len _ _ _ H.out _))
      · exact below_row hb (by omega) _
end Go.Proofs.YticggkllfojgkaaGreatDoor
namespace Go.Proofs.YticggkllfojgkaaGreatDoor
open Go
set_option maxRecDepth 4000

def b8 (x : BitVec 32) : BitVec 8 := x.setWidth 8
def bytes4 (x : BitVec 32) : List (BitVec 8) := [b8 (x >>> 24), b8 (x >>> 16), b8 (x >>> 8), b8 x]
def digTo (ws : List (BitVec 32)) : Nat → List (BitVec 8)
  | 0 => []
  | k + 1 => digTo ws k ++ bytes4 (gw ws k)
theorem digTo_len (ws : List (BitVec 32)) (k : Nat) : (digTo ws k).length = 4 * k := by
  induction k with
  | zero => rfl
  | succ k ih => simp [digTo, bytes4, ih]; omega
/-- what stands behind the whole blocks, and the tail -/
def endL (l : List (BitVec 8)) : List (BitVec 8) := l.drop (64 * (l.length / 64)) ++ tailTo l.length 8
theorem endL_len (l : List (BitVec 8)) : (endL l).length = l.length - 64 * (l.length / 64) + tailLen l.length := by
  simp [endL, tailTo_len]
def digW (K H : List (BitVec 32)) (l : List (BitVec 8)) : List (BitVec 32) :=
  pa K (endL l) (pa K (l.take (64 * (l.length / 64))) H (64 * (l.length / 64) / 64)) ((endL l).length / 64)
def dig (K H : List (BitVec 32)) (l : List (BitVec 8)) : List (BitVec 8) := digTo (digW K H l) 8
theorem digW_len (K H : List (BitVec 32)) (l : List (BitVec 8)) (h : H.length = 8) : (digW K H l).length = 8 := pa_len _ _ _ (pa_len _ _ _ h _) _
theorem dig_len (K H : List (BitVec 32)) (l : List (BitVec 8)) : (dig K H l).length = 32 := digTo_len _ 8
@[go_sem] theorem un_b8 (x : BitVec 32) : un x % (256 : Int) = ub (b8 x) := by
  unfold un ub b8; rw [BitVec.toNat_setWidth]; omega
theorem wv8 (q : List (BitVec 32)) (h : q.length = 8) : wv q = #[.int .u32 (un (gw q 0)), .int .u32 (un (gw q 1)), .int .u32 (un (gw q 2)), .int .u32 (un (gw q 3)), .int .u32 (un (gw q 4)), .int .u32 (un (gw q 5)), .int .u32 (un (gw q 6)), .int .u32 (un (gw q 7))] := by
  match q, h with
  | [a, b, c, d, e, f, g, i], _ => rfl
end Go.Proofs.YticggkllfojgkaaGreatDoor
namespace Go.Proofs.YticggkllfojgkaaGreatDoor
open Go Go.RowKit
set_option maxRecDepth 4000

theorem from_ex {w : World} {A : Option Addr} {n c : Nat} {l : List (BitVec 8)} (h : Sl w A n c l) (k : Nat) (x : Int) (hx : x = (k : Int)) (hk : k ≤ n) :
    ∃ A1 n1 c1, (∀ w' : World, (Instr.sliceAt 26 (.slice A n c) (some (.int .i64 x)) none none).run Tryz.prog w' = .ok (.slice A1 n1 c1) w') ∧ n1 = n - k ∧ Sl w A1 n1 c1 (l.drop k) :=
  ⟨_, _, _, fun w' => run_from A n c 26 5 Tryz.underlying26 sizeB k x hx hk w', rfl, h.drop k hk⟩
theorem own_nil (w : World) (base e : Nat) : w.ownsRow base e 1 (.slice none 0 0) 0 [] := ⟨rfl, .inl ⟨rfl, rfl⟩⟩

theorem own_below {w w' : World} {base e n : Nat} {v : Value} {xs : List Value} (h : w.ownsRow base e 1 v n xs) (hb : Below w.heap.size w w') : w'.ownsRow base e 1 v n xs := by
  refine ⟨h.1, ?_⟩
  rcases h.2 with h2 | ⟨g, cap, cur, h1, h3, h4, h5⟩
  · exact .inl h2
  · exact .inr ⟨g, cap, cur, h1, h3, (hb.block g (Array.getElem?_eq_some_iff.1 h4).1).trans h4, h5⟩
theorem own_base {w : World} {base e n : Nat} {v : Value} {xs : List Value} (h : w.ownsRow base e 1 v n xs) (k : Nat) (hk : v.ownBlock = some k) : base ≤ k := by
  rcases h.2 with ⟨rfl, _⟩ | ⟨g, cap, cur, rfl, h3, _⟩
  · simp [Value.ownBlock] at hk
  · simp [Value.ownBlock] at hk; omega
theorem sl_has {w : World} {g t n c : Nat} {l : List (BitVec 8)} (h : Has w g t (bv l)) (hl : l.length = n) (hc : n ≤ c) : Sl w (some ⟨g, 0, none⟩) n c l := by
  subst hl; exact Sl.of_has h hc
def S8 (w' : World) : Prop := w'.cell? ⟨0, 0, none⟩ = some (.int .u32 (un (gw HH 0))) ∧ w'.cell? ⟨0, 1, none⟩ = some (.int .u32 (un (gw HH 1))) ∧ w'.cell? ⟨0, 2, none⟩ = some (.int .u32 (un (gw HH 2))) ∧ w'.cell? ⟨0, 3, none⟩ = some (.int .u32 (un (gw HH 3))) ∧ w'.cell? ⟨0, 4, none⟩ = some (.int .u32 (un (gw HH 4))) ∧ w'.cell? ⟨0, 5, none⟩ = some (.int .u32 (un (gw HH 5))) ∧ w'.cell? ⟨0, 6, none⟩ = some (.int .u32 (un (gw HH 6))) ∧ w'.cell? ⟨0, 7, none⟩ = some (.int .u32 (un (gw HH 7)))
theorem s8 {w : World} (h : Laid w) : S8 w := ⟨h.2 0 (by decide), h.2 1 (by decide), h.2 2 (by decide), h.2 3 (by decide), h.2 4 (by decide), h.2 5 (by decide), h.2 6 (by decide), h.2 7 (by decide)⟩
theorem row8 {B : Nat} {a w : World} (h : Below B a w) (v0 v1 v2 v3 v4 v5 v6 v7 : Value) :
    Below B a ((((((((w.setCell ⟨B, 0, none⟩ v0).setCell ⟨B, 1, none⟩ v1).setCell ⟨B, 2, none⟩ v2).setCell ⟨B, 3, none⟩ v3).setCell ⟨B, 4, none⟩ v4).setCell ⟨B, 5, none⟩ v5).setCell ⟨B, 6, none⟩ v6).setCell ⟨B, 7, none⟩ v7) :=
  (((((((h.setCell (Nat.le_refl _) _).setCell (Nat.le_refl _) _).setCell (Nat.le_refl _) _).setCell (Nat.le_refl _) _).setCell (Nat.le_refl _) _).setCell (Nat.le_refl _) _).setCell (Nat.le_refl _) _).setCell (Nat.le_refl _) _
/-- behind the whole blocks: where the words lie -/
def CI (l : List (BitVec 8)) (k : Nat) (w w3 : World) (t5 : Value) (w' : World) : Prop :=
  ∃ g, t5 = .pointer (some ⟨g, 0, none⟩) ∧ w.heap.size ≤ g ∧ Has w' g 63 (wv (pa KK (l.take k) HH (k / 64))) ∧ Below w3.heap.size w3 w'
theorem load_HH {w : World} (h : Laid w) : (Instr.loadAt 63 (.pointer (some ⟨0, 0, none⟩))).run Tryz.prog w = .ok (.agg (wv HH)) w :=
  run_load_arr w 63 50 8 0 (wv HH) Tryz.underlying63 (szW8 _ HH_len) (fun j v hv => by
    have hj : j < 8 := by have := (Array.getElem?_eq_some_iff.1 hv).1; rwa [wv_size] at this
    rw [h.2 j hj, ← hv, wv_at _ _ hj])
theorem idx8 (s : List (BitVec 32)) (hs : s.length = 8) (k : Nat) (hk : k < 8) (w : World) :
    (Instr.index 63 (.agg (wv s)) (.int .i64 (k : Int))).run Tryz.prog w = .ok (.int .u32 (un (gw s k))) w :=
  run_index_arr w 63 50 8 _ k _ Tryz.underlying63 (by kernel_rfl) (by kernel_rfl) hk (wv_at s k (by omega))
theorem sl4 (w : World) (x : BitVec 32) : Sl (w.alloc (.cells #[.int .u8 (ub (b8 (x >>> 24))), .int .u8 (ub (b8 (x >>> 16))), .int .u8 (ub (b8 (x >>> 8))), .int .u8 (ub (b8 x))] 5)) (some ⟨w.heap.size, 0, none⟩) 4 4 (bytes4 x) :=
  sl_has (t := 5) (Has.new w 5 (bv (bytes4 x)) _ rfl) rfl (Nat.le_refl _)
/-- what Sum leaves -/
def SumPost (l : List (BitVec 8)) (w : World) (e : Ending) (w' : World) : Prop :=
  ∃ v, e = .returned v ∧ w'.ownsRow w.heap.size 5 1 v 32 ((dig KK HH l).map vb) ∧ Below w.heap.size w w'

set_option maxHeartbeats 2000000 in
theorem Sum_any (l : List (BitVec 8)) (A : Option Addr) (n c : Nat) (w : World) (hl : Sl w A n c l) (hw : Laid w) (hn : n ≤ 140737488351232) :
    Calls Tryz.prog 47 #[.slice A n c] w (SumPost l w) := by
  obtain ⟨k, hk⟩ : ∃ k, k = 64 * (n / 64) := ⟨_, rfl⟩
  have hkn : k ≤ n := by omega
  obtain ⟨A1, n1, c1, hfrom, hn1, hl1⟩ := from_ex hl k ((n : Int) - (n : Int) % 64) (by omega) hkn
  have hupto := run_upto (P := Tryz.prog) A n c 26 5 Tryz.underlying26 sizeB k ((n : Int) - (n : Int) % 64) (by omega) (Nat.le_trans hkn hl.2.1)
  have HK := Lib.hid hk
  have HL := Lib.hid hl
  have HW := Lib.hid hw
  have HN1 := Lib.hid hn1
  have HL1 := Lib.hid hl1
  have hn1b : n1 ≤ n := by omega
  clear hl hw hk hn1 hl1
  go_enter Tryz.func47, Tryz.ntmps47
  go_wp2_with (first | (at_builtin; refine wpList_append_sl rfl _ _ 26 rfl w.heap.size 5 Tryz.underlying26 infoB _ 0 [] rfl (own_nil _ _ _) A1 n1 c1 _ rfl HL1.out (by omega) (Nat.le_refl _) ?_; intro v1 w1 hown1 hg1) | fail)
  have hb1 : Below w.heap.size w w1 := (Below.refl _ _).grown hg1 (Nat.le_refl _) (fun k hk => by cases hk)
  refine (tail_any n _ (by omega)).mono ?_
  rintro e w2 ⟨rfl, hT, hb2⟩
  have hown2 := own_below hown1 hb2
  rw [List.nil_append, Nat.zero_add] at hown2
  have hlT := sl_has hT (tailTo_len n 8) (Nat.le_refl _)
  have hT2 := tailLen_hi n
  have hb12 := hb1.trans (hb2.mono hb1.size)
  clear hown1 hg1 hT
  go_wp2_with (first | (at_builtin; refine wpList_append_sl rfl _ _ 26 rfl w.heap.size 5 Tryz.underlying26 infoB _ n1 _ rfl hown2 _ (tailLen n) (tailLen n) _ rfl hlT (by omega) hb12.size ?_; intro v2 w3 hown3 hg3) | fail)
  have hb3 : Below w.heap.size w w3 := hb12.grown hg3 hb12.size (own_base hown2)
  rw [← List.map_append] at hown3
  obtain ⟨A2, c2, rfl, hl2⟩ := Sl.of_own hown3
  clear hown3 hg3 hlT hown2 hb12 hb1 hb2
  have hE : l.drop k ++ tailTo n 8 = endL l := by unfold endL; rw [HL.out.1, ← HK.out]
  rw [hE] at hl2
  have hW3 := HW.out.below hb3 (Nat.le_refl _)
  have hm2 : n1 + tailLen n ≤ 140737488355328 := by omega
  obtain ⟨m2, hm⟩ : ∃ m2, n1 + tailLen n = m2 := ⟨_, rfl⟩
  rw [hm] at hl2 hm2 ⊢
  clear hE hm
  have HW3 := Lib.hid hW3
  have HB3 := Lib.hid hb3
  have HL2 := Lib.hid hl2
  have hs3 : Sl w3 A k c (l.take k) := (HL.out.keep hb3).take k hkn
  have HS3 := Lib.hid hs3
  have hkm : k ≤ maxLen := by unfold maxLen; omega
  have HKM := Lib.hid hkm
  have HUP := Lib.hid hupto
  clear hW3 hl2 hfrom hs3 hkm hupto
  go_upto_region 5 with (fail)
  go_cut [5] (fun t5 w' => CI l k w w3 t5 w')
  case first =>
    refine wp_region_held (S := fun w' => Laid w' ∧ Below w3.heap.size w3 w') (by kernel_rfl) ?_
    have hS : (fun w' : World => Laid w' ∧ Below w3.heap.size w3 w') w3.drew := ⟨HW3.out.below (Below.refl _ _).drew (Nat.le_refl _), (Below.refl _ _).drew⟩
    have HS := Lib.hid hS
    clear hS
    change wpAnyH _ _ _ _ _ _ _ _ w3.drew
    refine wpAnyH_take (i := 0) (v := .agg (wv HH)) rfl (by kernel_rfl) (by kernel_rfl) (by kernel_rfl) (fun _ _ _ h => h) (.inl ⟨by rfl, fun W hW => exec_load 63 _ rfl ⟨0, 0, none⟩ rfl _ (load_HH hW.1)⟩) HS.out ?_
    refine wpAnyH_take (i := 1) (v := .slice A n c) rfl (by kernel_rfl) (by kernel_rfl) (by kernel_rfl) (fun _ _ _ h => h) (.inl ⟨by rfl, fun W hW => exec_move _ rfl _ rfl⟩) HS.out ?_
    refine wpAnyH_take (i := 2) (v := .int .i64 ((n : Int) - (n : Int) % 64)) rfl (by kernel_rfl) (by kernel_rfl) (by kernel_rfl) (fun _ _ _ h => h) (.inl ⟨by rfl, fun W hW => exec_move _ rfl _ rfl⟩) HS.out ?_
    refine wpAnyH_take (i := 3) (v := .slice A k c) rfl (by kernel_rfl) (by kernel_rfl) (by kernel_rfl) (fun _ _ _ h => h) (.inl ⟨by rfl, fun W hW => exec_slice 26 _ _ _ rfl (.slice A k c) (.slice A n c) none (some (.int .i64 ((n : Int) - (n : Int) % 64))) rfl rfl rfl (HUP.out W)⟩) HS.out ?_
    refine wpAnyH_all (rs := [4, 5]) (by kernel_rfl) (by simp) ?_
    intro i hi
    simp only [List.mem_cons, List.not_mem_nil, or_false] at hi
    rcases hi with rfl | rfl
    · refine wpOp_step rfl rfl fun K' hK' => ?_
      have HK' := Lib.hid hK'
      clear hK'
      go_simp
      have hbA : Below w3.heap.size w3 w3.drew := HS.out.2
      refine (pressAll_any HH (l.take k) A k c _ rfl (HS3.out.keep hbA) HS.out.1 HKM.out).mono ?_
      rintro e w5 ⟨rfl, hb5⟩
      have hb6 : Below w3.heap.size w3 w5 := hbA.trans hb5
      refine HK'.out _ _ ⟨⟨HW3.out.below hb6 (Nat.le_refl _), hb6⟩, ?_⟩
      clear HK'
      refine wpAnyH_all (rs := [5]) (by kernel_rfl) (by simp) ?_
      intro i hi
      simp only [List.mem_cons, List.not_mem_nil, or_false] at hi
      subst hi
      refine wpOp_step rfl rfl fun K' hK' => ?_
      have HK' := Lib.hid hK'
      clear hK'
      go_simp
      have hb7 : Below w3.heap.size w3 (w5.alloc (.cells zero8 63)) := hb6.alloc hb6.size _
      refine HK'.out _ _ ⟨⟨HW3.out.below hb7 (Nat.le_refl _), hb7⟩, ?_⟩
      clear HK'
      refine wpAnyH_all (rs := [6]) (by kernel_rfl) (by simp) ?_
      intro i hi
      simp only [List.mem_cons, List.not_mem_nil, or_false] at hi
      subst hi
      refine wpOp_step rfl rfl fun K' hK' => ?_
      have HK' := Lib.hid hK'
      clear hK'
      refine wp_store_row 63 _ _ rfl w5.heap.size (wv (pa KK (l.take k) HH (k / 64))) rfl rfl 63 zero8 (Has.new _ _ _ _ rfl) (szW8 _ (pa_len _ _ _ rfl _)) (by rw [wv_size, pa_len _ _ _ rfl]; rfl) (wv_one _) ?_
      have hb8 : Below w3.heap.size w3 ((w5.alloc (.cells zero8 63)).setRow w5.heap.size (wv (pa KK (l.take k) HH (k / 64)))) := below_row hb7 hb6.size _
      refine HK'.out _ _ ⟨⟨HW3.out.below hb8 (Nat.le_refl _), hb8⟩, ?_⟩
      clear HK'
      refine wpAnyH_done (by kernel_rfl) ?_ _
      go_wp2_with fail
      go_meet
      exact ⟨w5.heap.size, rfl, Nat.le_trans HB3.out.size hb6.size, (Has.new _ _ _ _ rfl).row _, hb8⟩
    · refine wpOp_step rfl rfl fun K' hK' => ?_
      have HK' := Lib.hid hK'
      clear hK'
      go_simp
      have hbA : Below w3.heap.size w3 ((w3.alloc (.cells zero8 63)).drew) := ((Below.refl _ _).alloc (Nat.le_refl _) _).drew
      have hzA : Has ((w3.alloc (.cells zero8 63)).drew) w3.heap.size 63 zero8 := (Has.new _ _ _ _ rfl).drew
      refine HK'.out _ _ ⟨⟨HW3.out.below hbA (Nat.le_refl _), hbA⟩, ?_⟩
      clear HK'
      refine wpAnyH_all (rs := [4]) (by kernel_rfl) (by simp) ?_
      intro i hi
      simp only [List.mem_cons, List.not_mem_nil, or_false] at hi
      subst hi
      refine wpOp_step rfl rfl fun K' hK' => ?_
      have HK' := Lib.hid hK'
      clear hK'
      go_simp
      refine (pressAll_any HH (l.take k) A k c _ rfl (HS3.out.keep hbA) (HW3.out.below hbA (Nat.le_refl _)) HKM.out).mono ?_
      rintro e w5 ⟨rfl, hb5⟩
      have hb6 : Below w3.heap.size w3 w5 := hbA.trans (hb5.mono hbA.size)
      have hz5 := hzA.below hb5 hzA.lt
      refine HK'.out _ _ ⟨⟨HW3.out.below hb6 (Nat.le_refl _), hb6⟩, ?_⟩
      clear HK'
      refine wpAnyH_all (rs := [6]) (by kernel_rfl) (by simp) ?_
      intro i hi
      simp only [List.mem_cons, List.not_mem_nil, or_false] at hi
      subst hi
      refine wpOp_step rfl rfl fun K' hK' => ?_
      have HK' := Lib.hid hK'
      clear hK'
      refine wp_store_row 63 _ _ rfl w3.heap.size (wv (pa KK (l.take k) HH (k / 64))) rfl rfl 63 zero8 hz5 (szW8 _ (pa_len _ _ _ rfl _)) (by rw [wv_size, pa_len _ _ _ rfl]; rfl) (wv_one _) ?_
      have hb8 : Below w3.heap.size w3 (w5.setRow w3.heap.size (wv (pa KK (l.take k) HH (k / 64)))) := below_row hb6 (Nat.le_refl _) _
      refine HK'.out _ _ ⟨⟨HW3.out.below hb8 (Nat.le_refl _), hb8⟩, ?_⟩
      clear HK'
      refine wpAnyH_done (by kernel_rfl) ?_ _
      go_wp2_with fail
      go_meet
      exact ⟨w3.heap.size, rfl, HB3.out.size, hz5.row _, hb8⟩
  case rest =>
    obtain ⟨g, rfl, hg, hh, hb⟩ := hcut
    have hW5 := HW3.out.below hb (Nat.le_refl _)
    have hl5 := HL2.out.keep hb
    have HW5 := Lib.hid hW5
    have HL5 := Lib.hid hl5
    have hq8 := pa_len KK (l.take k) HH rfl (k / 64)
    have HQ8 := Lib.hid hq8
    have hm2m : m2 ≤ maxLen := by unfold maxLen; omega
    have HM2 := Lib.hid hm2m
    clear hW5 hl5 hq8 hm2m
    have hm2e : m2 = (endL l).length := HL5.out.1.symm
    have hqq : pa KK (endL l) (pa KK (l.take k) HH (k / 64)) (m2 / 64) = digW KK HH l := by
      unfold digW; rw [hm2e, HL.out.1, ← HK.out]
    have HQQ := Lib.hid hqq
    clear hqq hm2e
    have hd8 := digW_len KK HH l rfl
    have HD8 := Lib.hid hd8
    clear hd8
    go_wp2_with (first | (refine wpList_load_row rfl 63 _ rfl g rfl 63 _ (0, 0) _ hh Tryz.underlying63 rfl (szW8 _ HQ8.out) ?_) | (go_at_call 74; refine (pressAll_any _ (endL l) A2 m2 c2 _ HQ8.out HL5.out HW5.out HM2.out).mono ?_; rintro e w6 ⟨rfl, hb6⟩; rw [HQQ.out]) | (refine wpList_store_row rfl 63 _ _ rfl g (wv (digW KK HH l)) rfl rfl 63 _ (hh.below hb6 hh.lt) (szW8 _ HD8.out) (by rw [wv_size, wv_size, HD8.out, HQ8.out]) (wv_one _) ?_) | (refine wpList_load_row rfl 63 _ rfl g rfl 63 _ (0, 0) _ ((hh.below hb6 hh.lt).row _) Tryz.underlying63 rfl (szW8 _ HD8.out) ?_) | fail)
    have hb7 : Below w.heap.size w (w6.setRow g (wv (digW KK HH l))) := below_row ((HB3.out.trans (hb.mono HB3.out.size)).trans (hb6.mono (HB3.out.trans (hb.mono HB3.out.size)).size)) hg _
    generalize w6.setRow g (wv (digW KK HH l)) = w7 at *
    clear hh hb hb6 hb3
    go_loopw [6, 34] (fun v i wr => ∃ j : Nat, j ≤ 8 ∧ i = .int .i64 j ∧ wr.ownsRow w.heap.size 5 1 v (4 * j) ((digTo (digW KK HH l) j).map vb) ∧ Below w.heap.size w wr) (fun _ i _ => 8 - (intOf i).toNat)
    case atStart => exact ⟨0, by omega, rfl, own_nil _ _ _, hb7⟩
    case round =>
      clear hb7
      obtain ⟨j, hj, rfl, hown, hb⟩ := hrel
      by_cases hlt : j < 8
      · have hidx := idx8 (digW KK HH l) HD8.out j hlt
        go_wp2_with (first | (at_builtin; refine wpList_append_sl rfl _ _ 26 rfl w.heap.size 5 Tryz.underlying26 infoB _ (4 * j) _ rfl (hown.alloc _) _ 4 4 (bytes4 (gw (digW KK HH l) j)) rfl (sl4 wr _) (by omega) (Nat.le_trans hb.size (by simp)) ?_; intro v8 w8 hown8 hg8) | fail)
        have hb8 : Below w.heap.size w w8 := (hb.alloc hb.size _).grown hg8 (Nat.le_trans hb.size (by simp)) (own_base hown)
        rw [← List.map_append] at hown8
        go_roundw
        case rel =>
          refine ⟨j + 1, by omega, by go_num, ?_, hb8⟩
          rw [show 4 * (j + 1) = 4 * j + 4 by omega]
          exact hown8
        case measure => simp [intOf]; omega
      · obtain rfl : j = 8 := by omega
        go_wp2
        go_ret
        exact ⟨_, rfl, hown, hb⟩
end Go.Proofs.YticggkllfojgkaaGreatDoor
namespace Go.Proofs.YticggkllfojgkaaGreatDoor
open Go
set_option maxRecDepth 4000

/-- the digest -/
def dgH (l : List (BitVec 8)) : List (BitVec 8) := dig KK HH l
theorem dg_len (l : List (BitVec 8)) : (dgH l).length = 32 := dig_len _ _ _

@[go_sem] theorem b_xor54 (x : BitVec 8) : bits .xor .u8 (ub x) 54 = ub (x ^^^ 54) := b_xor8 x 54
@[go_sem] theorem b_xor92 (x : BitVec 8) : bits .xor .u8 (ub x) 92 = ub (x ^^^ 92) := b_xor8 x 92

/-- a key's bytes, each xor one, 0 where there is none -/
def padTo (k : List (BitVec 8)) (c : BitVec 8) (n : Nat) : List (BitVec 8) := (List.range n).map fun i => gb k i ^^^ c
def padX (k : List (BitVec 8)) (c : BitVec 8) : List (BitVec 8) := padTo k c 64
theorem padTo_len (k : List (BitVec 8)) (c : BitVec 8) (n : Nat) : (padTo k c n).length = n := by simp [padTo]
theorem padX_len (k : List (BitVec 8)) (c : BitVec 8) : (padX k c).length = 64 := padTo_len k c 64
theorem padTo_succ (k : List (BitVec 8)) (c : BitVec 8) (n : Nat) : padTo k c (n + 1) = padTo k c n ++ [gb k n ^^^ c] := by
  unfold padTo; rw [List.range_succ, List.map_append]; rfl
/-- both pads, as they grow in place -/
def pf (k : List (BitVec 8)) (j : Nat) : List (BitVec 8) :=
  ((List.range 64).map fun i => if i < j then gb k i ^^^ 54 else gb k i) ++ ((List.range 64).map fun i => if i < j then gb k i ^^^ 92 else gb k i)
theorem pf_len (k : List (BitVec 8)) (j : Nat) : (pf k j).length = 128 := by simp [pf]
theorem pf_lo (k : List (BitVec 8)) (j i : Nat) (h : i < 64) : gb (pf k j) i = if i < j then gb k i ^^^ 54 else gb k i := by
  unfold pf
  rw [gb_app, if_pos (by simpa using h), gb_map_range _ _ _ h]
theorem pf_hi (k : List (BitVec 8)) (j i : Nat) (h : i < 64) : gb (pf k j) (64 + i) = if i < j then gb k i ^^^ 92 else gb k i := by
  unfold pf
  rw [gb_app, if_neg (by simp), List.length_map, List.length_range, show 64 + i - 64 = i by omega, gb_map_range _ _ _ h]
theorem pf_next (k : List (BitVec 8)) (j : Nat) (h : j < 64) : ((pf k j).set j (gb k j ^^^ 54)).set (64 + j) (gb k j ^^^ 92) = pf k (j + 1) := by
  apply ext_gb
  · simp [pf_len]
  · intro i hi
    have hi' : i < 128 := by simpa [pf_len] using hi
    rw [gb_set _ _ _ _ (by simp [pf_len]; omega), gb_set _ _ _ _ (by rw [pf_len]; omega)]
    by_cases h1 : i < 64
    · rw [if_neg (by omega), pf_lo _ _ _ h1, pf_lo _ _ _ h1]
      by_cases h2 : i = j
      · subst h2; simp
      · rw [if_neg h2]
        by_cases h3 : i < j
        · rw [if_pos h3, if_pos (by omega)]
        · rw [if_neg h3, if_neg (by omega)]
    · obtain ⟨d, rfl⟩ : ∃ d, i = 64 + d := ⟨i - 64, by omega⟩
      have hd : d < 64 := by omega
      rw [if_neg (show ¬ 64 + d = j by omega), pf_hi _ _ _ hd, pf_hi _ _ _ hd]
      by_cases h2 : d = j
      · subst h2; simp
      · rw [if_neg (by omega)]
        by_cases h3 : d < j
        · rw [if_pos h3, if_pos (by omega)]
        · rw [if_neg h3, if_neg (by omega)]
theorem pf_end (k : List (BitVec 8)) : pf k 64 = padX k 54 ++ padX k 92 := by
  unfold pf padX padTo
  congr 1 <;> (apply List.map_congr_left; intro i hi; rw [if_pos (by simpa using hi)])
theorem splice_map {α β : Type} (f : α → β) (L : List α) (o : Nat) (c : List α) : splice (L.map f) o (c.map f) = (splice L o c).map f := by
  simp [splice]
theorem pf_start (k : List (BitVec 8)) (h : k.length ≤ 64) : splice (splice ((zb 128).map vb) 0 (k.map vb)) 64 (k.map vb) = (pf k 0).map vb := by
  rw [splice_map, splice_map]
  congr 1
  have hl : (splice (zb 128) 0 k).length = 128 := by
    rw [length_splice _ _ _ (by rw [zb_len]; omega), zb_len]
  have h1 : ∀ i, gb (splice (zb 128) 0 k) i = gb k i := by
    intro i
    unfold splice
    rw [List.take_zero, List.nil_append, gb_app]
    split
    · rfl
    · rw [gb_drop', gb_zb, gb_out k i (by omega)]
  apply ext_gb
  · rw [length_splice _ _ _ (by rw [hl]; omega), hl, pf_len]
  · intro i hi
    have hi' : i < 128 := by rwa [length_splice _ _ _ (by rw [hl]; omega), hl] at hi
    unfold splice at h1 ⊢
    rw [gb_app, gb_app, List.length_take, show (List.take 0 (zb 128) ++ (k ++ List.drop (0 + k.length) (zb 128))).length = 128 from hl, show min 64 128 = 64 from rfl]
    by_cases h2 : i < 64
    · rw [if_pos h2, gb_take', if_pos h2, h1, pf_lo _ _ _ h2, if_neg (by omega)]
    · obtain ⟨d, rfl⟩ : ∃ d, i = 64 + d := ⟨i - 64, by omega⟩
      have e1 : gb (pf k 0) (64 + d) = gb k d := by rw [pf_hi _ _ _ (by omega), if_neg (by omega)]
      rw [if_neg h2, show 64 + d - 64 = d by omega, e1]
      by_cases h3 : d < k.length
      · rw [if_pos h3]
      · rw [if_neg h3, gb_drop', h1, gb_out k _ (by omega), gb_out k _ (by omega)]

/-- a mark -/
def kx (k : List (BitVec 8)) : List (BitVec 8) := if 64 < k.length then dgH k else k
theorem kx_len (k : List (BitVec 8)) : (kx k).length ≤ 64 := by
  unfold kx; split
  · rw [dg_len]; decide
  · omega
def mkP (p q b : List (BitVec 8)) : List (BitVec 8) := dgH (q ++ dgH (p ++ b))
def mkL (k b : List (BitVec 8)) : List (BitVec 8) := mkP (padX (kx k) 54) (padX (kx k) 92) b
theorem mkP_len (p q b : List (BitVec 8)) : (mkP p q b).length = 32 := dg_len _
theorem mkL_len (k b : List (BitVec 8)) : (mkL k b).length = 32 := dg_len _
theorem kx_long (k : List (BitVec 8)) (h : 64 < k.length) : kx (dgH k) = kx k := by
  unfold kx
  rw [if_pos h, if_neg (by rw [dg_len]; decide)]
theorem mkL_long (k b : List (BitVec 8)) (h : 64 < k.length) : mkL (dgH k) b = mkL k b := by
  unfold mkL; rw [kx_long k h]
theorem padX_zero (k : List (BitVec 8)) (c : BitVec 8) : padX (k ++ [0]) c = padX k c := by
  unfold padX padTo
  apply List.map_congr_left
  intro i _
  rw [gb_app]
  split
  · rfl
  · rw [gb_out k i (by omega)]
    by_cases h : i - k.length = 0
    · rw [h]; rfl
    · rw [gb_out _ _ (by simp; omega)]
theorem mkL_zero (k b : List (BitVec 8)) (h : k.length < 64) : mkL (k ++ [0]) b = mkL k b := by
  have h1 : kx (k ++ [0]) = k ++ [0] := by unfold kx; rw [if_neg (by simp; omega)]
  have h2 : kx k = k := by unfold kx; rw [if_neg (by omega)]
  unfold mkL
  rw [h1, h2, padX_zero, padX_zero]

/-- two rows xored in place -/
def xorTo (a b : List (BitVec 8)) : Nat → List (BitVec 8)
  | 0 => a
  | j + 1 => (xorTo a b j).set j (gb (xorTo a b j) j ^^^ gb b j)
theorem xorTo_len (a b : List (BitVec 8)) (j : Nat) : (xorTo a b j).length = a.length := by
  induction j with
  | zero => rfl
  | succ j ih => simp [xorTo, ih]
theorem xorTo_succ (a b : List (BitVec 8)) (j : Nat) : xorTo a b (j + 1) = (xorTo a b j).set j (gb (xorTo a b j) j ^^^ gb b j) := rfl
/-- the marks one of the other, and a piece -/
def um (p q s : List (BitVec 8)) : Nat → List (BitVec 8)
  | 0 => mkP p q s
  | j + 1 => mkP p q (um p q s j)
theorem um_len (p q s : List (BitVec 8)) (j : Nat) : (um p q s j).length = 32 := by cases j <;> exact mkP_len _ _ _
theorem um_succ (p q s : List (BitVec 8)) (j : Nat) : um p q s (j + 1) = mkP p q (um p q s j) := rfl
def pc (p q s : List (BitVec 8)) : Nat → List (BitVec 8)
  | 0 => mkP p q s
  | j + 1 => xorTo (pc p q s j) (um p q s (j + 1)) 32
theorem pc_len (p q s : List (BitVec 8)) (j : Nat) : (pc p q s j).length = 32 := by
  induction j with
  | zero => exact mkP_len _ _ _
  | succ j ih => rw [pc, xorTo_len, ih]
theorem pc_succ (p q s : List (BitVec 8)) (j : Nat) : pc p q s (j + 1) = xorTo (pc p q s j) (um p q s (j + 1)) 32 := rfl
/-- a number in four bytes -/
def be4 (i : Nat) : List (BitVec 8) := [BitVec.ofNat 8 (i / 16777216), BitVec.ofNat 8 (i / 65536), BitVec.ofNat 8 (i / 256), BitVec.ofNat 8 i]
/-- pieces one behind the other -/
def dv (p q s : List (BitVec 8)) (r : Nat) : Nat → List (BitVec 8)
  | 0 => []
  | i + 1 => dv p q s r i ++ pc p q (s ++ be4 (i + 1)) r
theorem dv_len (p q s : List (BitVec 8)) (r i : Nat) : (dv p q s r i).length = 32 * i := by
  induction i with
  | zero => rfl
  | succ i ih => rw [dv, List.length_append, ih, pc_len]; omega
theorem dv_succ (p q s : List (BitVec 8)) (r i : Nat) : dv p q s r (i + 1) = dv p q s r i ++ pc p q (s ++ be4 (i + 1)) r := rfl
theorem dv_pre (p q s : List (BitVec 8)) (r i d : Nat) : (dv p q s r (i + d)).take (32 * i) = dv p q s r i := by
  induction d with
  | zero => rw [Nat.add_zero, List.take_of_length_le (by rw [dv_len]; exact Nat.le_refl _)]
  | succ d ih => rw [← Nat.add_assoc, dv, List.take_append_of_le_length (by rw [dv_len]; omega), ih]
theorem dv_take (p q s : List (BitVec 8)) (r i j n : Nat) (hi : n ≤ 32 * i) (hij : i ≤ j) : (dv p q s r j).take n = (dv p q s r i).take n := by
  obtain ⟨d, rfl⟩ := Nat.exists_eq_add_of_le hij
  rw [← dv_pre p q s r i d, List.take_take, Nat.min_eq_left hi]
/-- how many pieces -/
def pcs (n : Nat) : Nat := (n + 31) / 32
theorem pcs_hi (n : Nat) : n ≤ 32 * pcs n := by unfold pcs; omega
theorem pcs_lo (n j : Nat) (h : j < pcs n) : 32 * j < n := by unfold pcs at h; omega
theorem pcs_mono (m n : Nat) (h : m ≤ n) : pcs m ≤ pcs n := by unfold pcs; omega
/-- a derived key -/
def dkL (k s : List (BitVec 8)) (r n : Nat) : List (BitVec 8) := (dv (padX (kx k) 54) (padX (kx k) 92) s (r - 1) (pcs n)).take n
theorem dkL_len (k s : List (BitVec 8)) (r n : Nat) : (dkL k s r n).length = n := by
  unfold dkL
  rw [List.length_take, dv_len, Nat.min_eq_left (pcs_hi n)]
theorem dkL_take (k s : List (BitVec 8)) (r m n : Nat) (h : m ≤ n) : (dkL k s r n).take m = dkL k s r m := by
  unfold dkL
  rw [List.take_take, Nat.min_eq_left h]
  exact dv_take _ _ _ _ _ _ _ (pcs_hi m) (pcs_mono m n h)
/-- a based key -/
def bk (k s : List (BitVec 8)) : Nat → List (BitVec 8)
  | 0 => dgH (k ++ s)
  | j + 1 => dgH (bk k s j)
theorem bk_len (k s : List (BitVec 8)) (j : Nat) : (bk k s j).length = 32 := by cases j <;> exact dg_len _
theorem bk_succ (k s : List (BitVec 8)) (j : Nat) : bk k s (j + 1) = dgH (bk k s j) := rfl
end Go.Proofs.YticggkllfojgkaaGreatDoor
