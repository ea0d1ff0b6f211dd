/-
  The walk of the reference's Tables.Sum.
  The reference's tables and digest in the words of calls one behind the other.
  The reference's Laid.
  The walk of the law NatInvs.
-/
import Derived.Test.YticggkllfojgkaaGreatDoorM27
import Derived.Test.YticggkllfojgkaaGreatDoorM25
import Derived.Deep.RegionHeld3
import Derived.Test.YticggkllfojgkaaGreatDoorM22
import Derived.Test.YticggkllfojgkaaGreatDoorM23
namespace Go.Proofs.YticggkllfojgkaaGreatDoor
open Go Go.RowKit
set_option maxRecDepth 4000

/-- a whole value read at any place of a block -/
theorem wpList_load_at {P : Program} {ops : Array Oper} {rest : List Oper} {o : Oper} {a : Act} {w : World} {Q : Exit → Act → World → Prop} (hgd : o.guard = none) (t : TypeId) (x : Operand) (ho : o.op = .load t x)
    (ad : Addr) (hx : a.eval x = .pointer (some ad)) (v : Value) (hr : (Instr.loadAt t (.pointer (some ad))).run P w = .ok v w)
    (h : wpList P ops Q rest (a.put o.dst v) w) : wpList P ops Q (o :: rest) a w :=
  wpList_plain hgd fun _ hK => by
    unfold Oper.wp execOp
    simp only [ho, hx, Sem.run_bind, hr, Result.andThen_ok, Sem.run_pure]
    exact hK _ _ h
theorem tab_at (A : Option Addr) (c : Nat) (H : List (BitVec 32)) (j : Nat) (hj : j < 8) : (tab A c H)[1 + j]? = some (.int .u32 (un (gw H j))) := by
  match j, hj with
  | 0, _ => rfl
  | 1, _ => rfl
  | 2, _ => rfl
  | 3, _ => rfl
  | 4, _ => rfl
  | 5, _ => rfl
  | 6, _ => rfl
  | 7, _ => rfl
theorem load_tabH {w : World} {g t : Nat} {A : Option Addr} {c : Nat} {H : List (BitVec 32)} (h : Has w g t (tab A c H)) (hH : H.length = 8) :
    (Instr.loadAt 63 (.pointer (some ⟨g, 1, none⟩))).run Tryz.prog w = .ok (.agg (wv H)) w :=
  run_load_at w 63 50 8 g 1 (wv H) Tryz.underlying63 (szW8 _ hH) (fun j v hv => by
    have hj : j < 8 := by have := (Array.getElem?_eq_some_iff.1 hv).1; rwa [wv_size, hH] at this
    rw [h.cell (1 + j), tab_at A c H j hj, ← hv, wv_at _ _ (by omega)])
/-- what Sum's loop over the blocks keeps: the tables, the words, the row of all bytes, the constants -/
structure TS (K H : List (BitVec 32)) (L : List (BitVec 8)) (w : World) (A : Option Addr) (c g5 m d g : Nat) (q : List (BitVec 32)) (wr : World) : Prop where
  tab : Has wr w.heap.size 65 (tab A c H)
  words : Has wr g 63 (wv q)
  row : Ow wr (some ⟨g5, 0, none⟩) m d (L.map vb)
  con : Ow wr A 64 c (K.map vu)
  bel : Below w.heap.size w wr
  lo : w.heap.size < g
  off : g5 ≠ g
section
variable {K H : List (BitVec 32)} {L : List (BitVec 8)} {w : World} {A : Option Addr} {c g5 m d g : Nat} {q : List (BitVec 32)} {wr w1 : World}
theorem TS.keep (h : TS K H L w A c g5 m d g q wr) (hb : Below wr.heap.size wr w1) : TS K H L w A c g5 m d g q w1 :=
  ⟨h.tab.below hb h.tab.lt, h.words.below hb h.words.lt, h.row.keep hb, h.con.keep hb, h.bel.trans (hb.mono h.bel.size), h.lo, h.off⟩
theorem TS.set (h : TS K H L w A c g5 m d g q wr) (ho : Ow w A 64 c (K.map vu)) (p : List (BitVec 32)) : TS K H L w A c g5 m d g p (wr.setRow g (wv p)) := by
  have hb : Below w.heap.size w (wr.setRow g (wv p)) := below_row h.bel (Nat.le_of_lt h.lo) _
  refine ⟨h.tab.rowfar (Nat.ne_of_lt h.lo) _, h.words.row _, ?_, ho.below hb (Nat.le_refl _), hb, h.lo, h.off⟩
  refine ⟨h.row.1, h.row.2.1, fun hn => ?_⟩
  obtain ⟨g', e, hc⟩ := h.row.2.2 hn
  have e' : g5 = g' := by cases e; rfl
  refine ⟨g', e, fun j x hx => ?_⟩
  have h1 := hc j x hx
  have hne : g' ≠ g := by rw [← e']; exact h.off
  unfold World.cell? at h1 ⊢
  rw [setRow_other wr g g' (wv p) hne]
  exact h1
end
theorem vb_at (l : List (BitVec 8)) (j : Nat) (h : j < l.length) : (l.map vb)[j]? = some (.int .u8 (ub (gb l j))) := by simp [gb, h]

/-- the words lie at g, nothing below is touched -/
def BW (q : List (BitVec 32)) (g : Nat) (w w' : World) : Prop := Has w' g 63 (wv q) ∧ Below w.heap.size w w'
section
variable {q : List (BitVec 32)} {g j : Nat} {x : BitVec 32} {w w1 w2 : World}
theorem LK.keep (h : w1.cell? ⟨g, j, none⟩ = some (.int .u32 (un x)) ∧ BW q g w w1) (hb : Below w1.heap.size w1 w2) : w2.cell? ⟨g, j, none⟩ = some (.int .u32 (un x)) ∧ BW q g w w2 :=
  ⟨(hb.cell (p := ⟨g, j, none⟩) (block_lt_of_cell h.1)).trans h.1, h.2.1.below hb h.2.1.lt, h.2.2.trans (hb.mono h.2.2.size)⟩
theorem LK.drew (h : w1.cell? ⟨g, j, none⟩ = some (.int .u32 (un x)) ∧ BW q g w w1) : w1.drew.cell? ⟨g, j, none⟩ = some (.int .u32 (un x)) ∧ BW q g w w1.drew := LK.keep h (Below.refl _ _).drew
theorem LK.alloc (h : w1.cell? ⟨g, j, none⟩ = some (.int .u32 (un x)) ∧ BW q g w w1) (o : Obj) : (w1.alloc o).cell? ⟨g, j, none⟩ = some (.int .u32 (un x)) ∧ BW q g w (w1.alloc o) := LK.keep h ((Below.refl _ _).alloc (Nat.le_refl _) _)
theorem LK.grown {r : Option Nat} (h : w1.cell? ⟨g, j, none⟩ = some (.int .u32 (un x)) ∧ BW q g w w1) (hg : w1.grownBy w2 r) (hr : ∀ k, r = some k → g + 1 ≤ k) (hw : w.heap.size ≤ g) : w2.cell? ⟨g, j, none⟩ = some (.int .u32 (un x)) ∧ BW q g w w2 := by
  have h2 : Has w2 g 63 (wv q) := h.2.1.grown hg (fun e => by have := hr g e.symm; omega)
  refine ⟨?_, h2, h.2.2.grown hg h.2.2.size (fun k hk => by have := hr k hk; omega)⟩
  rw [h2.cell j, ← h.2.1.cell j]; exact h.1
end

set_option maxHeartbeats 4000000 in
theorem refSum_any (K H : List (BitVec 32)) (l : List (BitVec 8)) (A : Option Addr) (c : Nat) (B : Option Addr) (n d : Nat) (w : World) (hH : H.length = 8) (hKl : K.length = 64) (ho : Ow w A 64 c (K.map vu)) (hl : Sl w B n d l) (hn : n ≤ 2000) :
    Calls Tryz.prog 33 #[.agg (tab A c H), .slice B n d] w fun e w' => ∃ v, e = .returned v ∧ w'.ownsRow w.heap.size 5 1 v 32 ((dig K H l).map vb) ∧ Below w.heap.size w w' := by
  have HH := Hd.mk hH
  have HK := Hd.mk hKl
  have HO := Hd.mk ho
  have HL := Hd.mk hl
  have hT1 := tailLen_lo n
  have hT2 := tailLen_hi n
  clear hH hKl ho hl
  go_enter Tryz.func33, Tryz.ntmps33
  have h0 : Has ((w.alloc (.cells (tab A c H) 65)).alloc (.cells (bv []) 5)) w.heap.size 65 (tab A c H) := (Has.new _ _ _ _ rfl).alloc _
  have hb0 : Below w.heap.size w ((w.alloc (.cells (tab A c H) 65)).alloc (.cells (bv []) 5)) := ((Below.refl _ _).alloc (Nat.le_refl _) _).alloc (by simp) _
  have e0 : Has ((w.alloc (.cells (tab A c H) 65)).alloc (.cells (bv []) 5)) (w.heap.size + 1) 5 (bv []) := Has.new _ _ _ _ (by simp)
  have hs0 : ((w.alloc (.cells (tab A c H) 65)).alloc (.cells (bv []) 5)).heap.size = w.heap.size + 2 := by simp
  have o0 := own_has (base := w.heap.size + 1) e0 rfl (Nat.le_refl _) (Nat.zero_le _)
  have H0 := Hd.mk h0
  have HB0 := Hd.mk hb0
  have O0 := Hd.mk o0
  have S0 := Hd.mk hs0
  clear h0 hb0 e0 o0 hs0
  go_wp2_with (first | (at_builtin; refine wpList_append_sl rfl _ _ 26 rfl (w.heap.size + 1) 5 Tryz.underlying26 infoB _ 0 [] rfl O0.out B n d l rfl (HL.out.keep HB0.out) (by omega) (by simp) ?_; intro v1 w1 hown1 hg1) | fail)
  rw [List.nil_append, Nat.zero_add] at hown1
  have hb1 : Below w.heap.size w w1 := HB0.out.grown hg1 HB0.out.size (fun k hk => by have := own_base O0.out k hk; omega)
  have h1 : Has w1 w.heap.size 65 (tab A c H) := H0.out.grown hg1 (show some w.heap.size ≠ some (w.heap.size + 1) by simp)
  clear hg1 H0 HB0 O0 S0
  have HT1 := Hd.mk h1
  have HB1 := Hd.mk hb1
  have HO1 := Hd.mk hown1
  clear h1 hb1 hown1
  go_wp2_with fail
  refine (refTail_any n _ (by omega)).mono ?_
  rintro e w2 ⟨v2, rfl, hownT, hb2⟩
  have h2 := HT1.out.below hb2 HT1.out.lt
  have hb02 := HB1.out.trans (hb2.mono HB1.out.size)
  have hown2 := own_below HO1.out hb2
  obtain ⟨AT, cT, rfl, hsT⟩ := Sl.of_own hownT
  have HT2 := Hd.mk h2
  have HB2 := Hd.mk hb02
  have HO2 := Hd.mk hown2
  have HS2 := Hd.mk hsT
  clear h2 hb02 hown2 hownT hb2 hsT HT1 HB1 HO1
  have hsz2 : w.heap.size + 1 ≤ w2.heap.size := HT2.out.lt
  go_wp2_with (first | (at_builtin; refine wpList_append_sl rfl _ _ 26 rfl (w.heap.size + 1) 5 Tryz.underlying26 infoB _ n _ rfl HO2.out AT (tailLen n) cT (tailTo n 8) rfl HS2.out (by omega) hsz2 ?_; intro v3 w3 hown3 hg3; have hb3 : Below w.heap.size w w3 := HB2.out.grown hg3 HB2.out.size (fun k hk => by have := own_base HO2.out k hk; omega); have h3 := Hd.mk (HT2.out.grown hg3 (fun e => by have := own_base HO2.out w.heap.size e.symm; omega))) | (refine wpList_load_at rfl 63 _ rfl ⟨w.heap.size, 1, none⟩ rfl _ (load_tabH h3.out HH.out) ?_) | (refine wpList_store_row rfl 63 _ _ rfl w3.heap.size (wv H) rfl rfl 63 zero8 (Has.new _ _ _ _ rfl) (szW8 _ HH.out) (by rw [wv_size, HH.out]; rfl) (wv_one _) ?_) | fail)
  have hln : l.length = n := HL.out.1
  obtain ⟨M, hM⟩ : ∃ M, n + tailLen n = 64 * M := ⟨(n + tailLen n) / 64, by unfold tailLen; omega⟩
  have hpa : pa K (allL l) H M = digW K H l := by
    rw [← pa_all K H l, allL_len, hln, hM, Nat.mul_div_cancel_left _ (by decide)]
  have hlen : (allL l).length = 64 * M := by rw [allL_len, hln, hM]
  rw [← List.map_append, ← hln, show l ++ tailTo l.length 8 = allL l from rfl, hln, hM] at hown3
  obtain ⟨A3, d3, rfl, how3⟩ := Ow.of_own hown3
  obtain ⟨g5, hA3, hcells⟩ := how3.2.2 (by omega)
  subst hA3
  have hg5 : g5 < w3.heap.size := block_lt_of_cell (hcells 0 _ (vb_at (allL l) 0 (by omega)))
  have hb4 : Below w3.heap.size w3 ((w3.alloc (.cells zero8 63)).setRow w3.heap.size (wv H)) := below_row ((Below.refl _ _).alloc (Nat.le_refl _) _) (Nat.le_refl _) _
  have hts : TS K H (allL l) w A c g5 (64 * M) d3 w3.heap.size H ((w3.alloc (.cells zero8 63)).setRow w3.heap.size (wv H)) :=
    ⟨h3.out.below hb4 h3.out.lt, (Has.new _ _ _ _ rfl).row _, how3.keep hb4, HO.out.below (hb3.trans (hb4.mono hb3.size)) (Nat.le_refl _), hb3.trans (hb4.mono hb3.size), h3.out.lt, by omega⟩
  have hM100 : M ≤ 100 := by omega
  have HPA := Hd.mk hpa
  have HLEN := Hd.mk hlen
  have HTS := Hd.mk hts
  clear hown3 hg3 hb3 h3 how3 hcells hg5 hb4 hpa hlen hts HT2 HB2 HO2 HS2 hln hsz2 hT1 hT2 hM HL
  generalize allL l = L at *
  go_wp2
  go_loopw [7] (fun i wr => ∃ k : Nat, k ≤ M ∧ i = .int .i64 ((64 * k : Nat) : Int) ∧ TS K H L w A c g5 (64 * M) d3 w3.heap.size (pa K L H k) wr) (fun i _ => 64 * M - (intOf i).toNat)
  case atStart => exact ⟨0, by omega, rfl, HTS.out⟩
  case round =>
    clear HTS
    obtain ⟨k, hk, rfl, hs⟩ := hrel
    obtain ⟨q, hq⟩ : ∃ q, pa K L H k = q := ⟨_, rfl⟩
    have hql : q.length = 8 := by rw [← hq]; exact pa_len _ _ _ HH.out _
    rw [hq] at hs
    have HQL := Hd.mk hql
    by_cases hlt : k < M
    · have hnx : pa K L H (k + 1) = press K (blk L k) q := by rw [← hq]; rfl
      have hbl := btTo_blk L k (by have := HLEN.out; omega)
      have HBL := Hd.mk hbl
      have HNX := Hd.mk hnx
      have HS := Hd.mk hs
      clear hnx hbl hs hq hql
      obtain ⟨a, ha⟩ : ∃ a, a = 64 * k := ⟨_, rfl⟩
      obtain ⟨m, hm⟩ : ∃ m, m = 64 * M := ⟨_, rfl⟩
      rw [← ha, ← hm]
      have ham : a + 64 ≤ m := by omega
      have hm2 : m ≤ 6400 := by omega
      rw [← hm] at HS HLEN
      have HA := Hd.mk ha
      have HM := Hd.mk hm
      clear ha hm
      have hz : Has (wr.alloc (.cells (bv (zb 64)) 88)) wr.heap.size 88 (bv (btTo L k 0)) := Has.new _ _ _ _ rfl
      have hbz : Below wr.heap.size wr (wr.alloc (.cells (bv (zb 64)) 88)) := (Below.refl _ _).alloc (Nat.le_refl _) _
      have HZ := Hd.mk hz
      have HBZ := Hd.mk hbz
      clear hz hbz
      go_wp2
      obtain ⟨wo, rfl⟩ : ∃ wo : World, wo = wr := ⟨_, rfl⟩
      go_loopw [9] (fun i wi => ∃ j : Nat, j ≤ 64 ∧ i = .int .i64 j ∧ Has wi wo.heap.size 88 (bv (btTo L k j)) ∧ Below wo.heap.size wo wi) (fun i _ => 64 - (intOf i).toNat)
      case atStart => exact ⟨0, by omega, rfl, HZ.out, HBZ.out⟩
      case round =>
        clear HZ HBZ
        obtain ⟨j, hj, rfl, hg, hb⟩ := hrel
        by_cases hlj : j < 64
        · have how := HS.out.row.keep hb
          obtain ⟨g5', e5, hcells⟩ := how.2.2 (by omega)
          obtain rfl : g5 = g5' := by cases e5; rfl
          have hc5 := hcells (a + j) _ (vb_at L (a + j) (by rw [HLEN.out]; omega))
          have hc8 := (hg.cell j).trans (bv_at _ j (by rw [btTo_len]; exact hlj))
          have hf8 := hg.frozen j
          have hnb := btTo_succ L k j
          rw [← HA.out] at hnb
          have HNB := Hd.mk hnb
          have HG := Hd.mk hg
          have HB := Hd.mk hb
          have hsum : IntKind.i64.wrap ((a : Int) + (j : Int)) = (a : Int) + (j : Int) := IntWalk.i64_in _ (by omega)
          have b0 : 0 ≤ (a : Int) + (j : Int) := by omega
          have b1 : (a : Int) + (j : Int) < (m : Int) := by omega
          have b2 : ((a : Int) + (j : Int)).toNat = a + j := by omega
          clear how hcells hnb hg hb e5
          go_wp2
          go_roundw
          case rel =>
            refine ⟨j + 1, by omega, by go_num, ?_, HB.out.setCell (Nat.le_refl _) _⟩
            rw [HNB.out, ← bv_set]
            exact HG.out.set j _
          case measure => simp [intOf]; omega
        · obtain rfl : j = 64 := by omega
          rw [HBL.out] at hg
          have hs6 := HS.out.keep hb
          have HS6 := Hd.mk hs6
          have hblk := blk_len L k (by have := HLEN.out; have := HA.out; omega)
          have HBK := Hd.mk hblk
          have hct := hs6.tab.cell 0
          rw [show (tab A c H)[0]? = some (.slice A 64 c) from rfl] at hct
          clear hs6 HBL hblk hb
          go_wp2_with (first | (refine wpList_load_row rfl 63 _ rfl w3.heap.size rfl 63 _ (0, 0) _ HS6.out.words Tryz.underlying63 rfl (szW8 _ HQL.out) ?_) | (refine wpList_load_row rfl 88 _ rfl wo.heap.size rfl 88 _ (0, 0) _ hg Tryz.underlying88 rfl (szB64 _ HBK.out) ?_) | (go_at_call 57; refine (refPress_any A c K q (blk L k) _ HK.out HS6.out.con HQL.out HBK.out).mono ?_; rintro e w7 ⟨rfl, hb7⟩) | (refine wpList_store_row rfl 63 _ _ rfl w3.heap.size _ rfl rfl 63 _ (HS6.out.keep hb7).words (szW8 _ (press_len _ _ _ HQL.out)) (by rw [wv_size, wv_size, press_len _ _ _ HQL.out, HQL.out]) (wv_one _) ?_) | fail)
          go_roundw
          case rel =>
            refine ⟨k + 1, by omega, ?_, ?_⟩
            · exact congrArg (Value.int .i64) (by have := HA.out; omega)
            · rw [HNX.out]
              exact (HS6.out.keep hb7).set HO.out _
          case measure => simp [intOf]; omega
    · obtain rfl : k = M := by omega
      have hqd : digW K H l = q := by rw [← HPA.out]; exact hq
      have hdd : dig K H l = digTo q 8 := by unfold dig; rw [hqd]
      have HDD := Hd.mk hdd
      have hwr := hs.words
      have hbw := hs.bel
      have hlo := hs.lo
      clear hqd hdd hq hs HPA HLEN HO HH hql
      generalize w3.heap.size = g at *
      obtain ⟨a, ha⟩ : ∃ a, a = 64 * k := ⟨_, rfl⟩
      rw [← ha]
      clear ha
      go_wp2
      go_loopw [10, 11] (fun v i wi => ∃ j : Nat, j ≤ 8 ∧ i = .int .i64 j ∧ wi.ownsRow (g + 1) 5 1 v (4 * j) ((digTo q j).map vb) ∧ Has wi g 63 (wv q) ∧ Below w.heap.size w wi) (fun _ i _ => 8 - (intOf i).toNat)
      case atStart => exact ⟨0, by omega, rfl, own_nil _ _ _, hwr, hbw⟩
      case round =>
        clear hwr hbw
        obtain ⟨j, hj, rfl, hown, hg, hb⟩ := hrel
        by_cases hlj : j < 8
        · go_wp2
          obtain ⟨Av, cv, rfl, _⟩ := Sl.of_own hown
          have hdg : digTo q (j + 1) = digTo q j ++ bytes4 (gw q j) := rfl
          have hx := (hg.cell j).trans (wv_at q j (by rw [HQL.out]; exact hlj))
          have HDG := Hd.mk hdg
          clear hdg
          generalize gw q j = x at *
          have hlk : (fun w' : World => w'.cell? ⟨g, j, none⟩ = some (.int .u32 (un x)) ∧ BW q g w w') wr := ⟨hx, hg, hb⟩
          have bk0 : (0 : Int) ≤ (j : Int) := by omega
          have bk : (j : Int) < 8 := by omega
          have q24 : IntKind.u32.wrap ((un x).tdiv 16777216) = un (x >>> 24) := by rw [Int.tdiv_eq_ediv_of_nonneg (un_lo x), un_shr24, wrap_un]
          have q16 : IntKind.u32.wrap ((un x).tdiv 65536) = un (x >>> 16) := by rw [Int.tdiv_eq_ediv_of_nonneg (un_lo x), un_shr16, wrap_un]
          have q8 : IntKind.u32.wrap ((un x).tdiv 256) = un (x >>> 8) := by rw [Int.tdiv_eq_ediv_of_nonneg (un_lo x), un_shr8, wrap_un]
          have c24 : IntKind.u8.wrap (un (x >>> 24)) = ub (b8 (x >>> 24)) := by rw [IntKind.wrap_u8, un_b8]
          have c16 : IntKind.u8.wrap (un (x >>> 16)) = ub (b8 (x >>> 16)) := by rw [IntKind.wrap_u8, un_b8]
          have c8 : IntKind.u8.wrap (un (x >>> 8)) = ub (b8 (x >>> 8)) := by rw [IntKind.wrap_u8, un_b8]
          have c0 : IntKind.u8.wrap (un x) = ub (b8 x) := by rw [IntKind.wrap_u8, un_b8]
          have hsz : g + 1 ≤ wr.heap.size := hg.lt
          have hle : w.heap.size ≤ g := Nat.le_of_lt hlo
          have hbs := hb.size
          have HOWN := Hd.mk (own_below hown (Below.refl _ _).drew)
          clear hown hg hb hx
          go_region_held3 (fun w' : World => w'.cell? ⟨g, j, none⟩ = some (.int .u32 (un x)) ∧ BW q g w w') (first | exact LK.drew (by assumption) | exact LK.alloc (by assumption) _ | exact LK.grown (by assumption) (by assumption) (by assumption) (by assumption)) ((rw [if_pos (by rfl)]; refine wp_append_has _ _ 26 rfl (g + 1) 5 Tryz.underlying26 infoB _ (4 * j) _ rfl (HOWN.out.alloc _) wr.heap.size 5 (bytes4 x) 4 rfl (Has.new _ _ _ _ rfl) rfl (by omega) (Nat.le_trans hsz (by simp [World.drew])) ?_; intro v8 w8 hown8 hg8; have hr8 := own_base HOWN.out))
          have hB : BW q g w w8 := (show w8.cell? ⟨g, j, none⟩ = some (.int .u32 (un x)) ∧ BW q g w w8 by assumption).2
          have HB8 := Hd.mk hB
          have HO8 := Hd.mk hown8
          clear hown8 hg8 hr8 HOWN hlk q24 q16 q8 c24 c16 c8 c0 hB
          go_wp2
          go_roundw
          case rel =>
            refine ⟨j + 1, by omega, by go_num, ?_, HB8.out.1, HB8.out.2⟩
            rw [HDG.out, List.map_append, show 4 * (j + 1) = 4 * j + 4 by omega]
            exact HO8.out
          case measure => simp [intOf]; omega
        · obtain rfl : j = 8 := by omega
          go_wp2
          go_ret
          exact ⟨_, rfl, by rw [HDD.out]; exact own_mono hown (by omega), hb⟩
end Go.Proofs.YticggkllfojgkaaGreatDoor
namespace Go.Proofs.YticggkllfojgkaaGreatDoor
open Go Go.RowKit
set_option maxRecDepth 4000

/-- the reference's constants lie there -/
structure Tab (w : World) (A : Option Addr) (c : Nat) : Prop where
  o : Ow w A 64 c (KK.map vu)
theorem Tab.ext {w w' : World} {A : Option Addr} {c : Nat} (h : Tab w A c) (hx : Ext w w') : Tab w' A c := ⟨h.o.keep hx.b⟩
theorem made_fr (w : World) : Calls Tryz.prog 32 #[] w fun e w' => ∃ A c, e = .returned (.agg (tab A c HH)) ∧ Tab w' A c ∧ Ext w w' := by
  refine (Made_gen KK HH HH_len Constants_any Beginning_any w).mono ?_
  rintro e w' ⟨A, c, rfl, ho, hb⟩
  exact ⟨A, c, rfl, ⟨ho⟩, ⟨hb⟩⟩
theorem refsum_fr {A B : Option Addr} {c n d : Nat} {l : List (BitVec 8)} {w : World} (ht : Tab w A c) (hl : Bs w B n d l) (hn : n ≤ 2000) :
    Calls Tryz.prog 33 #[.agg (tab A c HH), .slice B n d] w (Fresh w 32 (dgH l)) := by
  refine (refSum_any KK HH l A c B n d w HH_len KK_len ht.o hl.s hn).mono ?_
  rintro e w' ⟨v, rfl, ho, hb⟩
  exact fresh_of ho hb
/-- the load of the tables, behind a name: the walk doesn't open it cell by cell -/
def loadT (v : Value) : Sem Value := Instr.loadAt 65 v
theorem loadT_eq (v : Value) : Instr.loadAt 65 v = loadT v := rfl
theorem run_loadT {w w' : World} {g : Nat} {A : Option Addr} {c : Nat} (h : Blk w g 65 (tab A c HH)) (hx : Ext w w') : (loadT (.pointer (some ⟨g, 0, none⟩))).run Tryz.prog w' = .ok (.agg (tab A c HH)) w' :=
  run_loadAt_mid w' g 0 65 (tab A c HH).toList _ (fun j v hv => by
    rw [Nat.zero_add, (h.ext hx).h.cell j, ← hv]
    simp) Tryz.underlying65 rfl (tab_size A c HH)
end Go.Proofs.YticggkllfojgkaaGreatDoor
namespace Go.Proofs.YticggkllfojgkaaGreatDoor
open Go Go.RowKit
set_option maxRecDepth 4000

section
variable {A B : Option Addr} {n c N : Nat} {w : World} {lb : List (BitVec 8)}
theorem rep_succ (k : Nat) (x : BitVec 8) : List.replicate k x ++ [x] = List.replicate (k + 1) x := by
  rw [List.replicate_succ']
set_option maxHeartbeats 4000000 in
theorem Laid_any (hb : Bs w A n c lb) (hn : n ≤ 2000) (h62 : 62 ≤ N) (h128 : N ≤ 128) : Calls Tryz.prog 12 #[.slice A n c, .int .i64 (N : Int)] w (Fresh w N (sgL (dgH lb) N)) := by
  have HB := Kp.mk hb
  have HO := Kp.mk (Own.lit2 w 0 1 w.heap.size (Nat.le_refl _))
  obtain ⟨K, hK⟩ : ∃ K, N - 54 = K := ⟨_, rfl⟩
  have d1 : (N : Int) - 54 = (K : Int) := by omega
  have w1' : IntKind.i64.wrap ((N : Int) - 54) = (K : Int) := by rw [IntKind.wrap_i64]; omega
  have w2' : IntKind.i64.wrap (K : Int) = (K : Int) := by rw [IntKind.wrap_i64]; omega
  have HK := Kp.mk hK
  have HN := Kp.mk (show 2 + K + 20 + 32 = N by omega)
  have hk : K ≤ 100 := by omega
  clear hb hK h62 h128
  go_enter Tryz.func12, Tryz.ntmps12
  go_wp2_with fail
  go_loopw [5, 6] (fun ov iv wr => ∃ i : Nat, i ≤ K ∧ iv = .int .i64 (i : Int) ∧ (∃ A c, ov = .slice A (2 + i) c) ∧ Own wr w.heap.size ov (2 + i) ([0, 1] ++ List.replicate i 255) ∧ Ext w wr) (fun _ iv _ => K - (intOf iv).toNat)
  case atStart => exact ⟨0, by omega, rfl, ⟨_, _, rfl⟩, HO.out, (by (repeat (first | assumption | exact Ext.refl _ | apply Ext.drew | apply Ext.drewN | apply Ext.alloc | refine Ext.trans ?_ (by assumption))); first | done | fail)⟩
  case round =>
    obtain ⟨i, hi, rfl, ⟨Ao, co, rfl⟩, ho, hx⟩ := hrel
    have b2 : (i : Int) < 2000000 := by omega
    have HRO := Kp.mk ho
    have HX := Kp.mk hx
    by_cases hlt : i < K
    · have b0 : (i : Int) < (K : Int) := by omega
      have HT := Kp.mk (show ([0, 1] ++ List.replicate i 255) ++ [255] = [0, 1] ++ List.replicate (i + 1) (255 : BitVec 8) by rw [List.append_assoc, rep_succ])
      have HL := Kp.mk (fun (W : World) => lit_bytes W [255] #[.int .u8 255] 1 rfl rfl W.heap.size rfl)
      clear ho hx
      go_wp2_with (first | (at_builtin; refine wpList_append_bs rfl (.tmp 14) (.tmp 15) rfl w.heap.size (.slice Ao (2 + i) co) (2 + i) _ rfl (HRO.out.ext (by (repeat (first | assumption | exact Ext.refl _ | apply Ext.drew | apply Ext.drewN | apply Ext.alloc | refine Ext.trans ?_ (by assumption))); first | done | fail)) _ 1 1 [255] rfl (HL.out _) (by omega) (2 + (i + 1)) (by omega) _ HT.out w (HX.out.trans (by (repeat (first | assumption | exact Ext.refl _ | apply Ext.drew | apply Ext.drewN | apply Ext.alloc | refine Ext.trans ?_ (by assumption))); first | done | fail)) (Nat.le_refl _) (HX.out.trans (by (repeat (first | assumption | exact Ext.refl _ | apply Ext.drew | apply Ext.drewN | apply Ext.alloc | refine Ext.trans ?_ (by assumption))); first | done | fail)).size ?_; intro A5 c5 w5 ho5 hx5 _) | fail)
      go_roundw
      case rel => exact ⟨i + 1, by omega, by go_num, ⟨_, _, rfl⟩, ho5, hx5⟩
      case measure => simp [intOf]; omega
    · obtain rfl : i = K := by omega
      have b0 : decide ((i : Int) < (i : Int)) = false := decide_eq_false (by omega)
      have HL := Kp.mk (fun (W : World) => lit_bytes W (0 :: aheadL) #[.int .u8 0, .int .u8 48, .int .u8 49, .int .u8 48, .int .u8 13, .int .u8 6, .int .u8 9, .int .u8 96, .int .u8 134, .int .u8 72, .int .u8 1, .int .u8 101, .int .u8 3, .int .u8 4, .int .u8 2, .int .u8 1, .int .u8 5, .int .u8 0, .int .u8 4, .int .u8 32] 20 rfl rfl W.heap.size rfl)
      clear ho hx hlt
      go_wp2_with (first | (at_builtin; refine wpList_append_bs rfl (.tmp 17) (.tmp 18) rfl w.heap.size (.slice Ao (2 + i) co) (2 + i) _ rfl (HRO.out.ext (by (repeat (first | assumption | exact Ext.refl _ | apply Ext.drew | apply Ext.drewN | apply Ext.alloc | refine Ext.trans ?_ (by assumption))); first | done | fail)) _ 20 20 (0 :: aheadL) rfl (HL.out _) (by omega) (2 + i + 20) rfl _ rfl w (HX.out.trans (by (repeat (first | assumption | exact Ext.refl _ | apply Ext.drew | apply Ext.drewN | apply Ext.alloc | refine Ext.trans ?_ (by assumption))); first | done | fail)) (Nat.le_refl _) (HX.out.trans (by (repeat (first | assumption | exact Ext.refl _ | apply Ext.drew | apply Ext.drewN | apply Ext.alloc | refine Ext.trans ?_ (by assumption))); first | done | fail)).size ?_; intro A5 c5 w5 ho5 hx5 _) | fail)
      have H5 := Kp.mk ho5
      have X5 := Kp.mk hx5
      clear ho5 hx5
      refine (made_fr _).mono ?_
      rintro e w6 ⟨A6, c6, rfl, t6, x6⟩
      have T6 := Kp.mk t6
      clear t6
      go_wp2_with fail
      refine (refsum_fr T6.out (HB.out.ext (X5.out.trans (by (repeat (first | assumption | exact Ext.refl _ | apply Ext.drew | apply Ext.drewN | apply Ext.alloc | refine Ext.trans ?_ (by assumption))); first | done | fail))) hn).mono ?_
      rintro e w7 ⟨A7, c7, rfl, s7, _, x7⟩
      have S7 := Kp.mk s7
      have X7 := Kp.mk (X5.out.trans (show Ext w5 w7 from (by (repeat (first | assumption | exact Ext.refl _ | apply Ext.drew | apply Ext.drewN | apply Ext.alloc | refine Ext.trans ?_ (by assumption))); first | done | fail)))
      have HE := Kp.mk (show ([0, 1] ++ List.replicate i 255 ++ (0 :: aheadL)) ++ dgH lb = sgL (dgH lb) N by rw [show (sgL (dgH lb) N) = [0, 1] ++ List.replicate (N - 54) 255 ++ [0] ++ (aheadL ++ dgH lb) from rfl, HK.out]; simp)
      have H7 := Kp.mk (H5.out.ext (show Ext w5 w7 from (by (repeat (first | assumption | exact Ext.refl _ | apply Ext.drew | apply Ext.drewN | apply Ext.alloc | refine Ext.trans ?_ (by assumption))); first | done | fail)))
      clear s7 x6 x7
      go_wp2_with (first | (at_builtin; refine wpList_append_bs rfl (.tmp 20) (.tmp 23) rfl w.heap.size (.slice A5 (2 + i + 20) c5) (2 + i + 20) _ rfl H7.out _ 32 c7 (dgH lb) rfl S7.out (by omega) N HN.out _ HE.out w X7.out (Nat.le_refl _) X7.out.size ?_; intro A8 c8 w8 ho8 hx8 _) | fail)
      go_ret
      exact ⟨A8, c8, rfl, ho8.bs, ho8, hx8⟩
end
end Go.Proofs.YticggkllfojgkaaGreatDoor
namespace Go.Proofs.YticggkllfojgkaaGreatDoor
open Go Go.RowKit
set_option maxRecDepth 4000

theorem InvVlong {w : World} {A B : Option Addr} {n c m d va vb : Nat} (ha : Nv w A n c va) (hb : Nv w B m d vb) (h : lng va ∨ lng vb) : Calls Tryz.prog 63 #[.slice A n c, .slice B m d] w (Bad1 w 4) := by
  obtain ⟨a, ha, rfl⟩ := ha
  obtain ⟨b, hb, rfl⟩ := hb
  exact Inv_long ha hb h
theorem gcd_mod (m a : Nat) : Nat.gcd m (a % m) = Nat.gcd m a := by rw [Nat.gcd_comm, ← Nat.gcd_rec]
theorem one_dg {v : Nat} (h : (dgs 65536 v).length = 1) : dg (dgs 65536 v) 0 = v := by
  have h1 := vl_take_all 65536 (dgs 65536 v) 1 (by omega)
  rw [show (1 : Nat) = 0 + 1 from rfl, vl_take_succ, vl_dgs (by decide)] at h1
  simpa [vl] using h1
/-- Euclid's way ends -/
theorem Eu.ends {a m : Nat} (hm : 2 ≤ m) (hg : Nat.gcd m a = 1) : ∀ (y x p q : Nat) (s : Bool), Eu a m x y p q s → ∃ v, v < m ∧ v * a % m = 1 := by
  intro y
  induction y using Nat.strongRecOn with
  | _ y ih =>
    intro x p q s h
    rcases Nat.eq_zero_or_pos y with hy | hy
    · subst hy
      have h1 := h.last
      rw [hg] at h1
      subst h1
      exact ⟨_, h.one hm⟩
    · exact ih (x % y) (Nat.mod_lt x hy) y q _ _ (h.next hy)
theorem invN_spec {a m : Nat} (hm : 2 ≤ m) (hg : Nat.gcd m a = 1) : invN a m < m ∧ invN a m * a % m = 1 := by
  obtain ⟨v, h1, h2⟩ := Eu.ends hm hg a m 0 1 true (Eu.start hm)
  have e := invN_eq h1 h2
  rw [← e]
  exact ⟨h1, h2⟩
end Go.Proofs.YticggkllfojgkaaGreatDoor
