/-
  The walk of the law ShaGoes.
-/
import Derived.Test.YtkjfhgbpiogigaaDoorLf
import Derived.Laws.CopyOwn
namespace Go.Proofs.YtkjfhgbpiogigaaDoor
open Go Go.RowKit

/-- copy as one step of a region -/
theorem wp_copy_splice {P : Program} {o : Oper} {a : Act} {w : World} {K : Act → World → Prop} {Q : Exit → Act → World → Prop} (d s : Operand) (dT sT : TypeId)
    (ho : o.op = .call { callee := .builtin .copy, args := #[d, s], argTypes := #[dT, sT] }) (elem : TypeId) (hu : P.underlying dT = some (.slice elem)) (hsz : (P.info? elem).map (·.size) = some 1)
    (dp sp : Option Addr) (dLen dCap sLen sCap : Nat) (hd : a.eval d = .slice dp dLen dCap) (hs : a.eval s = .slice sp sLen sCap)
    (g off : Nat) (cur : List Value) (t : TypeId) (hg : w.heap[g]? = some (.cells cur.toArray t (0, 0))) (cs : List Value) (hn : cs.length = Nat.min sLen dLen)
    (hpos : 0 < cs.length → dp = some ⟨g, off, none⟩ ∧ ∃ ad, sp = some ad ∧ ∀ j v, cs[j]? = some v → w.cell? (ad.add j) = some v)
    (hfit : off + cs.length ≤ cur.length) (h1 : ∀ v ∈ cs, v.oneCell' = true) (B : Nat) (w0 : World) (hb : RowKit.Below B w0 w) (hBg : B ≤ g)
    (h : ∀ w', RowKit.Hid (w'.heap[g]? = some (.cells (splice cur off cs).toArray t (0, 0))) → RowKit.Below B w0 w' → K (a.put o.dst (goInt cs.length)) w') :
    Oper.wp P o a w K Q := by
  by_cases h0 : cs.length = 0
  · obtain rfl : cs = [] := List.eq_nil_of_length_eq_zero h0
    have hrun := run_copy_none (P := P) w dT sT o.type elem dp sp dLen dCap sLen sCap hu hsz (by simpa using hn.symm)
    unfold Oper.wp
    simp [execOp, ho, resolve, invoke, builtin, hd, hs, hrun, Result.andThen]
    exact h w (show _ = _ by simpa [splice] using hg) hb
  · obtain ⟨rfl, ad, rfl, hsrc⟩ := hpos (by omega)
    have hrun := run_copy_row (P := P) w dT sT o.type elem g off dLen dCap ad sLen sCap cur.toArray t cs hu hsz hg hn hsrc (by simpa using hfit) h1
    unfold Oper.wp
    simp [execOp, ho, resolve, invoke, builtin, hd, hs, hrun, Result.andThen]
    exact h _ (show _ = _ by simpa [splice] using setRow_heap w g _ _ t _ hg) (below_setRow hb hBg _)

/-- a slice cut on both sides -/
theorem run_mid {P : Program} (g o : Nat) (n c t e : Nat) (ht : P.underlying t = some (.slice e)) (hs : (P.info? e).map (·.size) = some 1) (k m z c' o' : Nat) (hz : m = k + z) (hc : c = k + c') (ho : o' = o + k) (hz0 : 0 < z) (hm : m ≤ c) (w : World) :
    (Instr.sliceAt t (.slice (some ⟨g, o, none⟩) n c) (some (.int .i64 (k : Int))) (some (.int .i64 (m : Int))) none).run P w = .ok (.slice (some ⟨g, o', none⟩) z c') w := by
  have hadd : (⟨g, o, none⟩ : Addr).add k = ⟨g, o', none⟩ := by subst ho; unfold Addr.add; split <;> simp_all
  have hck : ¬ c = k := by omega
  have hkm : k ≤ m := by omega
  have e1 : m - k = z := by omega
  have e2 : c - k = c' := by omega
  cases hq : P.info? e with
  | none => simp [hq] at hs
  | some i =>
    have hs1 : i.size = 1 := by simpa [hq] using hs
    simp [Instr.sliceAt, Instr.slice, run_underlying ht, Instr.sliceBounds, Instr.sliceBound, asIntOf, sizeOf, typeInfo, hq, hs1, hm, hkm, hck, hadd, e1, e2]
theorem run_whole (g : Nat) (w : World) : (Instr.sliceAt 22 (.pointer (some ⟨g, 0, none⟩)) none none none).run Tryd.prog w = .ok (.slice (some ⟨g, 0, none⟩) 64 64) w := by
  go_simp

/-- what the loop over the blocks keeps: the words, the row of all bytes -/
structure GS (L : List (BitVec 8)) (w : World) (g5 m d g : Nat) (q : List (BitVec 32)) (wr : World) : Prop where
  words : Has wr g 28 (wv q)
  row : Ow wr (some ⟨g5, 0, none⟩) m d (L.map vb)
  bel : Below w.heap.size w wr
  lo : w.heap.size ≤ g
  off : g5 ≠ g
section
variable {L : List (BitVec 8)} {w : World} {g5 m d g : Nat} {q : List (BitVec 32)} {wr w1 : World}
theorem GS.keep (h : GS L w g5 m d g q wr) (hb : Below wr.heap.size wr w1) : GS L w g5 m d g q w1 :=
  ⟨h.words.below hb h.words.lt, h.row.keep hb, h.bel.trans (hb.mono h.bel.size), h.lo, h.off⟩
theorem GS.set (h : GS L w g5 m d g q wr) (p : List (BitVec 32)) : GS L w g5 m d g p (wr.setRow g (wv p)) := by
  have hb : Below w.heap.size w (wr.setRow g (wv p)) := below_row h.bel h.lo _
  refine ⟨h.words.row _, ?_, hb, h.lo, h.off⟩
  refine ⟨h.row.1, h.row.2.1, fun hn => ?_⟩
  obtain ⟨g', e, hc⟩ := h.row.2.2 hn
  have e' : g5 = g' := by cases e; rfl
  refine ⟨g', e, fun j x hx => ?_⟩
  have h1 := hc j x hx
  have hne : g' ≠ g := by rw [← e']; exact h.off
  unfold World.cell? at h1 ⊢
  rw [setRow_other wr g g' (wv p) hne]
  exact h1
end

theorem blk_get (L : List (BitVec 8)) (k j : Nat) (v : Value) (h : ((blk L k).map vb)[j]? = some v) : (L.map vb)[64 * k + j]? = some v := by
  unfold blk at h
  rw [List.getElem?_map, List.getElem?_take] at h
  split at h
  · rw [List.getElem?_drop] at h
    rw [List.getElem?_map]; exact h
  · cases h
theorem one_vb (l : List (BitVec 8)) : ∀ v ∈ l.map vb, v.oneCell' = true := fun v hv => by
  obtain ⟨b, _, rfl⟩ := List.mem_map.1 hv
  rfl
theorem splice_all (x y : List (BitVec 8)) (h : x.length = y.length) : splice (x.map vb) 0 (y.map vb) = y.map vb := by
  unfold splice
  rw [List.take_zero, List.nil_append, List.drop_eq_nil_of_le (by simp; omega), List.append_nil]
/-- the block's copy: what is kept meanwhile -/
def BS (L : List (BitVec 8)) (w : World) (g5 m d g : Nat) (q : List (BitVec 32)) (wo wr : World) : Prop := GS L w g5 m d g q wr ∧ Below wo.heap.size wo wr
section
variable {L : List (BitVec 8)} {w : World} {g5 m d g : Nat} {q : List (BitVec 32)} {wo wr w1 : World}
theorem BS.drew (h : BS L w g5 m d g q wo wr) : BS L w g5 m d g q wo wr.drew := ⟨h.1.keep (Below.refl _ _).drew, h.2.drew⟩
theorem BS.behind (h : GS L w g5 m d g q wo) (hb : Below wo.heap.size wo wr) : BS L w g5 m d g q wo wr := ⟨h.keep hb, hb⟩
end
theorem gb_append (x y : List (BitVec 8)) (i : Nat) : gb (x ++ y) i = if i < x.length then gb x i else gb y (i - x.length) := by
  unfold gb
  rw [List.getD_eq_getElem?_getD, List.getD_eq_getElem?_getD, List.getD_eq_getElem?_getD, List.getElem?_append]
  split <;> rfl
theorem digTo_at (q : List (BitVec 32)) (k d r : Nat) (hd : d < k) (hr : r < 4) : gb (digTo q k) (4 * d + r) = b8 (gw q d >>> (24 - 8 * r)) := by
  induction k with
  | zero => omega
  | succ k ih =>
    rw [digTo, gb_append, digTo_len]
    by_cases h : d < k
    · rw [if_pos (by omega)]; exact ih h
    · obtain rfl : d = k := by omega
      rw [if_neg (by omega), show 4 * d + r - 4 * d = r by omega]
      match r, hr with
      | 0, _ => rfl
      | 1, _ => rfl
      | 2, _ => rfl
      | 3, _ => simp [bytes4, gb]
/-- the words and the digest's row, to be read -/
def DS (q : List (BitVec 32)) (gv g8 : Nat) (w wi : World) : Prop :=
  (∀ j, j < 8 → wi.cell? ⟨gv, j, none⟩ = some (.int .u32 (un (gw q j)))) ∧ (∀ j, j < 32 → wi.cell? ⟨g8, j, none⟩ = some (.int .u8 (ub (gb (digTo q 8) j)))) ∧ Below w.heap.size w wi
theorem DS.drewN {q : List (BitVec 32)} {gv g8 : Nat} {w wi : World} (h : DS q gv g8 w wi) (n : Nat) : DS q gv g8 w (wi.drewN n) := ⟨h.1, h.2.1, below_drewN h.2.2 _⟩
set_option maxHeartbeats 4000000 in
theorem ShaGoes_any (l0 : List (BitVec 8)) (A : Option Addr) (n0 c : Nat) (w : World) (hl0 : Sl w A n0 c l0) (hw : Laid w) :
    Calls Tryd.prog 9 #[.slice A n0 c] w fun e w' => e = .returned (.bool true) ∧ Below w.heap.size w w' := by
  have HL0 := Hd.mk hl0
  have HW := Hd.mk hw
  clear hl0 hw
  go_enter Tryd.func9, Tryd.ntmps9
  go_wp2_with fail
  refine (up_any _ HW.out).mono ?_
  rintro e w1 ⟨rfl, hb1⟩
  have HB1 := Hd.mk hb1
  clear hb1
  go_wp2_with fail
  refine (cut_any 3000 3000 n0 c A l0 _ (HL0.out.keep HB1.out) rfl).mono ?_
  rintro e w1' ⟨n, rfl, hn, hl, rfl⟩
  obtain ⟨l, hll⟩ : ∃ l, l0.take n = l := ⟨_, rfl⟩
  have hlw : Sl w A n c l := by
    rw [← hll]
    exact HL0.out.take n (by have := hl.1; rw [List.length_take] at this; have := HL0.out.1; omega)
  rw [hll] at hl
  have HLW := Hd.mk hlw
  clear hlw
  have HL := Hd.mk hl
  have hT1 := tailLen_lo n
  have hT2 := tailLen_hi n
  clear hl hll HL0
  go_wp2_with fail
  refine (Tail_ok n _ (by omega)).mono ?_
  rintro e w2 ⟨rfl, hT, hb2⟩
  have HB2 := Hd.mk (HB1.out.trans (hb2.mono HB1.out.size))
  have HT := Hd.mk hT
  have HL2 := Hd.mk (HL.out.keep hb2)
  clear hT hb2 HB1 HL
  have e0 : Has (w2.alloc (.cells (bv []) 5)) w2.heap.size 5 (bv []) := Has.new _ _ _ _ rfl
  have hb3 : Below w2.heap.size w2 (w2.alloc (.cells (bv []) 5)) := (Below.refl _ _).alloc (Nat.le_refl _) _
  have O0 := Hd.mk (own_has (base := w2.heap.size) e0 rfl (Nat.le_refl _) (Nat.zero_le _))
  have HB3 := Hd.mk hb3
  clear e0 hb3
  have hln : l.length = n := HL2.out.1
  obtain ⟨M, hM⟩ : ∃ M, 0 + n + tailLen n = 64 * M := ⟨(n + tailLen n) / 64, by unfold tailLen; omega⟩
  have hpa : pa KK (allL l) HH M = digW KK HH l := by
    rw [← pa_all KK HH l, allL_len, hln, show n + tailLen n = 64 * M by omega, Nat.mul_div_cancel_left _ (by decide)]
  have hlen : (allL l).length = 64 * M := by rw [allL_len, hln]; omega
  have hE : ([] ++ l.map vb) ++ (tailTo n 8).map vb = (allL l).map vb := by rw [List.nil_append, ← List.map_append, ← hln]; rfl
  obtain ⟨m, hm⟩ : ∃ m, m = 64 * M := ⟨_, rfl⟩
  rw [← hm] at hM hlen
  have hm0 : 0 < m := by omega
  have hm2 : m ≤ 3200 := by omega
  have hrem : (m : Int) % 64 = 0 := by omega
  have HMM := Hd.mk hm
  have HM := Hd.mk hM
  have HPA := Hd.mk hpa
  have HLEN := Hd.mk hlen
  have HE := Hd.mk hE
  have HLN := Hd.mk hln
  have HLB := HL2
  clear hm hM hpa hlen hE hln
  go_wp2_with (first | (at_builtin; refine wpList_append_sl rfl (.tmp 21) _ 36 rfl w2.heap.size 5 Tryd.underlying36 infoB _ 0 [] rfl O0.out A n c l rfl (HL2.out.keep HB3.out) (by omega) (by simp) ?_; intro v3 w3 hown3 hg3; have HB4 := Hd.mk (HB3.out.grown hg3 HB3.out.size (own_base O0.out)); have HT4 := Hd.mk (HT.out.below HB4.out HT.out.lt); have HO4 := Hd.mk hown3; clear hown3 hg3 O0 HB3) | (at_builtin; refine wpList_append_sl rfl (.tmp 23) _ 36 rfl w2.heap.size 5 Tryd.underlying36 infoB _ (0 + n) _ rfl HO4.out _ (tailLen n) (tailLen n) (tailTo n 8) rfl (sl_has HT4.out (tailTo_len n 8) (Nat.le_refl _)) (by omega) HB4.out.size ?_; intro v5 w5 hown5 hg5; have HB5 := Hd.mk (HB4.out.grown hg5 HB4.out.size (own_base HO4.out)); rw [HE.out, HM.out] at hown5; obtain ⟨A5, d5, rfl, how5⟩ := Ow.of_own hown5; obtain ⟨g5, hA5, hcells⟩ := how5.2.2 hm0; subst hA5; have HC5 := Hd.mk hcells; have HO5 := Hd.mk how5; clear hown5 hg5 HO4 HB4 HT4 how5 hcells) | (refine wpList_store_row rfl 28 _ _ rfl w5.heap.size (wv HH) rfl rfl 28 zero8 (Has.new _ _ _ _ rfl) (szW8 _ HH_len) (by rw [wv_size, HH_len]; rfl) (wv_one _) ?_) | fail)
  have hg5 : g5 < w5.heap.size := block_lt_of_cell (HC5.out 0 _ (vb_at (allL l) 0 (by have := HLEN.out; omega)))
  have hb6 : Below w5.heap.size w5 ((w5.alloc (.cells zero8 28)).setRow w5.heap.size (wv HH)) := below_row ((Below.refl _ _).alloc (Nat.le_refl _) _) (Nat.le_refl _) _
  have hb5s : w2.heap.size ≤ w5.heap.size := HB5.out.size
  have hb02 : Below w.heap.size w w5 := HB2.out.trans (HB5.out.mono HB2.out.size)
  have HGS : Hd (GS (allL l) w g5 m d5 w5.heap.size HH ((w5.alloc (.cells zero8 28)).setRow w5.heap.size (wv HH))) :=
    ⟨⟨(Has.new _ _ _ _ rfl).row _, HO5.out.keep hb6, hb02.trans (hb6.mono hb02.size), hb02.size, by omega⟩⟩
  clear hg5 hb6 hb5s HC5 HO5 hrem HB5 HT HL2 HE HM hb02
  have hlb : Sl w A n c l ∨ True := .inr trivial
  clear hlb
  generalize hL : allL l = L at *
  have HLL := Hd.mk hL
  clear hL
  obtain ⟨gv, hgv⟩ : ∃ gv, gv = w5.heap.size := ⟨_, rfl⟩
  rw [← hgv] at HGS ⊢
  clear hgv
  go_loopw [8] (fun i wr => ∃ k : Nat, k ≤ M ∧ i = .int .i64 ((64 * k : Nat) : Int) ∧ GS L w g5 m d5 gv (pa KK L HH k) wr) (fun i _ => m - (intOf i).toNat)
  case atStart => exact ⟨0, by omega, rfl, HGS.out⟩
  case round =>
    clear HGS
    obtain ⟨k, hk, rfl, hs⟩ := hrel
    obtain ⟨q, hq⟩ : ∃ q, pa KK L HH k = q := ⟨_, rfl⟩
    have hql : q.length = 8 := by rw [← hq]; exact pa_len _ _ _ HH_len _
    rw [hq] at hs
    have HQL := Hd.mk hql
    by_cases hlt : k < M
    · have hnx : pa KK L HH (k + 1) = press KK (blk L k) q := by rw [← hq]; rfl
      have HNX := Hd.mk hnx
      have HS := Hd.mk hs
      clear hnx hs hq hql
      have hblk := blk_len L k (by have := HLEN.out; have := HMM.out; omega)
      have HBK := Hd.mk hblk
      clear hblk
      obtain ⟨a, ha⟩ : ∃ a, a = 64 * k := ⟨_, rfl⟩
      rw [← ha]
      have ham : a + 64 ≤ m := by have := HMM.out; omega
      have HA := Hd.mk ha
      clear ha
      go_wp2_with fail
      change Code.wp _ _ _ _ (wr.alloc (.cells (bv (zb 64)) 22))
      have hz : Has (wr.alloc (.cells (bv (zb 64)) 22)) wr.heap.size 22 (bv (zb 64)) := Has.new _ _ _ _ rfl
      have hbz : Below wr.heap.size wr (wr.alloc (.cells (bv (zb 64)) 22)) := (Below.refl _ _).alloc (Nat.le_refl _) _
      have hgz : gv < wr.heap.size := HS.out.words.lt
      obtain ⟨W, hW⟩ : ∃ W, W = wr.alloc (.cells (bv (zb 64)) 22) := ⟨_, rfl⟩
      rw [← hW] at hz hbz ⊢
      clear hW
      have HS2 := Hd.mk (HS.out.keep hbz)
      have HZ := Hd.mk hz
      have HBZ := Hd.mk hbz
      clear hz hbz
      obtain ⟨d6, hd6⟩ : ∃ d6, d5 = a + d6 := ⟨d5 - a, by have := HS2.out.row.2.1; omega⟩
      have hbd : a + 64 ≤ d5 := by have := HS2.out.row.2.1; omega
      have hmid := run_mid (P := Tryd.prog) g5 0 m d5 36 5 Tryd.underlying36 sizeB a (a + 64) 64 d6 a rfl hd6 (Nat.zero_add a).symm (by decide) hbd
      rw [Int.natCast_add] at hmid
      have hmid' : ∀ w : World, (Instr.sliceAt 36 (.slice (some ⟨g5, 0, none⟩) m d5) (some (.int .i64 (a : Int))) (some (.int .i64 ((a : Int) + 64))) none).run Tryd.prog w = .ok (.slice (some ⟨g5, a, none⟩) 64 d6) w := hmid
      clear hmid hd6 hbd
      obtain ⟨bl, hbl⟩ : ∃ bl, bl = blk L k := ⟨_, rfl⟩
      have hbl64 : bl.length = 64 := by rw [hbl]; exact HBK.out
      have hpos : ∀ j v, (bl.map vb)[j]? = some v → W.drew.cell? ((⟨g5, a, none⟩ : Addr).add j) = some v := fun j v hv => by
        obtain ⟨g', e5, hc⟩ := HS2.out.row.2.2 hm0
        obtain rfl : g5 = g' := by cases e5; rfl
        have hadd : (⟨g5, a, none⟩ : Addr).add j = ⟨g5, a + j, none⟩ := by unfold Addr.add; split <;> simp_all
        rw [hadd, HA.out]
        exact hc _ _ (blk_get L k j v (by rw [← hbl]; exact hv))
      have hcp1 : (bl.map vb).length = Nat.min 64 64 := by rw [List.length_map, hbl64]; rfl
      have hcp2 : 0 + (bl.map vb).length ≤ ((zb 64).map vb).length := by rw [List.length_map, hbl64]; simp [zb_len]
      have HPOS := Hd.mk hpos
      have HCP := Hd.mk (And.intro hcp1 hcp2)
      have HBL := Hd.mk hbl
      have HBL64 := Hd.mk hbl64
      clear hbl hbl64 hpos hcp1 hcp2
      have hsum : IntKind.i64.wrap ((a : Int) + 64) = (a : Int) + 64 := IntWalk.i64_in _ (by omega)
      have b0 : (0 : Int) ≤ (a : Int) := by omega
      have b1 : (a : Int) + 64 ≤ (d5 : Int) := by have := HS2.out.row.2.1; omega
      have b2 : 0 ≤ (a : Int) + 64 := by omega
      have hlk : BS L w g5 m d5 gv q wr W := ⟨HS2.out, HBZ.out⟩
      go_region_held3 (fun w' : World => BS L w g5 m d5 gv q wr w') (first | exact BS.drew (by assumption) | exact BS.behind HS.out (by assumption)) ((rw [if_pos (by rfl)]; refine wp_copy_splice _ _ 36 36 rfl 5 Tryd.underlying36 sizeB (some ⟨wr.heap.size, 0, none⟩) (some ⟨g5, a, none⟩) 64 64 64 d6 rfl rfl wr.heap.size 0 ((zb 64).map vb) 22 HZ.out.drew (bl.map vb) HCP.out.1 (fun _ => ⟨rfl, _, rfl, HPOS.out⟩) HCP.out.2 (one_vb bl) wr.heap.size wr HBZ.out.drew (Nat.le_refl _) ?_; intro w6 h6 hb6))
      have hbs : BS L w g5 m d5 gv q wr w6 := by assumption
      have h7 : Has w6 wr.heap.size 22 (bv bl) := by
        have h8 : Has w6 wr.heap.size 22 (splice ((zb 64).map vb) 0 (bl.map vb)).toArray := h6
        rw [splice_all _ _ (by rw [zb_len, HBL64.out])] at h8
        exact h8
      have HG6 := Hd.mk hbs.1
      have H7 := Hd.mk h7
      have HBK2 : Hd (bl.length = 64) := HBL64
      have hW6 : Laid w6 := HW.out.below hbs.1.bel (Nat.le_refl _)
      have HW6 := Hd.mk hW6
      clear hbs h7 h6 hb6 hlk hmid' hsum b0 b1 b2 hW6 HPOS HCP HZ HBZ HS2
      go_wp2_with (first | (refine wpList_load_row rfl 28 _ rfl gv rfl 28 _ (0, 0) _ HG6.out.words Tryd.underlying28 rfl (szW8 _ HQL.out) ?_) | (refine wpList_load_row rfl 22 _ rfl wr.heap.size rfl 22 _ (0, 0) _ H7.out Tryd.underlying22 rfl (szB64 _ HBL64.out) ?_) | (go_at_call 22; refine (press_any q bl _ HQL.out HBL64.out HW6.out).mono ?_; rintro e w7 ⟨rfl, hb7⟩) | (refine wpList_store_row rfl 28 _ _ rfl gv _ rfl rfl 28 _ (HG6.out.keep hb7).words (szW8 _ (press_len _ _ _ HQL.out)) (by rw [wv_size, wv_size, press_len _ _ _ HQL.out, HQL.out]) (wv_one _) ?_) | fail)
      go_roundw
      case rel =>
        refine ⟨k + 1, by omega, ?_, ?_⟩
        · exact congrArg (Value.int .i64) (by have := HA.out; omega)
        · rw [HNX.out, ← HBL.out]
          exact (HG6.out.keep hb7).set _
      case measure => simp [intOf]; omega
    · obtain rfl : k = M := by omega
      have hqd : digW KK HH l = q := by rw [← HPA.out]; exact hq
      have hdd : dig KK HH l = digTo q 8 := by unfold dig; rw [hqd]
      have HDD := Hd.mk hdd
      have HQ := Hd.mk hs
      have HMI := Hd.mk (show (64 * k : Nat) = m from HMM.out.symm)
      have hW7 : Laid wr := HW.out.below hs.bel (Nat.le_refl _)
      have HW7 := Hd.mk hW7
      clear hqd hdd hq hs HPA HLEN hql hW7
      rw [HMI.out]
      go_wp2_with fail
      refine (Sum_any l A n c _ (HLW.out.keep HQ.out.bel) HW7.out (by omega)).mono ?_
      rintro e w8 ⟨v8, rfl, hown, hb8⟩
      obtain ⟨A8, c8, rfl, how⟩ := Ow.of_own hown
      obtain ⟨g8, rfl, hc8⟩ := how.2.2 (by decide)
      have hq8 := HQ.out.keep hb8
      rw [HDD.out] at hc8
      have hds : DS q gv g8 w w8 := ⟨fun j hj => (hq8.words.cell j).trans (wv_at q j (by rw [HQL.out]; exact hj)), fun j hj => hc8 j _ (vb_at _ j (by rw [digTo_len]; exact hj)), hq8.bel⟩
      have HDS := Hd.mk hds
      clear hds hq8 hc8 how hown hb8 HMI HDD HQ HW7
      go_wp2_with fail
      go_loopw [11] (fun i wi => ∃ j : Nat, j ≤ 32 ∧ i = .int .i64 (j : Int) ∧ DS q gv g8 w wi) (fun i _ => 32 - (intOf i).toNat)
      case atStart => exact ⟨0, by omega, rfl, HDS.out⟩
      case round =>
        clear HDS
        obtain ⟨j, hj, rfl, hds⟩ := hrel
        by_cases hlj : j < 32
        · have c1 := hds.1 (j / 4) (by omega)
          have c2 := hds.2.1 j hlj
          obtain ⟨d, hd⟩ : ∃ d, d = j / 4 := ⟨_, rfl⟩
          obtain ⟨r, hr⟩ : ∃ r, r = j % 4 := ⟨_, rfl⟩
          rw [← hd] at c1
          have b1 : d < 8 := by omega
          have b2 : r < 4 := by omega
          have e1 : (j : Int) / 4 = (d : Int) := by omega
          have e2 : (j : Int) % 4 = (r : Int) := by omega
          have e3 : j = 4 * d + r := by omega
          have HE3 := Hd.mk e3
          have HDS := Hd.mk hds
          clear hds hd hr e3
          have hne : (ub (gb (digTo q 8) j) != un (gw q d) / 2 ^ (24 - 8 * r) % 256) = false := by
            rw [HE3.out, digTo_at q 8 d r b1 b2, b_shr, un_b8, bne_self_eq_false]
          go_wp2_with fail
          go_quiet (fail)
          go_wp2_with fail
          go_roundw
          case rel => exact ⟨j + 1, by omega, by go_num, HDS.out.drewN _⟩
          case measure => simp [intOf]; omega
        · obtain rfl : j = 32 := by omega
          have hb := Hd.mk hds.2.2
          clear hds
          go_wp2
          go_ret
          exact ⟨rfl, hb.out⟩
end Go.Proofs.YtkjfhgbpiogigaaDoor
