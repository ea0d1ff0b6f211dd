/-
  Chained blocks in plain: filled texts, codes, and back. No condition.
  Filled texts told by their last byte; the chain told by the blocks that have come; a byte of the beginning turned. No condition.
-/
import Derived.Test.YthookcnkmlmgcaaDoorM11
namespace Go.Proofs.YthookcnkmlmgcaaDoor
open Go
set_option maxRecDepth 4000

/-- how many bytes fill a text of n bytes; the filled text -/
def fn (n : Nat) : Nat := 16 - n % 16
def fillL (b : List (BitVec 8)) : List (BitVec 8) := b ++ List.replicate (fn b.length) (BitVec.ofNat 8 (fn b.length))
theorem fn_lo (n : Nat) : 1 ≤ fn n := by unfold fn; omega
theorem fn_hi (n : Nat) : fn n ≤ 16 := by unfold fn; omega
theorem fill_len (b : List (BitVec 8)) : (fillL b).length = b.length + fn b.length := by simp [fillL]
theorem fill_mod (b : List (BitVec 8)) : (fillL b).length = 16 * (b.length / 16 + 1) := by rw [fill_len]; unfold fn; omega
theorem fill_last (b : List (BitVec 8)) : (fillL b).getLast? = some (BitVec.ofNat 8 (fn b.length)) := by
  obtain ⟨m, hm⟩ : ∃ m, fn b.length = m + 1 := ⟨fn b.length - 1, by have := fn_lo b.length; omega⟩
  unfold fillL
  rw [hm, List.replicate_succ', ← List.append_assoc, List.getLast?_concat]
theorem fn_inj {m n : Nat} (h : BitVec.ofNat 8 (fn m) = BitVec.ofNat 8 (fn n)) : fn m = fn n := by
  have h1 := congrArg BitVec.toNat h
  rw [BitVec.toNat_ofNat, BitVec.toNat_ofNat] at h1
  have := fn_hi m
  have := fn_hi n
  omega
theorem fill_inj {a b : List (BitVec 8)} (h : fillL a = fillL b) : a = b := by
  have h1 := fill_last a
  rw [h, fill_last b] at h1
  have h2 := fn_inj (Option.some.inj h1)
  have h3 : a.length + fn a.length = b.length + fn b.length := by rw [← fill_len, ← fill_len, h]
  exact (List.append_inj h (by omega)).1
theorem fill_take (b : List (BitVec 8)) : (fillL b).take ((fillL b).length - fn b.length) = b := by
  rw [fill_len, Nat.add_sub_cancel]
  unfold fillL
  rw [List.take_left']
  rfl
/-- of which text bytes are the filled one: by trying the lengths from 1 on -/
def em (b : List (BitVec 8)) : Nat → Option (List (BitVec 8))
  | 0 => none
  | k + 1 => match em b k with
    | some t => some t
    | none => if k + 1 ≤ b.length ∧ fillL (b.take (b.length - (k + 1))) = b then some (b.take (b.length - (k + 1))) else none
def emptyL (b : List (BitVec 8)) : Option (List (BitVec 8)) := em b 16
theorem em_some {b t : List (BitVec 8)} : ∀ {k : Nat}, em b k = some t → fillL t = b
  | 0, h => by cases h
  | k + 1, h => by
    rw [em] at h
    cases hk : em b k with
    | some t' =>
      rw [hk] at h
      obtain rfl : t' = t := Option.some.inj h
      exact em_some hk
    | none =>
      rw [hk] at h
      simp only at h
      split at h
      · rename_i hc
        rw [← Option.some.inj h]; exact hc.2
      · cases h
theorem em_fill (t : List (BitVec 8)) : ∀ k, fn t.length ≤ k → em (fillL t) k = some t
  | 0, h => by have := fn_lo t.length; omega
  | k + 1, h => by
    rw [em]
    cases hk : em (fillL t) k with
    | some t' => rw [fill_inj (em_some hk)]
    | none =>
      have hlt : ¬ fn t.length ≤ k := fun h2 => by rw [em_fill t k h2] at hk; cases hk
      have e : fn t.length = k + 1 := by omega
      have h1 := fill_take t
      rw [e] at h1
      simp only
      rw [h1, if_pos ⟨by rw [fill_len]; omega, rfl⟩]
theorem empty_iff (b t : List (BitVec 8)) : emptyL b = some t ↔ fillL t = b := by
  constructor
  · exact em_some
  · intro h
    rw [← h]
    exact em_fill t 16 (fn_hi _)
theorem empty_none (b : List (BitVec 8)) : emptyL b = none ↔ ∀ t, fillL t ≠ b := by
  constructor
  · intro h t ht
    rw [(empty_iff b t).2 ht] at h
    cases h
  · intro h
    cases he : emptyL b with
    | none => rfl
    | some t => exact absurd ((empty_iff b t).1 he) (h t)

/-- blocks of 16 bytes -/
def b16 (l : List (BitVec 8)) (i : Nat) : List (BitVec 8) := (l.drop (16 * i)).take 16
def cat (f : Nat → List (BitVec 8)) : Nat → List (BitVec 8)
  | 0 => []
  | i + 1 => cat f i ++ f i
theorem b16_len (l : List (BitVec 8)) (i : Nat) (h : 16 * i + 16 ≤ l.length) : (b16 l i).length = 16 := by
  unfold b16; rw [List.length_take, List.length_drop]; omega
theorem b16_gb (l : List (BitVec 8)) (i j : Nat) (h : j < 16) : gb (b16 l i) j = gb l (16 * i + j) := by
  unfold b16; rw [gb_take', if_pos h, gb_drop']
theorem cat_len (f : Nat → List (BitVec 8)) (h : ∀ i, (f i).length = 16) (n : Nat) : (cat f n).length = 16 * n := by
  induction n with
  | zero => rfl
  | succ n ih => rw [cat, List.length_append, ih, h]; omega
theorem cat_congr {f g : Nat → List (BitVec 8)} {n : Nat} (h : ∀ i, i < n → f i = g i) : cat f n = cat g n := by
  induction n with
  | zero => rfl
  | succ n ih => rw [cat, cat, ih (fun i hi => h i (by omega)), h n (by omega)]
theorem b16_cat (f : Nat → List (BitVec 8)) (h : ∀ i, (f i).length = 16) (n i : Nat) (hi : i < n) : b16 (cat f n) i = f i := by
  induction n with
  | zero => omega
  | succ n ih =>
    have hl := cat_len f h n
    rw [cat]
    unfold b16 at ih ⊢
    by_cases hin : i < n
    · rw [List.drop_append_of_le_length (by omega), List.take_append_of_le_length (by rw [List.length_drop]; omega)]
      exact ih hin
    · obtain rfl : i = n := by omega
      rw [← hl, List.drop_left, List.take_of_length_le (by rw [h]; omega)]
theorem cat_b16 (b : List (BitVec 8)) : ∀ n, 16 * n ≤ b.length → cat (b16 b) n = b.take (16 * n)
  | 0, _ => rfl
  | n + 1, h => by
    rw [cat, cat_b16 b n (by omega)]
    unfold b16
    rw [show 16 * (n + 1) = 16 * n + 16 by omega, List.take_add]
theorem cat_all (b : List (BitVec 8)) (n : Nat) (h : b.length = 16 * n) : cat (b16 b) n = b := by
  rw [cat_b16 b n (by omega), List.take_of_length_le (by omega)]
/-- the code of the block ahead, from the beginning on -/
def chn (K : Nat → List (BitVec 8)) (b g : List (BitVec 8)) : Nat → List (BitVec 8)
  | 0 => g
  | i + 1 => encL K (xorL (b16 b i) (chn K b g i))
def sealN (K : Nat → List (BitVec 8)) (b g : List (BitVec 8)) (n : Nat) : List (BitVec 8) := cat (fun i => chn K b g (i + 1)) n
def sealL (K : Nat → List (BitVec 8)) (g t : List (BitVec 8)) : List (BitVec 8) := sealN K (fillL t) g (t.length / 16 + 1)
def pv (c g : List (BitVec 8)) : Nat → List (BitVec 8)
  | 0 => g
  | i + 1 => b16 c i
def opn (K : Nat → List (BitVec 8)) (c g : List (BitVec 8)) (i : Nat) : List (BitVec 8) := xorL (decL K (b16 c i)) (pv c g i)
def openN (K : Nat → List (BitVec 8)) (c g : List (BitVec 8)) (n : Nat) : List (BitVec 8) := cat (opn K c g) n
theorem chn_len (K : Nat → List (BitVec 8)) (b g : List (BitVec 8)) (hg : g.length = 16) (i : Nat) : (chn K b g i).length = 16 := by
  cases i with
  | zero => exact hg
  | succ i => exact encL_len _ _
theorem opn_len (K : Nat → List (BitVec 8)) (c g : List (BitVec 8)) (i : Nat) : (opn K c g i).length = 16 := xorL_len _ _
theorem sealN_len (K : Nat → List (BitVec 8)) (b g : List (BitVec 8)) (n : Nat) : (sealN K b g n).length = 16 * n := cat_len _ (fun _ => encL_len _ _) n
theorem openN_len (K : Nat → List (BitVec 8)) (c g : List (BitVec 8)) (n : Nat) : (openN K c g n).length = 16 * n := cat_len _ (opn_len K c g) n
theorem sealL_len (K : Nat → List (BitVec 8)) (g t : List (BitVec 8)) : (sealL K g t).length = 16 * (t.length / 16 + 1) := sealN_len _ _ _ _
theorem open_seal (K : Nat → List (BitVec 8)) (b g : List (BitVec 8)) (n : Nat) (hb : b.length = 16 * n) : openN K (sealN K b g n) g n = b := by
  have hc : ∀ i, i < n → b16 (sealN K b g n) i = chn K b g (i + 1) := fun i hi => b16_cat _ (fun i => encL_len _ _) n i hi
  refine Eq.trans (cat_congr fun i hi => ?_) (cat_all b n hb)
  unfold opn
  rw [hc i hi, chn, dec_enc _ _ (xorL_len _ _)]
  have hp : pv (sealN K b g n) g i = chn K b g i := by
    cases i with
    | zero => rfl
    | succ i => exact hc i (by omega)
  rw [hp]
  exact xor_back _ _ (b16_len b i (by omega))
theorem seal_open (K : Nat → List (BitVec 8)) (c g : List (BitVec 8)) (n : Nat) (hc : c.length = 16 * n) : sealN K (openN K c g n) g n = c := by
  have hb : ∀ i, i < n → b16 (openN K c g n) i = opn K c g i := fun i hi => b16_cat _ (opn_len K c g) n i hi
  have hch : ∀ i, i ≤ n → chn K (openN K c g n) g i = pv c g i := by
    intro i
    induction i with
    | zero => intro _; rfl
    | succ i ih =>
      intro hi
      rw [chn, ih (by omega), hb i (by omega)]
      unfold opn
      rw [xor_back _ _ (decL_len _ _), enc_dec _ _ (b16_len c i (by omega))]
      rfl
  refine Eq.trans (cat_congr fun i hi => ?_) (cat_all c n hc)
  exact hch (i + 1) (by omega)
theorem sealL_inj (K : Nat → List (BitVec 8)) (g : List (BitVec 8)) {a b : List (BitVec 8)} (h : sealL K g a = sealL K g b) : a = b := by
  have h1 : a.length / 16 + 1 = b.length / 16 + 1 := by
    have e := congrArg List.length h
    rw [sealL_len, sealL_len] at e
    omega
  have h2 := open_seal K (fillL a) g (a.length / 16 + 1) (fill_mod a)
  have h3 := open_seal K (fillL b) g (b.length / 16 + 1) (fill_mod b)
  unfold sealL at h
  rw [h, h1] at h2
  exact fill_inj (h2.symm.trans h3)
/-- with a byte of the beginning turned -/
theorem xorL_turn (X g : List (BitVec 8)) (at_ : Nat) (y : BitVec 8) (hg : g.length = 16) (h : at_ < 16) : xorL X (g.set at_ (gb g at_ ^^^ y)) = (xorL X g).set at_ (gb (xorL X g) at_ ^^^ y) := by
  apply ext_gb
  · rw [List.length_set, xorL_len, xorL_len]
  · intro i hi
    rw [xorL_len] at hi
    rw [gb_set _ _ _ _ (by rw [xorL_len]; exact h)]
    unfold xorL
    rw [li_gb _ _ _ hi, li_gb _ _ _ hi, li_gb _ _ _ h, gb_set _ _ _ _ (by rw [hg]; exact h)]
    by_cases e : i = at_
    · subst e
      rw [if_pos rfl, if_pos rfl, BitVec.xor_assoc]
    · rw [if_neg e, if_neg e]
end Go.Proofs.YthookcnkmlmgcaaDoor
namespace Go.Proofs.YthookcnkmlmgcaaDoor
open Go
set_option maxRecDepth 4000

theorem gb_rep (n : Nat) (x : BitVec 8) (i : Nat) (h : i < n) : gb (List.replicate n x) i = x := by simp [gb, h]
theorem fill_gb (t : List (BitVec 8)) (j : Nat) (h1 : t.length ≤ j) (h2 : j < (fillL t).length) : gb (fillL t) j = BitVec.ofNat 8 (fn t.length) := by
  rw [fill_len] at h2
  unfold fillL
  rw [gb_app, if_neg (by omega), gb_rep _ _ _ (by omega)]
theorem fn_nat (n : Nat) : (BitVec.ofNat 8 (fn n)).toNat = fn n := by rw [BitVec.toNat_ofNat]; have := fn_hi n; omega
/-- what the last byte says -/
def lb (b : List (BitVec 8)) : Nat := (gb b (b.length - 1)).toNat
theorem lb_fill (t : List (BitVec 8)) : lb (fillL t) = fn t.length := by
  have := fn_lo t.length
  unfold lb
  rw [fill_gb t _ (by rw [fill_len]; omega) (by rw [fill_len]; omega), fn_nat]
theorem empty_whole (b : List (BitVec 8)) (h : b.length = 0 ∨ b.length % 16 ≠ 0) : emptyL b = none := (empty_none b).2 fun t ht => by
  have := fill_mod t
  rw [ht] at this
  omega
theorem empty_last (b : List (BitVec 8)) (h : lb b < 1 ∨ 16 < lb b) : emptyL b = none := (empty_none b).2 fun t ht => by
  rw [← ht, lb_fill] at h
  have := fn_lo t.length
  have := fn_hi t.length
  omega
theorem empty_byte (b : List (BitVec 8)) (j : Nat) (hj : b.length - lb b ≤ j) (hl : j < b.length) (h : gb b j ≠ BitVec.ofNat 8 (lb b)) : emptyL b = none := (empty_none b).2 fun t ht => by
  subst ht
  rw [lb_fill] at hj h
  have e := fill_len t
  exact h (fill_gb t j (by omega) hl)
theorem empty_yes (b : List (BitVec 8)) (h1 : b.length % 16 = 0) (h0 : 0 < b.length) (h2 : 1 ≤ lb b) (h3 : lb b ≤ 16) (h4 : ∀ j, b.length - lb b ≤ j → j < b.length → gb b j = BitVec.ofNat 8 (lb b)) : emptyL b = some (b.take (b.length - lb b)) := by
  refine (empty_iff _ _).2 ?_
  have hl : (b.take (b.length - lb b)).length = b.length - lb b := by rw [List.length_take]; omega
  have hf : fn (b.take (b.length - lb b)).length = lb b := by rw [hl]; unfold fn; omega
  apply ext_gb
  · rw [fill_len, hf, hl]; omega
  · intro i hi
    rw [fill_len, hf, hl] at hi
    unfold fillL
    rw [gb_app, hf, hl]
    by_cases h : i < b.length - lb b
    · rw [if_pos h, gb_take', if_pos h]
    · rw [if_neg h, h4 i (by omega) (by omega), gb_rep _ _ _ (by omega)]
/-- whether bytes are filled hangs on the last block alone -/
theorem empty_tail (P B : List (BitVec 8)) (hP : P.length % 16 = 0) (h : emptyL (P ++ B) = none) : emptyL B = none := (empty_none B).2 fun s hs => (empty_none _).1 h (P ++ s) (by
  have e : fn (P ++ s).length = fn s.length := by rw [List.length_append]; unfold fn; omega
  unfold fillL at hs ⊢
  rw [e, List.append_assoc, hs])

/-- blocks of 16 bytes that come one behind the other -/
abbrev B16 := { x : List (BitVec 8) // x.length = 16 }
def vs (pre : List B16) : List (List (BitVec 8)) := pre.map (·.1)
theorem vs_snoc (pre : List B16) (x : B16) : vs (pre ++ [x]) = vs pre ++ [x.1] := by simp [vs]
theorem vs_len (pre : List B16) : (vs pre).length = pre.length := by simp [vs]
def bls (b : List (BitVec 8)) (n : Nat) : List (List (BitVec 8)) := (List.range n).map (b16 b)
theorem bls_succ (b : List (BitVec 8)) (n : Nat) : bls b (n + 1) = bls b n ++ [b16 b n] := by simp [bls, List.range_succ]
theorem bls_len (b : List (BitVec 8)) (n : Nat) : (bls b n).length = n := by simp [bls]
/-- sealing: the codes so far, the last one -/
def sst (K : Nat → List (BitVec 8)) (g : List (BitVec 8)) (l : List (List (BitVec 8))) : List (BitVec 8) × List (BitVec 8) :=
  l.foldl (fun s x => (s.1 ++ encL K (xorL x s.2), encL K (xorL x s.2))) ([], g)
theorem sst_snoc (K : Nat → List (BitVec 8)) (g : List (BitVec 8)) (l : List (List (BitVec 8))) (x : List (BitVec 8)) : sst K g (l ++ [x]) = ((sst K g l).1 ++ encL K (xorL x (sst K g l).2), encL K (xorL x (sst K g l).2)) := by simp [sst]
theorem sst_all (K : Nat → List (BitVec 8)) (b g : List (BitVec 8)) (n : Nat) : sst K g (bls b n) = (sealN K b g n, chn K b g n) := by
  induction n with
  | zero => rfl
  | succ n ih => rw [bls_succ, sst_snoc, ih]; rfl
theorem snoc_ind {α : Type} {p : List α → Prop} (h0 : p []) (h : ∀ l x, p l → p (l ++ [x])) (l : List α) : p l := by
  rw [← List.reverse_reverse l]
  induction l.reverse with
  | nil => exact h0
  | cons x r ih => rw [List.reverse_cons]; exact h _ _ ih
theorem sst_len (K : Nat → List (BitVec 8)) (g : List (BitVec 8)) (l : List (List (BitVec 8))) : (sst K g l).1.length = 16 * l.length := by
  induction l using snoc_ind with
  | h0 => rfl
  | h l x ih => rw [sst_snoc]; simp only [List.length_append, ih, encL_len, List.length_cons, List.length_nil]; omega
theorem sst_last (K : Nat → List (BitVec 8)) (g : List (BitVec 8)) (hg : g.length = 16) (l : List (List (BitVec 8))) : (sst K g l).2.length = 16 := by
  induction l using snoc_ind with
  | h0 => exact hg
  | h l x ih => rw [sst_snoc]; exact encL_len _ _
/-- opening: what came out so far, the code ahead -/
def ost (K : Nat → List (BitVec 8)) (g : List (BitVec 8)) (l : List (List (BitVec 8))) : List (BitVec 8) × List (BitVec 8) :=
  l.foldl (fun s x => (s.1 ++ xorL (decL K x) s.2, x)) ([], g)
theorem ost_snoc (K : Nat → List (BitVec 8)) (g : List (BitVec 8)) (l : List (List (BitVec 8))) (x : List (BitVec 8)) : ost K g (l ++ [x]) = ((ost K g l).1 ++ xorL (decL K x) (ost K g l).2, x) := by simp [ost]
theorem ost_all (K : Nat → List (BitVec 8)) (c g : List (BitVec 8)) (n : Nat) : ost K g (bls c n) = (openN K c g n, pv c g n) := by
  induction n with
  | zero => rfl
  | succ n ih => rw [bls_succ, ost_snoc, ih]; rfl
theorem ost_len (K : Nat → List (BitVec 8)) (g : List (BitVec 8)) (l : List (List (BitVec 8))) : (ost K g l).1.length = 16 * l.length := by
  induction l using snoc_ind with
  | h0 => rfl
  | h l x ih => rw [ost_snoc]; simp only [List.length_append, ih, xorL_len, List.length_cons, List.length_nil]; omega
theorem ost_last (K : Nat → List (BitVec 8)) (g : List (BitVec 8)) (hg : g.length = 16) (pre : List B16) : (ost K g (vs pre)).2.length = 16 := by
  induction pre using snoc_ind with
  | h0 => exact hg
  | h l x ih => rw [vs_snoc, ost_snoc]; exact x.2
/-- with a byte of the beginning turned, the first block's byte is -/
theorem open_turn (K : Nat → List (BitVec 8)) (c g : List (BitVec 8)) (at_ : Nat) (y : BitVec 8) (hg : g.length = 16) (h : at_ < 16) (n : Nat) :
    openN K c (g.set at_ (gb g at_ ^^^ y)) (n + 1) = (openN K c g (n + 1)).set at_ (gb (openN K c g (n + 1)) at_ ^^^ y) := by
  have e0 : opn K c (g.set at_ (gb g at_ ^^^ y)) 0 = (opn K c g 0).set at_ (gb (opn K c g 0) at_ ^^^ y) := xorL_turn _ _ _ _ hg h
  have es : ∀ i, opn K c (g.set at_ (gb g at_ ^^^ y)) (i + 1) = opn K c g (i + 1) := fun _ => rfl
  induction n with
  | zero =>
    unfold openN
    rw [cat, cat, cat, cat, e0, List.nil_append, List.nil_append]
  | succ n ih =>
    have hl : (openN K c g (n + 1)).length = 16 * (n + 1) := openN_len _ _ _ _
    have h2 : ∀ g', openN K c g' (n + 1 + 1) = openN K c g' (n + 1) ++ opn K c g' (n + 1) := fun _ => rfl
    rw [h2, h2, ih, es, gb_app, if_pos (by omega), List.set_append, if_pos (by omega)]
theorem fill_set (a : List (BitVec 8)) (i : Nat) (v : BitVec 8) (h : i < a.length) : fillL (a.set i v) = (fillL a).set i v := by
  unfold fillL
  rw [List.length_set, List.set_append, if_pos h]
theorem fill_at (a : List (BitVec 8)) (i : Nat) (h : i < a.length) : gb (fillL a) i = gb a i := by
  unfold fillL
  rw [gb_app, if_pos h]
end Go.Proofs.YthookcnkmlmgcaaDoor
