/-
  cert.Split.
  A certificate's maker: bits; told. cert.Encode.
  prim: isTime; the reference's May.
  prim: withPair, Time.
-/
import Derived.Test.YtkdjhklnlnfhfaaGreatDoorM31
import Derived.BigQuiet
import Derived.Test.YtkdjhklnlnfhfaaGreatDoorM11
import Derived.Test.YtkdjhklnlnfhfaaGreatDoorM6
namespace Go.Proofs.YtkdjhklnlnfhfaaGreatDoor
open Go Go.RowKit
set_option maxRecDepth 4000

section
variable {w w1 w2 : World} {G G' : List Nat} {B n g t : Nat} {v : Value} {l : List (BitVec 8)} {cs : Array Value}
theorem own_new (ho : Own w1 B v n l) (hB : Hi w G) (hs : w.heap.size ≤ B) : Ap G (fpv v) := fun k hk h2 => by
  have h3 := ho.rw.base k (mem_fpv.1 h2)
  have h4 := hB k hk
  omega
theorem own_mvs (ho : Own w1 B v n l) (ha : Ap G (fpv v)) (hm : Mvs G G' w1 w2) : Own w2 B v n l ∧ Ap G' (fpv v) :=
  ⟨(ho.rw.mds hm.m fun k hk h2 => ha k h2 hk).own, hm.ap ho.rw.fp_lt ha⟩
theorem blk_mvs (hb : Blk w1 g t cs) (ha : g ∉ G) (hm : Mvs G G' w1 w2) : Blk w2 g t cs ∧ g ∉ G' := by
  refine ⟨hb.mds hm.m ha, fun hk => ?_⟩
  rcases hm.f g hk with e | e
  · exact ha e
  · have := hb.lt; omega
theorem Mds.mvs (h : Mds G w1 w2) : Mvs G G w1 w2 := ⟨h, fun _ h => .inl h⟩
end
theorem bitsB_0 (l : List (BitVec 8)) : bitsB l 0 = true := by
  unfold bitsB
  split
  · rfl
  · simp [Nat.mod_one]
/-- what a certificate is split into -/
def SpR (w : World) (b : List (BitVec 8)) (e : Ending) (w' : World) : Prop :=
  (∃ x s A1 n1 c1 A2 n2 c2, splL b = some (x, s) ∧ e = .returned (.tuple #[.slice A1 n1 c1, .slice A2 n2 c2, .nilIface]) ∧ Own w' w.heap.size (.slice A1 n1 c1) n1 x ∧ Own w' w.heap.size (.slice A2 n2 c2) n2 s ∧ Ext w w') ∨
  (splL b = none ∧ e = .returned (.tuple #[.slice none 0 0, .slice none 0 0, err 2]) ∧ Ext w w')
def prm0 : Prm := ⟨fun _ => [], fun _ => True, fun _ _ => true, bitsB⟩
theorem oS_str : (Value.string { data := #[42, 134, 72, 134, 247, 13, 1, 1, 11] }) = .string (strOf oS) := rfl
set_option maxHeartbeats 8000000 in
theorem Split_any {w : World} {b : List (BitVec 8)} {A : Option Addr} {n c : Nat} (h : Bs w A n c b) (hn : n ≤ 1000000) : Calls Tryz.prog 18 #[.slice A n c] w (SpR w b) := by
  have NR := Kp.mk (crNew h hn)
  have hS := splS_eq prm0 bitsB_0 b
  unfold splS at hS
  simp only at hS
  unfold SpR
  clear h hn
  obtain ⟨s0, e0⟩ : ∃ s0 : RS, s0 = ⟨b, [], false⟩ := ⟨_, rfl⟩
  rw [← e0] at NR hS
  have C1 : Kp (∀ (w1 : World) (q : Nat) (G1 : List Nat), Cr w1 q G1 s0 → Calls Tryz.prog 56 #[.pointer (some ⟨q, 0, none⟩), .int .u8 48] w1 (StR w1 q G1 (enterS 48 s0))) := ⟨fun w1 q G1 h => crEnter h 48⟩
  generalize enterS 48 s0 = s1 at *
  obtain ⟨x, s2, e2⟩ : ∃ x s2, wholeS 48 s1 = (x, s2) := ⟨_, _, rfl⟩
  have C2 : Kp (∀ (w1 : World) (q : Nat) (G1 : List Nat), Cr w1 q G1 s1 → Calls Tryz.prog 57 #[.pointer (some ⟨q, 0, none⟩), .int .u8 48] w1 (TkR w1 q G1 x s2)) := ⟨fun w1 q G1 h => by
    have := crWhole h 48
    rwa [e2] at this⟩
  rw [e2] at hS
  simp only at hS
  have C3 : Kp (∀ (w1 : World) (q : Nat) (G1 : List Nat), Cr w1 q G1 s2 → Calls Tryz.prog 58 #[.pointer (some ⟨q, 0, none⟩), .string (strOf oS)] w1 (StR w1 q G1 (kindS oS s2))) := ⟨fun w1 q G1 h => crKind h oS⟩
  generalize kindS oS s2 = s3 at *
  obtain ⟨l, u, s4, e4⟩ : ∃ l u s4, bitsS prm0 s3 = ((l, u), s4) := ⟨_, _, _, rfl⟩
  have C4 : Kp (∀ (w1 : World) (q : Nat) (G1 : List Nat), Cr w1 q G1 s3 → Calls Tryz.prog 59 #[.pointer (some ⟨q, 0, none⟩)] w1 (BtR w1 q G1 l u s4)) := ⟨fun w1 q G1 h => by
    have := crBits (P := prm0) rfl h
    rwa [e4] at this⟩
  rw [e4] at hS
  simp only at hS
  have C5 : Kp (∀ (w1 : World) (q : Nat) (G1 : List Nat), Cr w1 q G1 s4 → Calls Tryz.prog 60 #[.pointer (some ⟨q, 0, none⟩)] w1 (StR w1 q G1 (leaveS s4))) := ⟨fun w1 q G1 h => crLeave h⟩
  generalize leaveS s4 = s5 at *
  have C6 : Kp (∀ (w1 : World) (q : Nat) (G1 : List Nat), Cr w1 q G1 s5 → Calls Tryz.prog 61 #[.pointer (some ⟨q, 0, none⟩)] w1 (StM w1 q G1 (endS s5))) := ⟨fun w1 q G1 h => crEnd h⟩
  generalize endS s5 = s6 at *
  clear e0 e2 e4
  have HS := Kp.mk hS
  clear hS
  go_enter Tryz.func18, Tryz.ntmps18
  go_wp2_with fail
  refine NR.out.mono ?_
  rintro e w1 ⟨q, G1, rfl, r1, lo1, x1⟩
  have K1 := Kp.mk (C1.out w1 q G1 r1)
  have X1 := Kp.mk x1
  have LO := Kp.mk lo1
  clear r1 x1 lo1 NR C1
  go_wp2_with fail
  refine K1.out.mono ?_
  rintro e w2 ⟨rfl, G2, r2, m2⟩
  have K2 := Kp.mk (C2.out w2 q G2 r2)
  have HI2 := Kp.mk r2.hi
  have HS2 := Kp.mk m2.m.size
  have M2 := Kp.mk m2
  clear r2 m2 C2 K1
  go_wp2_with fail
  refine K2.out.mono ?_
  rintro e w3 ⟨A3, n3, c3, rfl, o3, r3, m3⟩
  have K3 := Kp.mk (C3.out w3 q G2 r3)
  have O3 := Kp.mk (And.intro o3 (own_new o3 HI2.out (Nat.le_refl _)))
  have M3 := Kp.mk (crMvs M2.out m3)
  have HS3 := Kp.mk m3.size
  clear r3 m3 o3 C3 K2
  go_wp2_with fail
  refine K3.out.mono ?_
  rintro e w4 ⟨rfl, G4, r4, m4⟩
  have K4 := Kp.mk (C4.out w4 q G4 r4)
  have HI4 := Kp.mk r4.hi
  have HS4 := Kp.mk m4.m.size
  have O4 := Kp.mk (own_mvs O3.out.1 O3.out.2 m4)
  have M4 := Kp.mk (M3.out.trans m4)
  clear r4 m4 C4 K3 M3 O3
  go_wp2_with fail
  refine K4.out.mono ?_
  rintro e w5 ⟨A5, n5, c5, rfl, o5, r5, m5⟩
  have HB5 := Kp.mk (Blk.new w5 bit #[.slice none 0 0, .int .i64 0])
  have HB6 := Kp.mk ((Blk.new w5 bit #[.slice none 0 0, .int .i64 0]).row #[.slice A5 n5 c5, .int .i64 u])
  have HY6 := Kp.mk (Ext.setRow ((by (repeat (first | assumption | exact Ext.refl _ | apply Ext.drew | apply Ext.drewN | apply Ext.alloc | refine Ext.trans ?_ (by assumption))); first | done | fail) : Ext w5 (w5.alloc (.cells #[.slice none 0 0, .int .i64 0] bit))) (Nat.le_refl _) #[.slice A5 n5 c5, .int .i64 u])
  have O5 := Kp.mk (own_mvs O4.out.1 O4.out.2 m5.mvs)
  have P5 := Kp.mk (And.intro o5 (own_new o5 HI4.out (Nat.le_refl _)))
  have R5 := Kp.mk r5
  have M5 := Kp.mk (crMvs M4.out m5)
  have HG5 : Kp (w5.heap.size ∉ G4) := ⟨fun hk => Nat.lt_irrefl _ (r5.hi _ hk)⟩
  clear r5 m5 o5 K4 M4 O4
  go_wp2_with (first | ((with_reducible refine at_store 7 17 ?_); refine wpList_store_row rfl bit _ _ rfl w5.heap.size #[.slice A5 n5 c5, .int .i64 u] rfl rfl bit _ HB5.out.h szBt rfl (one_two8 _ _ _ _) ?_; generalize (w5.alloc (.cells #[.slice none 0 0, .int .i64 0] bit)).setRow w5.heap.size #[.slice A5 n5 c5, .int .i64 u] = w6 at *) | fail)
  refine (C5.out w6 q G4 (R5.out.ext HY6.out)).mono ?_
  rintro e w7 ⟨rfl, G7, r7, m7⟩
  have K7 := Kp.mk (C6.out w7 q G7 r7)
  have O7 := Kp.mk (own_mvs (O5.out.1.ext HY6.out) O5.out.2 m7)
  have P7 := Kp.mk (own_mvs (P5.out.1.ext HY6.out) P5.out.2 m7)
  have B7 := Kp.mk (blk_mvs HB6.out HG5.out m7)
  have M7 := Kp.mk ((M5.out.post HY6.out).trans m7)
  clear r7 m7 C5 C6 HY6 HB6 R5 HB5 M5 O5 P5 HG5
  go_wp2_with fail
  refine K7.out.mono ?_
  rintro e w8 ⟨rfl, r8, m8⟩
  have O8 := Kp.mk (own_mvs O7.out.1 O7.out.2 m8.mvs)
  have P8 := Kp.mk (own_mvs P7.out.1 P7.out.2 m8.mvs)
  have B8 := Kp.mk (blk_mvs B7.out.1 B7.out.2 m8.mvs)
  have M8 := Kp.mk (crMvs M7.out m8)
  have hc1 := r8.cell1.1
  have hcu := B8.out.1.h.cell 1
  have hcl := B8.out.1.h.cell 0
  have X8 := Kp.mk (M8.out.ext X1.out LO.out)
  have HZ : Kp (w.heap.size ≤ w2.heap.size ∧ w.heap.size ≤ w4.heap.size) := ⟨by have h1 := X1.out.size; have h2 := HS2.out; have h3 := HS3.out; have h4 := HS4.out; constructor <;> omega⟩
  clear r8 m8 K7 O7 P7 B7 M7
  cases ha : s6.a with
  | true =>
    rw [ha] at hc1
    have HN : Kp (splL b = none) := ⟨by rw [HS.out, ha]; exact if_neg (by simp)⟩
    clear ha HS
    go_wp2_with fail
    go_ret3
    exact .inr ⟨HN.out, rfl, X8.out⟩
  | false =>
    rw [ha] at hc1
    by_cases hu : u = 0
    · subst hu
      have HN : Kp (splL b = some (x, l)) := ⟨by rw [HS.out, ha]; exact if_pos ⟨rfl, rfl⟩⟩
      clear ha HS
      go_wp2_with fail
      go_region
      go_wp2_with fail
      go_ret3
      have hx : Ext w8 w8.drew := (by (repeat (first | assumption | exact Ext.refl _ | apply Ext.drew | apply Ext.drewN | apply Ext.alloc | refine Ext.trans ?_ (by assumption))); first | done | fail)
      exact .inl ⟨x, l, _, _, _, _, _, _, HN.out, rfl, (O8.out.1.ext hx).lower HZ.out.1, (P8.out.1.ext hx).lower HZ.out.2, X8.out.trans hx⟩
    · have HN : Kp (splL b = none) := ⟨by rw [HS.out, ha]; exact if_neg fun h => hu h.2⟩
      have hu1 : (u == 0) = false := beq_eq_false_iff_ne.2 hu
      clear ha HS
      go_wp2_with fail
      go_ret3
      exact .inr ⟨HN.out, rfl, X8.out⟩
end Go.Proofs.YtkdjhklnlnfhfaaGreatDoor
namespace Go.Proofs.YtkdjhklnlnfhfaaGreatDoor
open Go Go.RowKit
set_option maxRecDepth 4000

section
variable {w w1 w2 : World} {q : Nat} {k : Option Int}
set_option maxHeartbeats 4000000 in
theorem mkBits {l : List (BitVec 8)} {A : Option Addr} {n c : Nat} {u : Int} (h : Mk w q k) (hb : Bs w A n c l) (hu : bitsB l u = true) (hn : n ≤ 1000000000) :
    Calls Tryz.prog 54 #[.pointer (some ⟨q, 0, none⟩), .agg #[.slice A n c, .int .i64 u]] w (MkE w q (elmK 3 (BitVec.ofNat 8 u.toNat :: l)) (noteK k (amiK (BitVec.ofNat 8 u.toNat :: l)))) := by
  have hx0 : Ext w (w.alloc (.cells #[.slice A n c, .int .i64 u] bit)) := (by (repeat (first | assumption | exact Ext.refl _ | apply Ext.drew | apply Ext.drewN | apply Ext.alloc | refine Ext.trans ?_ (by assumption))); first | done | fail)
  have BT := Kp.mk (Bits_any (hb.ext hx0) (by omega) u)
  have HB0 := Kp.mk (Blk.new w bit #[.slice A n c, .int .i64 u])
  have X0 := Kp.mk hx0
  have H := Kp.mk (Mk.ext h hx0)
  have HU := Kp.mk hu
  have HN := Kp.mk hn
  clear h hb hu hx0
  go_enter Tryz.func54, Tryz.ntmps54
  go_wp2_with (first | ((with_reducible refine at_load_to 8 3 ?_); refine wpList_load_row rfl bit _ rfl w.heap.size rfl bit #[.slice A n c, .int .i64 u] (0, 0) _ HB0.out.h Tryz.underlying97 rfl szBt ?_) | fail)
  refine BT.out.mono ?_
  rintro e w1 (⟨hno, _⟩ | ⟨_, A1, c1, rfl, hs1, ho1, hx1⟩)
  · rw [HU.out] at hno; cases hno
  have NT := Kp.mk (mkNote (H.out.ext hx1) none)
  have O1 := Kp.mk ho1
  have X1 := Kp.mk (X0.out.trans hx1)
  have K1 := Kp.mk (H.out.ext hx1)
  clear hs1 ho1 hx1 BT
  unfold amV at NT
  go_wp2_with fail
  refine NT.out.mono ?_
  rintro e w2 ⟨rfl, k2, m2⟩
  rw [noteK_none] at k2
  have O2 := Kp.mk (own_mk O1.out K1.out m2)
  have E3 := Kp.mk (mkE1 (m := 3) (t := 39) k2 (by decide) O2.out.bs (by have := HN.out; omega))
  have M2 := Kp.mk ((X1.out.mds [q]).trans m2)
  have XB := Kp.mk (show Ext w2 (w2.alloc (.cells #[.slice A1 (n + 1) c1] 39)) from (by (repeat (first | assumption | exact Ext.refl _ | apply Ext.drew | apply Ext.drewN | apply Ext.alloc | refine Ext.trans ?_ (by assumption))); first | done | fail))
  clear k2 m2 NT
  go_wp2_with fail
  refine E3.out.mono ?_
  rintro e w3 ⟨A3, n3, c3, rfl, o3, k3, m3⟩
  have O3 := Kp.mk o3
  have K3 := Kp.mk k3
  have M3 := Kp.mk (M2.out.trans ((XB.out.mds [q]).trans m3))
  have L3 : Kp (w.heap.size ≤ (w2.alloc (.cells #[.slice A1 (n + 1) c1] 39)).heap.size) := ⟨Nat.le_trans M2.out.size XB.out.size⟩
  clear o3 k3 m3
  go_wp2_with fail
  go_ret
  exact ⟨_, _, _, rfl, O3.out.lower L3.out, K3.out, M3.out⟩
set_option maxHeartbeats 1000000 in
theorem mkTold_none {A : Option Addr} {n c : Nat} (h : Mk w q none) : Calls Tryz.prog 31 #[.pointer (some ⟨q, 0, none⟩), .slice A n c] w fun e w' => e = .returned (.tuple #[.slice A n c, .nilIface]) ∧ Ext w w' := by
  have hc : w.cell? ⟨q, 0, none⟩ = some .nilIface := h.h.cell 0
  clear h
  go_enter Tryz.func31, Tryz.ntmps31
  go_wp2_with fail
  go_ret2
  exact ⟨rfl, (by (repeat (first | assumption | exact Ext.refl _ | apply Ext.drew | apply Ext.drewN | apply Ext.alloc | refine Ext.trans ?_ (by assumption))); first | done | fail)⟩
set_option maxHeartbeats 1000000 in
theorem mkTold_some {A : Option Addr} {n c : Nat} {z : Int} (h : Mk w q (some z)) : Calls Tryz.prog 31 #[.pointer (some ⟨q, 0, none⟩), .slice A n c] w fun e w' => e = .returned (.tuple #[.slice none 0 0, err z]) ∧ Ext w w' := by
  have hc : w.cell? ⟨q, 0, none⟩ = some (err z) := h.h.cell 0
  clear h
  go_enter Tryz.func31, Tryz.ntmps31
  go_wp2_with fail
  go_region
  go_wp2_with fail
  go_ret2
  exact ⟨rfl, (by (repeat (first | assumption | exact Ext.refl _ | apply Ext.drew | apply Ext.drewN | apply Ext.alloc | refine Ext.trans ?_ (by assumption))); first | done | fail)⟩
end
theorem sgnE_eq : sgnE = elm 48 (elm 6 oS ++ elm 5 []) := by rw [oS_eq]; rfl
/-- what Encode answers -/
def EncR (w : World) (x s : List (BitVec 8)) (e : Ending) (w' : World) : Prop :=
  (EncOk x s ∧ ∃ A n c, e = .returned (.tuple #[.slice A n c, .nilIface]) ∧ Own w' w.heap.size (.slice A n c) n (encX x s) ∧ Ext w w') ∨ (¬ EncOk x s ∧ e = .returned (.tuple #[.slice none 0 0, err 4]) ∧ Ext w w')
set_option maxHeartbeats 4000000 in
theorem Encode_any {w : World} {x s : List (BitVec 8)} {A B : Option Addr} {n c m d : Nat} (hx : Bs w A n c x) (hs : Bs w B m d s) (hn : n ≤ 1000000) (hm : m ≤ 1000000) : Calls Tryz.prog 16 #[.slice A n c, .slice B m d] w (EncR w x s) := by
  have hx0 : Ext w (w.alloc (.cells #[.nilIface] mkr)) := (by (repeat (first | assumption | exact Ext.refl _ | apply Ext.drew | apply Ext.drewN | apply Ext.alloc | refine Ext.trans ?_ (by assumption))); first | done | fail)
  have K0 : Kp (Mk (w.alloc (.cells #[.nilIface] mkr)) w.heap.size none) := ⟨Blk.new _ _ _⟩
  have KD := Kp.mk (mkKind (o := oS) K0.out (by decide))
  rw [← sgnE_eq] at KD
  have HX := Kp.mk hx
  have HS := Kp.mk hs
  have X0 := Kp.mk hx0
  have hlx := hx.len
  have hls := hs.len
  have HL := Kp.mk (And.intro hlx (And.intro hls (And.intro hn hm)))
  clear hx hs hx0 hlx hls hn hm
  go_enter Tryz.func16, Tryz.ntmps16
  go_wp2_with fail
  refine KD.out.mono ?_
  rintro e w1 ⟨A1, n1, c1, rfl, o1, k1, m1⟩
  have EX1 := Kp.mk (m1.ext X0.out (fun k hk => by rw [List.mem_singleton.1 hk]; exact Nat.le_refl _))
  have B2 := Kp.mk (mkBits k1 (HS.out.ext EX1.out) (bitsB_0 s) (by have := HL.out.2.2.2; omega))
  rw [show BitVec.ofNat 8 (0 : Int).toNat :: s = 0 :: s from rfl] at B2
  have O1 := Kp.mk (And.intro o1 k1)
  clear o1 k1 m1 KD K0
  go_wp2_with fail
  refine B2.out.mono ?_
  rintro e w2 ⟨A2, n2, c2, rfl, o2, k2, m2⟩
  have O1 := Kp.mk (own_mk O1.out.1 O1.out.2 m2)
  have EX2 := Kp.mk (m2.ext EX1.out (fun k hk => by rw [List.mem_singleton.1 hk]; exact Nat.le_refl _))
  have hl1 := O1.out.bs.len
  have hl2 := o2.bs.len
  have hl3 := kndE_len sgnO_ok
  have hl4 := elm_hi 3 (0 :: s)
  have hl5 : (elmK 3 (0 :: s)).length ≤ (elm 3 (0 :: s)).length := by unfold elmK; split <;> simp
  rw [List.length_cons] at hl4
  have hl6 : sgnE.length ≤ 85 := hl3
  have E3 := Kp.mk (mkE3 (m := 48) (t := 39) k2 (by decide) (HX.out.ext EX2.out) O1.out.bs o2.bs (by have := HL.out; omega))
  have XB := Kp.mk (show Ext w2 (w2.alloc (.cells #[.slice A n c, .slice A1 n1 c1, .slice A2 n2 c2] 39)) from (by (repeat (first | assumption | exact Ext.refl _ | apply Ext.drew | apply Ext.drewN | apply Ext.alloc | refine Ext.trans ?_ (by assumption))); first | done | fail))
  clear o2 k2 m2 hl1 hl2 hl3 hl4 hl5 hl6 B2
  go_wp2_with fail
  refine E3.out.mono ?_
  rintro e w3 ⟨A3, n3, c3, rfl, o3, k3, m3⟩
  have EX3 := Kp.mk (m3.ext (EX2.out.trans XB.out) (fun k hk => by rw [List.mem_singleton.1 hk]; exact Nat.le_refl _))
  have L3 : Kp (w.heap.size ≤ (w2.alloc (.cells #[.slice A n c, .slice A1 n1 c1, .slice A2 n2 c2] 39)).heap.size) := ⟨Nat.le_trans EX2.out.size XB.out.size⟩
  have hz : EncOk x s ∧ elmK 48 (x ++ (sgnE ++ elmK 3 (0 :: s))) = encX x s ∧ noteK (noteK none (amiK (0 :: s))) (amiK (x ++ (sgnE ++ elmK 3 (0 :: s)))) = none ∨ ¬ EncOk x s ∧ noteK (noteK none (amiK (0 :: s))) (amiK (x ++ (sgnE ++ elmK 3 (0 :: s)))) = some 4 := by
    unfold EncOk
    by_cases h1 : s.length + 1 ≤ 65535
    · rw [elmK_le (m := 3) (x := 0 :: s) (by rw [List.length_cons]; exact h1), amiK_le (x := 0 :: s) (by rw [List.length_cons]; exact h1)]
      by_cases h2 : (encI x s).length ≤ 65535
      · left
        unfold encI at h2
        rw [elmK_le h2, amiK_le h2]
        exact ⟨⟨h1, h2⟩, rfl, rfl⟩
      · right
        unfold encI at h2
        exact ⟨fun h => h2 h.2, by unfold amiK; rw [if_neg h2]; rfl⟩
    · right
      exact ⟨fun h => h1 h.1, by rw [show amiK (0 :: s) = some 4 from if_neg (by rw [List.length_cons]; exact h1)]; rfl⟩
  rcases hz with ⟨hok, e1, e2⟩ | ⟨hno, e2⟩
  · rw [e2] at k3
    rw [e1] at o3
    have TD := Kp.mk (mkTold_none (A := A3) (n := n3) (c := c3) k3)
    have O3 := Kp.mk (And.intro hok o3)
    clear e1 e2 o3 k3 m3 hok
    go_wp2_with fail
    refine TD.out.mono ?_
    rintro e w4 ⟨rfl, x4⟩
    have X4 := Kp.mk x4
    clear x4
    go_wp2_with fail
    go_ret2
    exact .inl ⟨O3.out.1, _, _, _, rfl, (O3.out.2.ext X4.out).lower L3.out, EX3.out.trans X4.out⟩
  · rw [e2] at k3
    have TD := Kp.mk (mkTold_some (A := A3) (n := n3) (c := c3) k3)
    have O3 := Kp.mk hno
    clear e2 o3 k3 m3 hno
    go_wp2_with fail
    refine TD.out.mono ?_
    rintro e w4 ⟨rfl, x4⟩
    have X4 := Kp.mk x4
    clear x4
    go_wp2_with fail
    go_ret2
    exact .inr ⟨O3.out, rfl, EX3.out.trans X4.out⟩
end Go.Proofs.YtkdjhklnlnfhfaaGreatDoor
namespace Go.Proofs.YtkdjhklnlnfhfaaGreatDoor
open Go Go.RowKit
set_option maxRecDepth 4000

abbrev tmt : TypeId := 27
/-- six ints that are a moment, and the moment's cells -/
def tci (y mo d h mi s : Int) : Array Value := #[.int .i64 y, .int .i64 mo, .int .i64 d, .int .i64 h, .int .i64 mi, .int .i64 s]
def tcs (t : Tmt) : Array Value := tci t.y t.mo t.d t.h t.mi t.s
def MayI (y mo d h mi s : Int) : Prop := ∃ t, MayT t ∧ y = (t.y : Int) ∧ mo = (t.mo : Int) ∧ d = (t.d : Int) ∧ h = (t.h : Int) ∧ mi = (t.mi : Int) ∧ s = (t.s : Int)
/-- what is amiss first -/
theorem may_cases (y mo d h mi s : Int) : MayI y mo d h mi s ∨ (¬ MayI y mo d h mi s ∧ (¬ (1 ≤ y ∧ y ≤ 9999) ∨ ((1 ≤ y ∧ y ≤ 9999) ∧ ¬ (1 ≤ mo ∧ mo ≤ 12)) ∨
    ∃ Y M : Nat, y = (Y : Int) ∧ mo = (M : Int) ∧ (1 ≤ Y ∧ Y ≤ 9999) ∧ (1 ≤ M ∧ M ≤ 12) ∧ (¬ (1 ≤ d ∧ d ≤ (dimM Y M : Int)) ∨ ((1 ≤ d ∧ d ≤ (dimM Y M : Int)) ∧ ¬ (0 ≤ h ∧ h ≤ 23)) ∨ ((1 ≤ d ∧ d ≤ (dimM Y M : Int)) ∧ (0 ≤ h ∧ h ≤ 23) ∧ ¬ (0 ≤ mi ∧ mi ≤ 59)) ∨
      ((1 ≤ d ∧ d ≤ (dimM Y M : Int)) ∧ (0 ≤ h ∧ h ≤ 23) ∧ (0 ≤ mi ∧ mi ≤ 59) ∧ ¬ (0 ≤ s ∧ s ≤ 59))))) := by
  have hN : ∀ {P : Prop}, (∀ t, MayT t → y = (t.y : Int) → mo = (t.mo : Int) → d = (t.d : Int) → h = (t.h : Int) → mi = (t.mi : Int) → s = (t.s : Int) → P → False) → P → ¬ MayI y mo d h mi s := fun hp hP ⟨t, ht, a, b, c, e, f, g⟩ => hp t ht a b c e f g hP
  by_cases h1 : 1 ≤ y ∧ y ≤ 9999
  · by_cases h2 : 1 ≤ mo ∧ mo ≤ 12
    · obtain ⟨Y, rfl⟩ : ∃ Y : Nat, y = (Y : Int) := ⟨y.toNat, by omega⟩
      obtain ⟨M, rfl⟩ : ∃ M : Nat, mo = (M : Int) := ⟨mo.toNat, by omega⟩
      have k1 : 1 ≤ Y ∧ Y ≤ 9999 := by omega
      have k2 : 1 ≤ M ∧ M ≤ 12 := by omega
      have hD : ∀ t : Tmt, (Y : Int) = (t.y : Int) → (M : Int) = (t.mo : Int) → dimM Y M = dimM t.y t.mo := fun t a b => by
        rw [show Y = t.y by omega, show M = t.mo by omega]
      by_cases h3 : 1 ≤ d ∧ d ≤ (dimM Y M : Int)
      · by_cases h4 : 0 ≤ h ∧ h ≤ 23
        · by_cases h5 : 0 ≤ mi ∧ mi ≤ 59
          · by_cases h6 : 0 ≤ s ∧ s ≤ 59
            · refine .inl ⟨⟨Y, M, d.toNat, h.toNat, mi.toNat, s.toNat⟩, ⟨k1.1, k1.2, k2.1, k2.2, ?_, ?_, ?_, ?_, ?_⟩, rfl, rfl, ?_, ?_, ?_, ?_⟩
              all_goals first | (show 1 ≤ d.toNat; omega) | (show d.toNat ≤ dimM Y M; omega) | (show h.toNat ≤ 23; omega) | (show mi.toNat ≤ 59; omega) | (show s.toNat ≤ 59; omega) | (show d = (d.toNat : Int); omega) | (show h = (h.toNat : Int); omega) | (show mi = (mi.toNat : Int); omega) | (show s = (s.toNat : Int); omega)
            · exact .inr ⟨hN (fun t ht _ _ _ _ _ g hP => hP (by have := ht.s2; omega)) h6, .inr (.inr ⟨Y, M, rfl, rfl, k1, k2, .inr (.inr (.inr ⟨h3, h4, h5, h6⟩))⟩)⟩
          · exact .inr ⟨hN (fun t ht _ _ _ _ f _ hP => hP (by have := ht.i2; omega)) h5, .inr (.inr ⟨Y, M, rfl, rfl, k1, k2, .inr (.inr (.inl ⟨h3, h4, h5⟩))⟩)⟩
        · exact .inr ⟨hN (fun t ht _ _ _ e _ _ hP => hP (by have := ht.h2; omega)) h4, .inr (.inr ⟨Y, M, rfl, rfl, k1, k2, .inr (.inl ⟨h3, h4⟩)⟩)⟩
      · exact .inr ⟨hN (fun t ht a b c _ _ _ hP => hP (by have h7 := ht.d1; have h8 := ht.d2; have h9 := hD t a b; omega)) h3, .inr (.inr ⟨Y, M, rfl, rfl, k1, k2, .inl h3⟩)⟩
    · exact .inr ⟨hN (fun t ht _ b _ _ _ _ hP => hP (by have := ht.m1; have := ht.m2; omega)) h2, .inr (.inl ⟨h1, h2⟩)⟩
  · exact .inr ⟨hN (fun t ht a _ _ _ _ _ hP => hP (by have := ht.y1; have := ht.y2; omega)) h1, .inl h1⟩
set_option maxHeartbeats 4000000 in
theorem isTime_no1 (y mo d h mi s _D : Int) (w1 : ∀ w : World, Calls Tryz.prog 224 #[.int .i64 y, .int .i64 1, .int .i64 9999] w fun e w' => e = .returned (.bool false) ∧ w' = w) (w : World) :
    Calls Tryz.prog 180 #[.agg (tci y mo d h mi s)] w fun e w' => e = .returned (.bool false) ∧ Ext w w' := by
  unfold tci
  go_enter Tryz.func180, Tryz.ntmps180
  go_wp2_with fail
  go_quiet (first | (go_at_call 224; first | with_reducible exact Calls.quiet_of_same (w1 _)) | fail)
  go_wp2_with fail
  go_ret
  exact ⟨rfl, (by (repeat (first | assumption | exact Ext.refl _ | apply Ext.drew | apply Ext.drewN | apply Ext.alloc | refine Ext.trans ?_ (by assumption))); first | done | fail)⟩
set_option maxHeartbeats 4000000 in
theorem isTime_no2 (y mo d h mi s _D : Int) (w1 : ∀ w : World, Calls Tryz.prog 224 #[.int .i64 y, .int .i64 1, .int .i64 9999] w fun e w' => e = .returned (.bool true) ∧ w' = w) (w2 : ∀ w : World, Calls Tryz.prog 224 #[.int .i64 mo, .int .i64 1, .int .i64 12] w fun e w' => e = .returned (.bool false) ∧ w' = w) (w : World) :
    Calls Tryz.prog 180 #[.agg (tci y mo d h mi s)] w fun e w' => e = .returned (.bool false) ∧ Ext w w' := by
  unfold tci
  go_enter Tryz.func180, Tryz.ntmps180
  go_wp2_with fail
  go_quiet (first | (go_at_call 224; first | with_reducible exact Calls.quiet_of_same (w1 _) | with_reducible exact Calls.quiet_of_same (w2 _)) | fail)
  go_wp2_with fail
  go_ret
  exact ⟨rfl, (by (repeat (first | assumption | exact Ext.refl _ | apply Ext.drew | apply Ext.drewN | apply Ext.alloc | refine Ext.trans ?_ (by assumption))); first | done | fail)⟩
set_option maxHeartbeats 4000000 in
theorem isTime_no3 (y mo d h mi s D : Int) (w1 : ∀ w : World, Calls Tryz.prog 224 #[.int .i64 y, .int .i64 1, .int .i64 9999] w fun e w' => e = .returned (.bool true) ∧ w' = w) (w2 : ∀ w : World, Calls Tryz.prog 224 #[.int .i64 mo, .int .i64 1, .int .i64 12] w fun e w' => e = .returned (.bool true) ∧ w' = w) (w3 : ∀ w : World, Calls Tryz.prog 224 #[.int .i64 d, .int .i64 1, .int .i64 D] w fun e w' => e = .returned (.bool false) ∧ w' = w) (hD : ∀ w : World, Calls Tryz.prog 182 #[.int .i64 y, .int .i64 mo] w fun e w' => e = .returned (.int .i64 D) ∧ w' = w) (w : World) :
    Calls Tryz.prog 180 #[.agg (tci y mo d h mi s)] w fun e w' => e = .returned (.bool false) ∧ Ext w w' := by
  unfold tci
  go_enter Tryz.func180, Tryz.ntmps180
  go_wp2_with fail
  go_quiet (first | (go_at_call 224; first | with_reducible exact Calls.quiet_of_same (w1 _) | with_reducible exact Calls.quiet_of_same (w2 _) | with_reducible exact Calls.quiet_of_same (w3 _)) | (go_at_call 182; exact Calls.quiet_of_same (hD _)) | fail)
  go_wp2_with fail
  go_ret
  exact ⟨rfl, (by (repeat (first | assumption | exact Ext.refl _ | apply Ext.drew | apply Ext.drewN | apply Ext.alloc | refine Ext.trans ?_ (by assumption))); first | done | fail)⟩
set_option maxHeartbeats 4000000 in
theorem isTime_no4 (y mo d h mi s D : Int) (w1 : ∀ w : World, Calls Tryz.prog 224 #[.int .i64 y, .int .i64 1, .int .i64 9999] w fun e w' => e = .returned (.bool true) ∧ w' = w) (w2 : ∀ w : World, Calls Tryz.prog 224 #[.int .i64 mo, .int .i64 1, .int .i64 12] w fun e w' => e = .returned (.bool true) ∧ w' = w) (w3 : ∀ w : World, Calls Tryz.prog 224 #[.int .i64 d, .int .i64 1, .int .i64 D] w fun e w' => e = .returned (.bool true) ∧ w' = w) (w4 : ∀ w : World, Calls Tryz.prog 224 #[.int .i64 h, .int .i64 0, .int .i64 23] w fun e w' => e = .returned (.bool false) ∧ w' = w) (hD : ∀ w : World, Calls Tryz.prog 182 #[.int .i64 y, .int .i64 mo] w fun e w' => e = .returned (.int .i64 D) ∧ w' = w) (w : World) :
    Calls Tryz.prog 180 #[.agg (tci y mo d h mi s)] w fun e w' => e = .returned (.bool false) ∧ Ext w w' := by
  unfold tci
  go_enter Tryz.func180, Tryz.ntmps180
  go_wp2_with fail
  go_quiet (first | (go_at_call 224; first | with_reducible exact Calls.quiet_of_same (w1 _) | with_reducible exact Calls.quiet_of_same (w2 _) | with_reducible exact Calls.quiet_of_same (w3 _) | with_reducible exact Calls.quiet_of_same (w4 _)) | (go_at_call 182; exact Calls.quiet_of_same (hD _)) | fail)
  go_wp2_with fail
  go_ret
  exact ⟨rfl, (by (repeat (first | assumption | exact Ext.refl _ | apply Ext.drew | apply Ext.drewN | apply Ext.alloc | refine Ext.trans ?_ (by assumption))); first | done | fail)⟩
set_option maxHeartbeats 4000000 in
theorem isTime_no5 (y mo d h mi s D : Int) (w1 : ∀ w : World, Calls Tryz.prog 224 #[.int .i64 y, .int .i64 1, .int .i64 9999] w fun e w' => e = .returned (.bool true) ∧ w' = w) (w2 : ∀ w : World, Calls Tryz.prog 224 #[.int .i64 mo, .int .i64 1, .int .i64 12] w fun e w' => e = .returned (.bool true) ∧ w' = w) (w3 : ∀ w : World, Calls Tryz.prog 224 #[.int .i64 d, .int .i64 1, .int .i64 D] w fun e w' => e = .returned (.bool true) ∧ w' = w) (w4 : ∀ w : World, Calls Tryz.prog 224 #[.int .i64 h, .int .i64 0, .int .i64 23] w fun e w' => e = .returned (.bool true) ∧ w' = w) (w5 : ∀ w : World, Calls Tryz.prog 224 #[.int .i64 mi, .int .i64 0, .int .i64 59] w fun e w' => e = .returned (.bool false) ∧ w' = w) (hD : ∀ w : World, Calls Tryz.prog 182 #[.int .i64 y, .int .i64 mo] w fun e w' => e = .returned (.int .i64 D) ∧ w' = w) (w : World) :
    Calls Tryz.prog 180 #[.agg (tci y mo d h mi s)] w fun e w' => e = .returned (.bool false) ∧ Ext w w' := by
  unfold tci
  go_enter Tryz.func180, Tryz.ntmps180
  go_wp2_with fail
  go_quiet (first | (go_at_call 224; first | with_reducible exact Calls.quiet_of_same (w1 _) | with_reducible exact Calls.quiet_of_same (w2 _) | with_reducible exact Calls.quiet_of_same (w3 _) | with_reducible exact Calls.quiet_of_same (w4 _) | with_reducible exact Calls.quiet_of_same (w5 _)) | (go_at_call 182; exact Calls.quiet_of_same (hD _)) | fail)
  go_wp2_with fail
  go_ret
  exact ⟨rfl, (by (repeat (first | assumption | exact Ext.refl _ | apply Ext.drew | apply Ext.drewN | apply Ext.alloc | refine Ext.trans ?_ (by assumption))); first | done | fail)⟩
set_option maxHeartbeats 4000000 in
theorem isTime_no6 (y mo d h mi s D : Int) (w1 : ∀ w : World, Calls Tryz.prog 224 #[.int .i64 y, .int .i64 1, .int .i64 9999] w fun e w' => e = .returned (.bool true) ∧ w' = w) (w2 : ∀ w : World, Calls Tryz.prog 224 #[.int .i64 mo, .int .i64 1, .int .i64 12] w fun e w' => e = .returned (.bool true) ∧ w' = w) (w3 : ∀ w : World, Calls Tryz.prog 224 #[.int .i64 d, .int .i64 1, .int .i64 D] w fun e w' => e = .returned (.bool true) ∧ w' = w) (w4 : ∀ w : World, Calls Tryz.prog 224 #[.int .i64 h, .int .i64 0, .int .i64 23] w fun e w' => e = .returned (.bool true) ∧ w' = w) (w5 : ∀ w : World, Calls Tryz.prog 224 #[.int .i64 mi, .int .i64 0, .int .i64 59] w fun e w' => e = .returned (.bool true) ∧ w' = w) (w6 : ∀ w : World, Calls Tryz.prog 224 #[.int .i64 s, .int .i64 0, .int .i64 59] w fun e w' => e = .returned (.bool false) ∧ w' = w) (hD : ∀ w : World, Calls Tryz.prog 182 #[.int .i64 y, .int .i64 mo] w fun e w' => e = .returned (.int .i64 D) ∧ w' = w) (w : World) :
    Calls Tryz.prog 180 #[.agg (tci y mo d h mi s)] w fun e w' => e = .returned (.bool false) ∧ Ext w w' := by
  unfold tci
  go_enter Tryz.func180, Tryz.ntmps180
  go_wp2_with fail
  go_quiet (first | (go_at_call 224; first | with_reducible exact Calls.quiet_of_same (w1 _) | with_reducible exact Calls.quiet_of_same (w2 _) | with_reducible exact Calls.quiet_of_same (w3 _) | with_reducible exact Calls.quiet_of_same (w4 _) | with_reducible exact Calls.quiet_of_same (w5 _) | with_reducible exact Calls.quiet_of_same (w6 _)) | (go_at_call 182; exact Calls.quiet_of_same (hD _)) | fail)
  go_wp2_with fail
  go_ret
  exact ⟨rfl, (by (repeat (first | assumption | exact Ext.refl _ | apply Ext.drew | apply Ext.drewN | apply Ext.alloc | refine Ext.trans ?_ (by assumption))); first | done | fail)⟩
set_option maxHeartbeats 4000000 in
theorem isTime_yes (y mo d h mi s D : Int) (w1 : ∀ w : World, Calls Tryz.prog 224 #[.int .i64 y, .int .i64 1, .int .i64 9999] w fun e w' => e = .returned (.bool true) ∧ w' = w) (w2 : ∀ w : World, Calls Tryz.prog 224 #[.int .i64 mo, .int .i64 1, .int .i64 12] w fun e w' => e = .returned (.bool true) ∧ w' = w) (w3 : ∀ w : World, Calls Tryz.prog 224 #[.int .i64 d, .int .i64 1, .int .i64 D] w fun e w' => e = .returned (.bool true) ∧ w' = w) (w4 : ∀ w : World, Calls Tryz.prog 224 #[.int .i64 h, .int .i64 0, .int .i64 23] w fun e w' => e = .returned (.bool true) ∧ w' = w) (w5 : ∀ w : World, Calls Tryz.prog 224 #[.int .i64 mi, .int .i64 0, .int .i64 59] w fun e w' => e = .returned (.bool true) ∧ w' = w) (w6 : ∀ w : World, Calls Tryz.prog 224 #[.int .i64 s, .int .i64 0, .int .i64 59] w fun e w' => e = .returned (.bool true) ∧ w' = w) (hD : ∀ w : World, Calls Tryz.prog 182 #[.int .i64 y, .int .i64 mo] w fun e w' => e = .returned (.int .i64 D) ∧ w' = w) (w : World) :
    Calls Tryz.prog 180 #[.agg (tci y mo d h mi s)] w fun e w' => e = .returned (.bool true) ∧ Ext w w' := by
  unfold tci
  go_enter Tryz.func180, Tryz.ntmps180
  go_wp2_with fail
  go_quiet (first | (go_at_call 224; first | with_reducible exact Calls.quiet_of_same (w1 _) | with_reducible exact Calls.quiet_of_same (w2 _) | with_reducible exact Calls.quiet_of_same (w3 _) | with_reducible exact Calls.quiet_of_same (w4 _) | with_reducible exact Calls.quiet_of_same (w5 _) | with_reducible exact Calls.quiet_of_same (w6 _)) | (go_at_call 182; exact Calls.quiet_of_same (hD _)) | fail)
  go_wp2_with fail
  go_ret
  exact ⟨rfl, (by (repeat (first | assumption | exact Ext.refl _ | apply Ext.drew | apply Ext.drewN | apply Ext.alloc | refine Ext.trans ?_ (by assumption))); first | done | fail)⟩
theorem isTime_any (y mo d h mi s : Int) (w : World) (b : Bool) (hb : b = true ↔ MayI y mo d h mi s) : Calls Tryz.prog 180 #[.agg (tci y mo d h mi s)] w fun e w' => e = .returned (.bool b) ∧ Ext w w' := by
  rcases may_cases y mo d h mi s with hM | ⟨hM, hN⟩
  · obtain rfl : b = true := hb.2 hM
    obtain ⟨t, ht, rfl, rfl, rfl, rfl, rfl, rfl⟩ := hM
    exact isTime_yes _ _ _ _ _ _ (dimM t.y t.mo : Int) (within_yes _ _ _ (by have := ht.y1; omega) (by have := ht.y2; omega)) (within_yes _ _ _ (by have := ht.m1; omega) (by have := ht.m2; omega)) (within_yes _ _ _ (by have := ht.d1; omega) (by have := ht.d2; omega)) (within_yes _ _ _ (by omega) (by have := ht.h2; omega)) (within_yes _ _ _ (by omega) (by have := ht.i2; omega)) (within_yes _ _ _ (by omega) (by have := ht.s2; omega)) (daysOf_any t.y t.mo ⟨ht.m1, ht.m2⟩) w
  · have hbf : b = false := by
      cases b with
      | false => rfl
      | true => exact absurd (hb.1 rfl) hM
    subst hbf
    rcases hN with h1 | ⟨h1, h2⟩ | ⟨Y, M, rfl, rfl, k1, k2, h3⟩
    · exact isTime_no1 _ _ _ _ _ _ 0 (within_no _ _ _ h1) w
    · exact isTime_no2 _ _ _ _ _ _ 0 (within_yes _ _ _ h1.1 h1.2) (within_no _ _ _ h2) w
    · have w1 := within_yes (Y : Int) 1 9999 (by omega) (by omega)
      have w2 := within_yes (M : Int) 1 12 (by omega) (by omega)
      have hD := daysOf_any Y M k2
      rcases h3 with h3 | ⟨h3, h4⟩ | ⟨h3, h4, h5⟩ | ⟨h3, h4, h5, h6⟩
      · exact isTime_no3 _ _ _ _ _ _ _ w1 w2 (within_no _ _ _ h3) hD w
      · exact isTime_no4 _ _ _ _ _ _ _ w1 w2 (within_yes _ _ _ h3.1 h3.2) (within_no _ _ _ h4) hD w
      · exact isTime_no5 _ _ _ _ _ _ _ w1 w2 (within_yes _ _ _ h3.1 h3.2) (within_yes _ _ _ h4.1 h4.2) (within_no _ _ _ h5) hD w
      · exact isTime_no6 _ _ _ _ _ _ _ w1 w2 (within_yes _ _ _ h3.1 h3.2) (within_yes _ _ _ h4.1 h4.2) (within_yes _ _ _ h5.1 h5.2) (within_no _ _ _ h6) hD w
end Go.Proofs.YtkdjhklnlnfhfaaGreatDoor
namespace Go.Proofs.YtkdjhklnlnfhfaaGreatDoor
open Go Go.RowKit
set_option maxRecDepth 4000

theorem d2_one (n : Nat) (h : n < 100) : IntKind.u8.wrap (48 + IntKind.u8.wrap ((n / 10 : Nat) : Int)) = ub (gb (d2 n) 0) ∧ IntKind.u8.wrap (48 + IntKind.u8.wrap ((n % 10 : Nat) : Int)) = ub (gb (d2 n) 1) := by
  have e0 : gb (d2 n) 0 = BitVec.ofNat 8 (48 + n / 10 % 10) := rfl
  have e1 : gb (d2 n) 1 = BitVec.ofNat 8 (48 + n % 10) := rfl
  rw [e0, e1]
  unfold ub
  rw [BitVec.toNat_ofNat, BitVec.toNat_ofNat, IntKind.wrap_u8, IntKind.wrap_u8, IntKind.wrap_u8, IntKind.wrap_u8]
  omega
set_option maxHeartbeats 2000000 in
theorem withPair_any {w0 w : World} {B : Nat} {v : Value} {m : Nat} {l : List (BitVec 8)} (ho : Own w B v m l) (hx0 : Ext w0 w) (hB0 : w0.heap.size ≤ B) (hBw : B ≤ w.heap.size) (hm : m ≤ 1000000) (n : Nat) (hn : n < 100) :
    Calls Tryz.prog 188 #[v, .int .i64 (n : Int)] w fun e w' => ∃ A c, e = .returned (.slice A (m + 2) c) ∧ Own w' B (.slice A (m + 2) c) (m + 2) (l ++ d2 n) ∧ Ext w0 w' ∧ w.heap.size ≤ w'.heap.size := by
  obtain ⟨A, c, rfl⟩ := ho.form
  obtain ⟨h1, h2⟩ := d2_one n hn
  have e1 : (n : Int).tdiv 10 = _ := td_nat n 10
  have e2 : (n : Int).tmod 10 = _ := tm_nat n 10 (by decide)
  have hd : d2 n = [gb (d2 n) 0, gb (d2 n) 1] := rfl
  have e3 : IntKind.u8.wrap ((n / 10 : Nat) : Int) = ((n / 10 : Nat) : Int) := by rw [IntKind.wrap_u8]; omega
  have e4 : IntKind.u8.wrap ((n % 10 : Nat) : Int) = ((n % 10 : Nat) : Int) := by rw [IntKind.wrap_u8]; omega
  have e5 : IntKind.i64.wrap ((n / 10 : Nat) : Int) = ((n / 10 : Nat) : Int) := by rw [IntKind.wrap_i64]; omega
  rw [e3] at h1
  rw [e4] at h2
  rw [hd]
  generalize gb (d2 n) 0 = x at *
  generalize gb (d2 n) 1 = y at *
  generalize n / 10 = q at *
  generalize n % 10 = r at *
  have HO := Kp.mk ho
  have HX := Kp.mk hx0
  clear ho hx0 hd
  go_enter Tryz.func188, Tryz.ntmps188
  go_wp2_with (first | (at_builtin; refine wpList_append_bs rfl (.tmp 5) (.tmp 14) rfl B _ m l rfl (HO.out.ext (by (repeat (first | assumption | exact Ext.refl _ | apply Ext.drew | apply Ext.drewN | apply Ext.alloc | refine Ext.trans ?_ (by assumption))); first | done | fail)) _ 2 2 [x, y] rfl (const_bs w _ [x, y] 2 2 (0, 0) rfl rfl (by decide)) (by omega) (m + 2) rfl (l ++ [x, y]) rfl w0 (HX.out.trans (by (repeat (first | assumption | exact Ext.refl _ | apply Ext.drew | apply Ext.drewN | apply Ext.alloc | refine Ext.trans ?_ (by assumption))); first | done | fail)) hB0 (Nat.le_trans hBw (by simp)) ?_; intro A4 c4 w4 ho4 hx4 hap4) | fail)
  go_ret
  exact ⟨A4, c4, rfl, ho4, hx4, Nat.le_trans (by simp) hap4.grown.size⟩
end Go.Proofs.YtkdjhklnlnfhfaaGreatDoor
