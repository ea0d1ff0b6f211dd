/-
  The walk of the law NatStays.
-/
import Derived.Test.YtpmoaccaknfodaaOl
namespace Go.Proofs.Ytpmoaccaknfodaa
open Go Go.RowKit

/-- rows of limbs that read alike are the same -/
theorem same_any {l : List Nat} {A B : Option Addr} {n c m d : Nat} {w : World} (ha : Rd vL w A n c l) (hb : Rd vL w B m d l) (hn : n ≤ 9223372036854775807) :
    Calls Try.prog 32 #[.slice A n c, .slice B m d] w fun e w' => e = .returned (.bool true) ∧ ∃ k, w' = w.drewN k := by
  obtain rfl : n = m := ha.len.symm.trans hb.len
  have HA := Kp.mk ha
  have HB := Kp.mk hb
  clear ha hb
  go_enter Try.func32, Try.ntmps32
  go_wp2_with fail
  go_loopw [5] (fun iv wr => ∃ i k : Nat, i ≤ n ∧ iv = .int .i64 (i : Int) ∧ wr = w.drewN k) (fun i _ => n - (intOf i).toNat)
  case atStart => exact ⟨0, 0, by omega, rfl, rfl⟩
  case round =>
    obtain ⟨i, k, hi, rfl, rfl⟩ := hrel
    by_cases hlt : i < n
    · obtain ⟨g, o, rfl⟩ := HA.out.some_ (by omega)
      obtain ⟨g2, o2, rfl⟩ := HB.out.some_ (by omega)
      have b0 : (i : Int) < (n : Int) := by omega
      have b1 : (i : Int) < 9223372036854775807 := by omega
      have k1 : w.cell? ⟨g, o + i, none⟩ = some (.int .u32 (dg l i : Int)) := HA.out.dig i hlt
      have k2 : w.cell? ⟨g2, o2 + i, none⟩ = some (.int .u32 (dg l i : Int)) := HB.out.dig i hlt
      generalize dg l i = x at *
      go_wp2_with fail
      go_quiet (fail)
      go_wp2_with fail
      go_roundw
      case rel => exact ⟨i + 1, k + nq, by omega, by go_num, by simp⟩
      case measure => simp [intOf]; omega
    · obtain rfl : i = n := by omega
      go_wp2_with fail
      go_ret
      exact ⟨rfl, k, rfl⟩
theorem drewN_ext {w w' : World} (h : ∃ k, w' = w.drewN k) : Ext w w' := by
  obtain ⟨k, rfl⟩ := h
  exact (by (repeat (first | assumption | exact Ext.refl _ | apply Ext.drew | apply Ext.drewN | apply Ext.alloc | refine Ext.trans ?_ (by assumption))); first | done | fail)
/-- what is told, and whether it is amiss: one number, two -/
def Op1 (w : World) (E : Value) (L : List Nat) (e : Ending) (w' : World) : Prop := ∃ A n c, e = .returned (.tuple #[.slice A n c, E]) ∧ Rw ut vL w' w.heap.size (.slice A n c) n L ∧ Ext w w'
def Op2 (w : World) (E : Value) (L M : List Nat) (e : Ending) (w' : World) : Prop :=
  ∃ A n c A' n' c', e = .returned (.tuple #[.slice A n c, .slice A' n' c', E]) ∧ Rw ut vL w' w.heap.size (.slice A n c) n L ∧ Rw ut vL w' w.heap.size (.slice A' n' c') n' M ∧ Ext w w'
theorem Op1.bad {w : World} {k : Int} {e : Ending} {w' : World} (h : Bad1 w k e w') : Op1 w (err k) [] e w' := ⟨none, 0, 0, h.1, Rw.nil _ _, h.2⟩
theorem Op2.bad {w : World} {k : Int} {e : Ending} {w' : World} (h : Bad2 w k e w') : Op2 w (err k) [] [] e w' := ⟨none, 0, 0, none, 0, 0, h.1, Rw.nil _ _, Rw.nil _ _, h.2⟩
/-- the ways that two numbers can go -/
structure Way (va vb : Nat) (ED EX EI : Value) (LS LQ LR LX LI : List Nat) : Prop where
  lS : LS.length ≤ 21
  S : ∀ {w : World} {A B : Option Addr} {n c m d : Nat}, Nv w A n c va → Nv w B m d vb → Calls Try.prog 17 #[.slice A n c, .slice B m d] w (Op1 w .nilIface LS)
  D : ∀ {w : World} {A B : Option Addr} {n c m d : Nat}, Nv w A n c va → Nv w B m d vb → Calls Try.prog 25 #[.slice A n c, .slice B m d] w (Op2 w ED LQ LR)
  X : ∀ {w : World} {A B C : Option Addr} {n c m d k f : Nat}, Nv w A n c va → Nv w C k f 3 → Nv w B m d vb → Calls Try.prog 27 #[.slice A n c, .slice C k f, .slice B m d] w (Op1 w EX LX)
  I : ∀ {w : World} {A B : Option Addr} {n c m d : Nat}, Nv w A n c va → Nv w B m d vb → Calls Try.prog 29 #[.slice A n c, .slice B m d] w (Op1 w EI LI)
theorem ways {va vb : Nat} (la : va < BB ^ 20) (lb : vb < BB ^ 6) : ∃ ED EX EI LS LQ LR LX LI, Way va vb ED EX EI LS LQ LR LX LI ∧
    ((ED = err 1 ∧ EX = err 1 ∧ EI = err 1) ∨ (ED = .nilIface ∧ EX = .nilIface ∧ EI = err 1) ∨ (ED = .nilIface ∧ EX = .nilIface ∧ EI = .nilIface) ∨ (ED = .nilIface ∧ EX = .nilIface ∧ EI = err 13)) := by
  have ha := short_of la (by decide)
  have hb := short_of lb (by decide)
  have lS : (dgs BB (va + vb)).length ≤ 21 := nl_le (lt_add la lb (by decide) (by decide))
  have h3 : ¬ lng 3 := short_of (k := 1) (by decide) (by decide)
  by_cases h0 : vb = 0
  · subst h0
    exact ⟨_, _, _, _, _, _, _, _, ⟨lS, fun na nb => AddV na nb ha hb, fun na nb => (DivV0 na nb ha).mono fun _ _ => Op2.bad, fun na n3 nb => (ExpV0 na n3 nb ha h3).mono fun _ _ => Op1.bad, fun na nb => (InvVlow na nb ha hb (by decide)).mono fun _ _ => Op1.bad⟩, .inl ⟨rfl, rfl, rfl⟩⟩
  · by_cases h2 : vb < 2
    · exact ⟨_, _, _, _, _, _, _, _, ⟨lS, fun na nb => AddV na nb ha hb, fun na nb => DivV na nb ha hb h0, fun na n3 nb => ExpV na n3 nb ha h3 hb h0, fun na nb => (InvVlow na nb ha hb h2).mono fun _ _ => Op1.bad⟩, .inr (.inl ⟨rfl, rfl, rfl⟩)⟩
    · by_cases hg : Nat.gcd vb va = 1
      · exact ⟨_, _, _, _, _, _, _, _, ⟨lS, fun na nb => AddV na nb ha hb, fun na nb => DivV na nb ha hb h0, fun na n3 nb => ExpV na n3 nb ha h3 hb h0, fun na nb => (InvV na nb ha hb (Nat.le_of_not_lt h2)).mono fun _ _ h => h.elim (fun h => h.2) (fun h => absurd hg h.1)⟩, .inr (.inr (.inl ⟨rfl, rfl, rfl⟩))⟩
      · exact ⟨_, _, _, _, _, _, _, _, ⟨lS, fun na nb => AddV na nb ha hb, fun na nb => DivV na nb ha hb h0, fun na n3 nb => ExpV na n3 nb ha h3 hb h0, fun na nb => (InvV na nb ha hb (Nat.le_of_not_lt h2)).mono fun _ _ h => h.elim (fun h => absurd h.1 hg) (fun h => Op1.bad h.2)⟩, .inr (.inr (.inr ⟨rfl, rfl, rfl⟩))⟩
/-- a row of the call's own, where other rows have turned -/
theorem Rw.mds_rd {w w' : World} {B n c : Nat} {A : Option Addr} {l G : List Nat} (h : Rw ut vL w B (.slice A n c) n l) (hm : Mds G w w') (hG : ∀ k, k ∈ G → k < B) : Rd vL w' A n c l :=
  h.rd.mds hm fun hn ad ha hk => by
    obtain ⟨g, e, hB, _⟩ := h.some_ hn
    rw [e] at ha
    cases ha
    exact absurd (Nat.lt_of_lt_of_le (hG _ hk) hB) (Nat.lt_irrefl _)
theorem Rw.max {w : World} {B n : Nat} {v : Value} {l : List Nat} (h : Rw ut vL w B v n l) : n ≤ 9223372036854775807 := by
  rcases h.o.2 with ⟨_, h2⟩ | ⟨g, cap, cur, h1, h3, h4, h5, h6, _⟩
  · omega
  · unfold maxLen at h6; omega
theorem Rw.mds {w w' : World} {B n : Nat} {v : Value} {l G : List Nat} (h : Rw ut vL w B v n l) (hm : Mds G w w') (hG : ∀ k, k ∈ G → k < B) : Rw ut vL w' B v n l := by
  refine ⟨h.o.1, ?_⟩
  rcases h.o.2 with h2 | ⟨g, cap, cur, h1, h3, h4, h5⟩
  · exact .inl h2
  · exact .inr ⟨g, cap, cur, h1, h3, (hm.block g (Array.getElem?_eq_some_iff.1 h4).1 fun hk => absurd (Nat.lt_of_lt_of_le (hG g hk) h3) (Nat.lt_irrefl _)).trans h4, h5⟩
/-- what was told, kept apart -/
structure Six (w : World) (B : Nat) (s k q r p i : Value) (ns nk nq nr np ni : Nat) (LS LQ LR LX LI : List Nat) : Prop where
  s : Rw ut vL w B s ns LS
  k : Rw ut vL w B k nk LS
  q : Rw ut vL w B q nq LQ
  r : Rw ut vL w B r nr LR
  p : Rw ut vL w B p np LX
  i : Rw ut vL w B i ni LI
theorem Six.mds {w w' : World} {B : Nat} {s k q r p i : Value} {ns nk nq nr np ni : Nat} {LS LQ LR LX LI G : List Nat} (h : Six w B s k q r p i ns nk nq nr np ni LS LQ LR LX LI) (hm : Mds G w w') (hG : ∀ k, k ∈ G → k < B) : Six w' B s k q r p i ns nk nq nr np ni LS LQ LR LX LI :=
  ⟨h.s.mds hm hG, h.k.mds hm hG, h.q.mds hm hG, h.r.mds hm hG, h.p.mds hm hG, h.i.mds hm hG⟩
theorem Six.ext {w w' : World} {B : Nat} {s k q r p i : Value} {ns nk nq nr np ni : Nat} {LS LQ LR LX LI : List Nat} (h : Six w B s k q r p i ns nk nq nr np ni LS LQ LR LX LI) (hx : Ext w w') : Six w' B s k q r p i ns nk nq nr np ni LS LQ LR LX LI :=
  ⟨h.s.ext hx, h.k.ext hx, h.q.ext hx, h.r.ext hx, h.p.ext hx, h.i.ext hx⟩
/-- where a row lies -/
theorem Rw.lies {w : World} {B n c : Nat} {A : Option Addr} {l : List Nat} (h : Rw ut vL w B (.slice A n c) n l) : ∃ G : List Nat, (∀ k, k ∈ G → B ≤ k ∧ k < w.heap.size) ∧ (0 < n → ∃ g, A = some ⟨g, 0, none⟩ ∧ g ∈ G) := by
  by_cases hn : 0 < n
  · obtain ⟨g, e, h1, h2⟩ := h.some_ hn
    exact ⟨[g], fun k hk => by rw [List.mem_singleton.1 hk]; exact ⟨h1, h2⟩, fun _ => ⟨g, e, by simp⟩⟩
  · exact ⟨[], fun k hk => by simp at hk, fun h => absurd h hn⟩
set_option maxHeartbeats 8000000 in
set_option maxRecDepth 100000 in
theorem NatStays_any {a b : List Nat} {Aa Ab : Option Addr} {na nb ca cb : Nat} {w : World} (ha : Rd vL w Aa na ca a) (hb : Rd vL w Ab nb cb b) (da : Dg BB a) (db : Dg BB b) :
    Calls Try.prog 11 #[.slice Aa na ca, .slice Ab nb cb] w fun e w' => e = .returned (.bool true) ∧ Below w.heap.size w w' := by
  have HU := Kp.mk (up_any w)
  have hcs : (na ≤ 20 ∧ nb ≤ 6) ∨ 20 < na ∨ (na ≤ 20 ∧ 6 < nb) := by omega
  rcases hcs with ⟨hna, hnb⟩ | hna | ⟨hna, hnb⟩
  · have ba : decide ((20 : Int) < (na : Int)) = false := decide_eq_false (by omega)
    have la : vl BB a < BB ^ 20 := Nat.lt_of_lt_of_le (vl_len ha da) (Nat.pow_le_pow_right (n := BB) (by decide) hna)
    have bb : decide ((6 : Int) < (nb : Int)) = false := decide_eq_false (by omega)
    have lb : vl BB b < BB ^ 6 := Nat.lt_of_lt_of_le (vl_len hb db) (Nat.pow_le_pow_right (n := BB) (by decide) hnb)
    obtain ⟨ED, EX, EI, LS, LQ, LR, LX, LI, hw, hE⟩ := ways la lb
    have HW := Kp.mk hw
    have HA := Kp.mk (And.intro ha da)
    have HB := Kp.mk (And.intro hb db)
    clear la lb hw ha da hb db
    rcases hE with ⟨rfl, rfl, rfl⟩ | ⟨rfl, rfl, rfl⟩ | ⟨rfl, rfl, rfl⟩ | ⟨rfl, rfl, rfl⟩
    all_goals
      go_enter Try.func11, Try.ntmps11
      go_wp2_with fail
      refine (HU.out).mono ?_
      rintro e w1 ⟨rfl, x1⟩
      have hsz1 : w.heap.size ≤ w1.heap.size := x1.size
      go_wp2_with (first | (at_builtin; refine wpList_append_L rfl (.tmp 40) (.tmp 41) rfl w1.heap.size _ 0 [] rfl (lit_own _ w1 [] #[] rfl 0 rfl (by decide) _ rfl (show Ext w1 _ from (by (repeat (first | assumption | exact Ext.refl _ | apply Ext.drew | apply Ext.drewN | apply Ext.alloc | refine Ext.trans ?_ (by assumption))); first | done | fail)).size) _ _ _ _ rfl (HA.out.1.ext (x1.trans (by (repeat (first | assumption | exact Ext.refl _ | apply Ext.drew | apply Ext.drewN | apply Ext.alloc | refine Ext.trans ?_ (by assumption))); first | done | fail))) (by omega) na (by omega) a rfl w1 (by (repeat (first | assumption | exact Ext.refl _ | apply Ext.drew | apply Ext.drewN | apply Ext.alloc | refine Ext.trans ?_ (by assumption))); first | done | fail) (Nat.le_refl _) (show Ext w1 _ from (by (repeat (first | assumption | exact Ext.refl _ | apply Ext.drew | apply Ext.drewN | apply Ext.alloc | refine Ext.trans ?_ (by assumption))); first | done | fail)).size ?_; intro Ax cx w2 ox x2 _) | (at_builtin; refine wpList_append_L rfl (.tmp 43) (.tmp 44) rfl w2.heap.size _ 0 [] rfl (lit_own _ w2 [] #[] rfl 0 rfl (by decide) _ rfl (show Ext w2 _ from (by (repeat (first | assumption | exact Ext.refl _ | apply Ext.drew | apply Ext.drewN | apply Ext.alloc | refine Ext.trans ?_ (by assumption))); first | done | fail)).size) _ _ _ _ rfl (HB.out.1.ext (x1.trans (x2.trans (by (repeat (first | assumption | exact Ext.refl _ | apply Ext.drew | apply Ext.drewN | apply Ext.alloc | refine Ext.trans ?_ (by assumption))); first | done | fail)))) (by omega) nb (by omega) b rfl w2 (by (repeat (first | assumption | exact Ext.refl _ | apply Ext.drew | apply Ext.drewN | apply Ext.alloc | refine Ext.trans ?_ (by assumption))); first | done | fail) (Nat.le_refl _) (show Ext w2 _ from (by (repeat (first | assumption | exact Ext.refl _ | apply Ext.drew | apply Ext.drewN | apply Ext.alloc | refine Ext.trans ?_ (by assumption))); first | done | fail)).size ?_; intro Ay cy w3 oy x3 _) | fail)
      have NX := Kp.mk (Nv.small (ox.ext x3).rd HA.out.2 (by omega))
      have NY := Kp.mk (Nv.small oy.rd HB.out.2 (by omega))
      obtain ⟨GX, hGX, hgx⟩ := ox.lies
      obtain ⟨GY, hGY, hgy⟩ := oy.lies
      have hGX3 : ∀ k, k ∈ GX → k < w3.heap.size := fun k hk => Nat.lt_of_lt_of_le (hGX k hk).2 x3.size
      have h12 := x2.size
      have OX := Kp.mk (ox.ext x3)
      have OY := Kp.mk oy
      clear ox oy
      refine (HW.out.S NX.out NY.out).mono ?_
      rintro e w4 ⟨As, ns, cs, rfl, os, x4⟩
      have hns : ns ≤ 21 := by have h1 := os.len; have h2 := HW.out.lS; omega
      have OS := Kp.mk os
      clear os
      go_wp2_with fail
      refine (HW.out.D (NX.out.ext (by (repeat (first | assumption | exact Ext.refl _ | apply Ext.drew | apply Ext.drewN | apply Ext.alloc | refine Ext.trans ?_ (by assumption))); first | done | fail)) (NY.out.ext (by (repeat (first | assumption | exact Ext.refl _ | apply Ext.drew | apply Ext.drewN | apply Ext.alloc | refine Ext.trans ?_ (by assumption))); first | done | fail))).mono ?_
      rintro e w5 ⟨Aq, nq, cq, Ar, nr, cr, rfl, oq, or_, x5⟩
      have OQ := Kp.mk (oq.lower x4.size)
      have OR := Kp.mk (or_.lower x4.size)
      clear oq or_
      go_wp2_with fail
      have N3 : Nv (w5.alloc (.cells #[.int .u32 3] ut)) (some ⟨w5.heap.size, 0, none⟩) 1 1 3 := ⟨[3], In1.lit w5 3 3 rfl (by decide) _ rfl, vl_one 3⟩
      refine (HW.out.X (NX.out.ext (by (repeat (first | assumption | exact Ext.refl _ | apply Ext.drew | apply Ext.drewN | apply Ext.alloc | refine Ext.trans ?_ (by assumption))); first | done | fail)) N3 (NY.out.ext (by (repeat (first | assumption | exact Ext.refl _ | apply Ext.drew | apply Ext.drewN | apply Ext.alloc | refine Ext.trans ?_ (by assumption))); first | done | fail))).mono ?_
      clear N3
      rintro e w6 ⟨Ap, np, cp, rfl, op, x6'⟩
      have x6 : Ext w5 w6 := (show Ext w5 (w5.alloc (.cells #[.int .u32 3] ut)) from (by (repeat (first | assumption | exact Ext.refl _ | apply Ext.drew | apply Ext.drewN | apply Ext.alloc | refine Ext.trans ?_ (by assumption))); first | done | fail)).trans x6'
      have OP := Kp.mk (op.lower (show w3.heap.size ≤ (w5.alloc (.cells #[.int .u32 3] ut)).heap.size from (show Ext w3 _ from (by (repeat (first | assumption | exact Ext.refl _ | apply Ext.drew | apply Ext.drewN | apply Ext.alloc | refine Ext.trans ?_ (by assumption))); first | done | fail)).size))
      clear x6' op
      go_wp2_with fail
      refine (HW.out.I (NX.out.ext (by (repeat (first | assumption | exact Ext.refl _ | apply Ext.drew | apply Ext.drewN | apply Ext.alloc | refine Ext.trans ?_ (by assumption))); first | done | fail)) (NY.out.ext (by (repeat (first | assumption | exact Ext.refl _ | apply Ext.drew | apply Ext.drewN | apply Ext.alloc | refine Ext.trans ?_ (by assumption))); first | done | fail))).mono ?_
      rintro e w7 ⟨Ai, ni, ci, rfl, oi, x7⟩
      have OI := Kp.mk (oi.lower (show w3.heap.size ≤ w6.heap.size from (show Ext w3 w6 from (by (repeat (first | assumption | exact Ext.refl _ | apply Ext.drew | apply Ext.drewN | apply Ext.alloc | refine Ext.trans ?_ (by assumption))); first | done | fail)).size))
      clear oi
      go_wp2_with fail
      refine (same_any (OX.out.rd.ext (by (repeat (first | assumption | exact Ext.refl _ | apply Ext.drew | apply Ext.drewN | apply Ext.alloc | refine Ext.trans ?_ (by assumption))); first | done | fail)) (HA.out.1.ext (by (repeat (first | assumption | exact Ext.refl _ | apply Ext.drew | apply Ext.drewN | apply Ext.alloc | refine Ext.trans ?_ (by assumption))); first | done | fail)) (by omega)).mono ?_
      rintro e w8 ⟨rfl, x8'⟩
      have x8 := drewN_ext x8'
      clear x8'
      go_wp2_with fail
      refine (same_any (OY.out.rd.ext (by (repeat (first | assumption | exact Ext.refl _ | apply Ext.drew | apply Ext.drewN | apply Ext.alloc | refine Ext.trans ?_ (by assumption))); first | done | fail)) (HB.out.1.ext (by (repeat (first | assumption | exact Ext.refl _ | apply Ext.drew | apply Ext.drewN | apply Ext.alloc | refine Ext.trans ?_ (by assumption))); first | done | fail)) (by omega)).mono ?_
      rintro e w9 ⟨rfl, x9'⟩
      have x9 := drewN_ext x9'
      clear x9'
      go_wp2_with (first | (at_builtin; refine wpList_append_L rfl (.tmp 80) (.tmp 81) rfl w9.heap.size _ 0 [] rfl (lit_own _ w9 [] #[] rfl 0 rfl (by decide) _ rfl (show Ext w9 _ from (by (repeat (first | assumption | exact Ext.refl _ | apply Ext.drew | apply Ext.drewN | apply Ext.alloc | refine Ext.trans ?_ (by assumption))); first | done | fail)).size) _ _ _ _ rfl (OS.out.rd.ext (by (repeat (first | assumption | exact Ext.refl _ | apply Ext.drew | apply Ext.drewN | apply Ext.alloc | refine Ext.trans ?_ (by assumption))); first | done | fail)) (by omega) ns (by omega) LS rfl w9 (by (repeat (first | assumption | exact Ext.refl _ | apply Ext.drew | apply Ext.drewN | apply Ext.alloc | refine Ext.trans ?_ (by assumption))); first | done | fail) (Nat.le_refl _) (show Ext w9 _ from (by (repeat (first | assumption | exact Ext.refl _ | apply Ext.drew | apply Ext.drewN | apply Ext.alloc | refine Ext.trans ?_ (by assumption))); first | done | fail)).size ?_; intro Ak ck w10 ok x10 _) | fail)
      have H6 := Kp.mk (show Six w10 w3.heap.size (.slice As ns cs) (.slice Ak ns ck) (.slice Aq nq cq) (.slice Ar nr cr) (.slice Ap np cp) (.slice Ai ni ci) ns ns nq nr np ni LS LQ LR LX LI from ⟨OS.out.ext (by (repeat (first | assumption | exact Ext.refl _ | apply Ext.drew | apply Ext.drewN | apply Ext.alloc | refine Ext.trans ?_ (by assumption))); first | done | fail), ok.lower (show Ext w3 w9 from (by (repeat (first | assumption | exact Ext.refl _ | apply Ext.drew | apply Ext.drewN | apply Ext.alloc | refine Ext.trans ?_ (by assumption))); first | done | fail)).size, OQ.out.ext (by (repeat (first | assumption | exact Ext.refl _ | apply Ext.drew | apply Ext.drewN | apply Ext.alloc | refine Ext.trans ?_ (by assumption))); first | done | fail), OR.out.ext (by (repeat (first | assumption | exact Ext.refl _ | apply Ext.drew | apply Ext.drewN | apply Ext.alloc | refine Ext.trans ?_ (by assumption))); first | done | fail), OP.out.ext (by (repeat (first | assumption | exact Ext.refl _ | apply Ext.drew | apply Ext.drewN | apply Ext.alloc | refine Ext.trans ?_ (by assumption))); first | done | fail), OI.out.ext (by (repeat (first | assumption | exact Ext.refl _ | apply Ext.drew | apply Ext.drewN | apply Ext.alloc | refine Ext.trans ?_ (by assumption))); first | done | fail)⟩)
      have OX10 := Kp.mk (OX.out.ext (show Ext w3 w10 from (by (repeat (first | assumption | exact Ext.refl _ | apply Ext.drew | apply Ext.drewN | apply Ext.alloc | refine Ext.trans ?_ (by assumption))); first | done | fail)))
      have OY10 := Kp.mk (OY.out.ext (show Ext w3 w10 from (by (repeat (first | assumption | exact Ext.refl _ | apply Ext.drew | apply Ext.drewN | apply Ext.alloc | refine Ext.trans ?_ (by assumption))); first | done | fail)))
      have X10 := Kp.mk (show Ext w w10 from (by (repeat (first | assumption | exact Ext.refl _ | apply Ext.drew | apply Ext.drewN | apply Ext.alloc | refine Ext.trans ?_ (by assumption))); first | done | fail))
      clear OS OQ OR OP OI OX OY ok NX NY x1 x2 x3 x4 x5 x6 x7 x8 x9 x10
      have hw1 : w1.heap.size ≤ w3.heap.size ∨ True := .inr trivial
      go_loopw [19] (fun iv wr => ∃ (i : Nat) (l : List Nat), i ≤ na ∧ iv = .int .i64 (i : Int) ∧ Rw ut vL wr w1.heap.size (.slice Ax na cx) na l ∧ Mds GX w10 wr) (fun i _ => na - (intOf i).toNat)
      case atStart => exact ⟨0, a, by omega, rfl, OX10.out, Mds.refl _ _⟩
      case round =>
        obtain ⟨i, l, hi, rfl, hl, hm⟩ := hrel
        by_cases hlt : i < na
        · obtain ⟨g, rfl, hg⟩ := hgx (by omega)
          have k3 := hl.cell i _ (dg_in l i (by rw [hl.len]; exact hlt))
          unfold vL at k3
          have k4 := hl.free i
          have HL := Kp.mk (hl.set i ((dg l i + 1) % 4294967296))
          have HM := Kp.mk (hm.setCell (p := ⟨g, i, none⟩) hg (.int .u32 (((dg l i + 1) % 4294967296 : Nat) : Int)))
          have b0 : (i : Int) < (na : Int) := by omega
          have b1 : (i : Int) < 9223372036854775807 := by omega
          unfold vL at HL
          generalize dg l i = x at *
          have e1 : ((x : Int) + 1) % 4294967296 = (((x + 1) % 4294967296 : Nat) : Int) := by omega
          have e2 : IntKind.u32.wrap ((x : Int) + 1) = (((x + 1) % 4294967296 : Nat) : Int) := by rw [IntKind.wrap_u32]; exact e1
          generalize (x + 1) % 4294967296 = y at *
          clear hl hm
          go_wp2_with fail
          go_roundw
          case rel => exact ⟨i + 1, _, by omega, by go_num, HL.out, HM.out⟩
          case measure => simp [intOf]; omega
        · obtain rfl : i = na := by omega
          have HM := Kp.mk hm
          have OYl := Kp.mk (OY10.out.mds hm (fun k hk => (hGX k hk).2))
          have H6l := Kp.mk (H6.out.mds hm hGX3)
          have Xl := Kp.mk (hm.ext X10.out (fun k hk => Nat.le_trans hsz1 (hGX k hk).1))
          clear hl hm H6 OY10 OX10 HM
          go_wp2_with fail
          obtain ⟨wo, rfl⟩ : ∃ wo : World, wo = wr := ⟨_, rfl⟩
          go_loopw [20] (fun iv wq => ∃ (j : Nat) (l : List Nat), j ≤ nb ∧ iv = .int .i64 (j : Int) ∧ Rw ut vL wq w2.heap.size (.slice Ay nb cy) nb l ∧ Mds GY wo wq) (fun i _ => nb - (intOf i).toNat)
          case atStart => exact ⟨0, b, by omega, rfl, OYl.out, Mds.refl _ _⟩
          case round =>
            obtain ⟨j, l, hj, rfl, hl, hm⟩ := hrel
            by_cases hlt : j < nb
            · obtain ⟨g, rfl, hg⟩ := hgy (by omega)
              have k3 := hl.cell j _ (dg_in l j (by rw [hl.len]; exact hlt))
              unfold vL at k3
              have k4 := hl.free j
              have HL := Kp.mk (hl.set j ((dg l j + 1) % 4294967296))
              have HM := Kp.mk (hm.setCell (p := ⟨g, j, none⟩) hg (.int .u32 (((dg l j + 1) % 4294967296 : Nat) : Int)))
              have b0 : (j : Int) < (nb : Int) := by omega
              have b1 : (j : Int) < 9223372036854775807 := by omega
              unfold vL at HL
              generalize dg l j = x at *
              have e1 : ((x : Int) + 1) % 4294967296 = (((x + 1) % 4294967296 : Nat) : Int) := by omega
              have e2 : IntKind.u32.wrap ((x : Int) + 1) = (((x + 1) % 4294967296 : Nat) : Int) := by rw [IntKind.wrap_u32]; exact e1
              generalize (x + 1) % 4294967296 = y at *
              clear hl hm
              go_wp2_with fail
              go_roundw
              case rel => exact ⟨j + 1, _, by omega, by go_num, HL.out, HM.out⟩
              case measure => simp [intOf]; omega
            · obtain rfl : j = nb := by omega
              have H6z := Kp.mk (H6l.out.mds hm (fun k hk => (hGY k hk).2))
              have Xz := Kp.mk (hm.ext Xl.out (fun k hk => Nat.le_trans hsz1 (Nat.le_trans h12 (hGY k hk).1)))
              have NA := Kp.mk (Nv.small (HA.out.1.ext Xz.out) HA.out.2 (by omega))
              have NB := Kp.mk (Nv.small (HB.out.1.ext Xz.out) HB.out.2 (by omega))
              obtain ⟨wz, rfl⟩ : ∃ wz : World, wz = wr := ⟨_, rfl⟩
              clear hl hm H6l OYl Xl
              go_wp2_with fail
              refine (HW.out.S NA.out NB.out).mono ?_
              rintro e w11 ⟨At, nt_, ct, rfl, ot, x11⟩
              have OT := Kp.mk ot
              clear ot
              go_wp2_with fail
              refine (HW.out.D (NA.out.ext (by (repeat (first | assumption | exact Ext.refl _ | apply Ext.drew | apply Ext.drewN | apply Ext.alloc | refine Ext.trans ?_ (by assumption))); first | done | fail)) (NB.out.ext (by (repeat (first | assumption | exact Ext.refl _ | apply Ext.drew | apply Ext.drewN | apply Ext.alloc | refine Ext.trans ?_ (by assumption))); first | done | fail))).mono ?_
              rintro e w12 ⟨Au, nu, cu, Av, nv, cv, rfl, ou, ov, x12⟩
              have OU := Kp.mk ou
              have OV := Kp.mk ov
              clear ou ov
              go_wp2_with fail
              have N3 : Nv (w12.alloc (.cells #[.int .u32 3] ut)) (some ⟨w12.heap.size, 0, none⟩) 1 1 3 := ⟨[3], In1.lit w12 3 3 rfl (by decide) _ rfl, vl_one 3⟩
              refine (HW.out.X (NA.out.ext (by (repeat (first | assumption | exact Ext.refl _ | apply Ext.drew | apply Ext.drewN | apply Ext.alloc | refine Ext.trans ?_ (by assumption))); first | done | fail)) N3 (NB.out.ext (by (repeat (first | assumption | exact Ext.refl _ | apply Ext.drew | apply Ext.drewN | apply Ext.alloc | refine Ext.trans ?_ (by assumption))); first | done | fail))).mono ?_
              clear N3
              rintro e w13 ⟨Aw, nw, cw, rfl, ow, x13'⟩
              have x13 : Ext w12 w13 := (show Ext w12 (w12.alloc (.cells #[.int .u32 3] ut)) from (by (repeat (first | assumption | exact Ext.refl _ | apply Ext.drew | apply Ext.drewN | apply Ext.alloc | refine Ext.trans ?_ (by assumption))); first | done | fail)).trans x13'
              have OW := Kp.mk ow
              clear ow x13'
              go_wp2_with fail
              refine (HW.out.I (NA.out.ext (by (repeat (first | assumption | exact Ext.refl _ | apply Ext.drew | apply Ext.drewN | apply Ext.alloc | refine Ext.trans ?_ (by assumption))); first | done | fail)) (NB.out.ext (by (repeat (first | assumption | exact Ext.refl _ | apply Ext.drew | apply Ext.drewN | apply Ext.alloc | refine Ext.trans ?_ (by assumption))); first | done | fail))).mono ?_
              rintro e w14 ⟨Az, nz, cz, rfl, oz, x14⟩
              have HZ := Kp.mk (H6z.out.ext (show Ext wz w14 from (by (repeat (first | assumption | exact Ext.refl _ | apply Ext.drew | apply Ext.drewN | apply Ext.alloc | refine Ext.trans ?_ (by assumption))); first | done | fail)))
              have T1 := Kp.mk (OT.out.rd.ext (show Ext w11 w14 from (by (repeat (first | assumption | exact Ext.refl _ | apply Ext.drew | apply Ext.drewN | apply Ext.alloc | refine Ext.trans ?_ (by assumption))); first | done | fail)))
              have T2 := Kp.mk (OU.out.rd.ext (show Ext w12 w14 from (by (repeat (first | assumption | exact Ext.refl _ | apply Ext.drew | apply Ext.drewN | apply Ext.alloc | refine Ext.trans ?_ (by assumption))); first | done | fail)))
              have T3 := Kp.mk (OV.out.rd.ext (show Ext w12 w14 from (by (repeat (first | assumption | exact Ext.refl _ | apply Ext.drew | apply Ext.drewN | apply Ext.alloc | refine Ext.trans ?_ (by assumption))); first | done | fail)))
              have T4 := Kp.mk (OW.out.rd.ext (show Ext w13 w14 from (by (repeat (first | assumption | exact Ext.refl _ | apply Ext.drew | apply Ext.drewN | apply Ext.alloc | refine Ext.trans ?_ (by assumption))); first | done | fail)))
              have T5 := Kp.mk oz.rd
              have XF := Kp.mk (Xz.out.trans (show Ext wz w14 from (by (repeat (first | assumption | exact Ext.refl _ | apply Ext.drew | apply Ext.drewN | apply Ext.alloc | refine Ext.trans ?_ (by assumption))); first | done | fail)))
              clear x11 x12 x13 x14 oz OT OU OV OW H6z Xz NA NB
              go_wp2_with fail
              go_quiet (first | (go_at_call 32; first | exact Calls.quiet_of (same_any (HZ.out.s.rd.ext ((Ext.refl w14).drewN _)) (HZ.out.k.rd.ext ((Ext.refl w14).drewN _)) HZ.out.s.max) | exact Calls.quiet_of (same_any (HZ.out.s.rd.ext ((Ext.refl w14).drewN _)) (T1.out.ext ((Ext.refl w14).drewN _)) HZ.out.s.max) | exact Calls.quiet_of (same_any (HZ.out.q.rd.ext ((Ext.refl w14).drewN _)) (T2.out.ext ((Ext.refl w14).drewN _)) HZ.out.q.max) | exact Calls.quiet_of (same_any (HZ.out.r.rd.ext ((Ext.refl w14).drewN _)) (T3.out.ext ((Ext.refl w14).drewN _)) HZ.out.r.max) | exact Calls.quiet_of (same_any (HZ.out.p.rd.ext ((Ext.refl w14).drewN _)) (T4.out.ext ((Ext.refl w14).drewN _)) HZ.out.p.max) | exact Calls.quiet_of (same_any (HZ.out.i.rd.ext ((Ext.refl w14).drewN _)) (T5.out.ext ((Ext.refl w14).drewN _)) HZ.out.i.max)) | fail)
              go_wp2_with fail
              go_ret
              exact ⟨rfl, XF.out.b.trans ((show Ext w14 (w14.drewN nq) from (by (repeat (first | assumption | exact Ext.refl _ | apply Ext.drew | apply Ext.drewN | apply Ext.alloc | refine Ext.trans ?_ (by assumption))); first | done | fail)).b.mono (XF.out.size))⟩
  · have ba : decide ((20 : Int) < (na : Int)) = true := decide_eq_true (by omega)
    clear ha da hb db
    go_enter Try.func11, Try.ntmps11
    go_wp2_with fail
    refine (HU.out).mono ?_
    rintro e w1 ⟨rfl, x1⟩
    go_wp2_with fail
    go_ret
    exact ⟨rfl, x1.b⟩
  · have ba : decide ((20 : Int) < (na : Int)) = false := decide_eq_false (by omega)
    have bb : decide ((6 : Int) < (nb : Int)) = true := decide_eq_true (by omega)
    clear ha da hb db
    go_enter Try.func11, Try.ntmps11
    go_wp2_with fail
    refine (HU.out).mono ?_
    rintro e w1 ⟨rfl, x1⟩
    go_wp2_with fail
    go_ret
    exact ⟨rfl, x1.b⟩
end Go.Proofs.Ytpmoaccaknfodaa
