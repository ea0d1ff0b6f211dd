/-
  rsa: textOf, Hide, Show.
  rsa: Show, Hide.
  The reference's Write.
  The reference's Bytes.
-/
import Derived.Test.YticggkllfojgkaaDoorM16
import Derived.Test.YticggkllfojgkaaDoorM12
import Derived.Test.YticggkllfojgkaaDoorM11
namespace Go.Proofs.YticggkllfojgkaaDoor
open Go Go.RowKit
set_option maxRecDepth 4000

/-- the text of what was laid out to be hidden -/
def shownL (l : List (BitVec 8)) : Option (List (BitVec 8)) := if l.take 2 = [0, 2] ∧ fz (l.drop 2) < (l.drop 2).length ∧ 8 ≤ fz (l.drop 2) then some ((l.drop 2).drop (fz (l.drop 2) + 1)) else none
def TextR (w : World) (t : List (BitVec 8)) (e : Ending) (w' : World) : Prop := ∃ A n c, e = .returned (.tuple #[.slice A n c, .nilIface]) ∧ n ≤ 200 ∧ Bs w' A n c t ∧ Ext w w'
theorem box2s {w : World} {g t : Nat} {u v : Value} (h : Blk w g t #[u, v]) : (∀ w', Ext w w' → w'.cell? ⟨g, 0, none⟩ = some u) ∧ (∀ w', Ext w w' → w'.cell? ⟨g, 1, none⟩ = some v) :=
  ⟨fun _ hx => (box2 h hx).1, fun _ hx => (box2 h hx).2⟩
theorem box3t {w : World} {g t : Nat} {u v y : Value} (h : Blk w g t #[u, v, y]) : (∀ w', Ext w w' → w'.cell? ⟨g, 0, none⟩ = some u) ∧ (∀ w', Ext w w' → w'.cell? ⟨g, 1, none⟩ = some v) ∧ (∀ w', Ext w w' → w'.cell? ⟨g, 2, none⟩ = some y) :=
  ⟨fun _ hx => (box3 h hx).1, fun _ hx => (box3 h hx).2.1, fun _ hx => (box3 h hx).2.2⟩
theorem box_fwd {w w1 : World} {p : Addr} {v : Value} (h : ∀ w', Ext w w' → w'.cell? p = some v) (hx : Ext w w1) : ∀ w', Ext w1 w' → w'.cell? p = some v := fun w' h' => h w' (hx.trans h')
section
variable {A B D : Option Addr} {n c m d k f vn ve vd : Nat} {w : World} {l l1 l2 : List (BitVec 8)}
theorem textOf_some (hl : Bs w A n c l) (hn : n ≤ 200) {t : List (BitVec 8)} (h : shownL l = some t) : Calls Tryd.prog 36 #[.slice A n c] w (TextR w t) := by
  unfold shownL at h
  split at h
  · next hc =>
    obtain ⟨h1, h2, h3⟩ := hc
    injection h with ht
    have hx : Ext w (w.alloc (.cells #[.int .u8 0, .int .u8 2] 5)) := (by (repeat (first | assumption | exact Ext.refl _ | apply Ext.drew | apply Ext.drewN | apply Ext.alloc | refine Ext.trans ?_ (by assumption))); first | done | fail)
    have C := Kp.mk (CutPrefix_any (hl.ext hx) (lit_bytes w [0, 2] _ 2 rfl rfl _ rfl) (by omega) (by omega) h1)
    have hlen := hl.len
    have hz : fzI (l.drop 2) = (fz (l.drop 2) : Int) := if_pos h2
    rw [List.length_drop, hlen] at h2
    have HZ := Kp.mk hz
    have HX := Kp.mk hx
    have HT := Kp.mk ht
    obtain ⟨F, hF⟩ : ∃ F, fz (l.drop 2) = F := ⟨_, rfl⟩
    rw [hF] at h2 h3 HZ HT
    have d1 : decide ((F : Int) < 8) = false := decide_eq_false (by omega)
    have d2 : decide (F < 8) = false := decide_eq_false (by omega)
    clear hl h1 hz hF ht hx hlen
    go_enter Tryd.func36, Tryd.ntmps36
    go_wp2_with fail
    refine C.out.mono ?_
    rintro e w1 ⟨A1, c1, rfl, s1, hw⟩
    subst hw
    have hcap := s1.cap
    have C2 := Kp.mk (IndexByte_any s1)
    rw [HZ.out] at C2
    have hdr := s1.drop (F + 1) (by omega)
    rw [HT.out] at hdr
    have hs := fun W => run_from (P := Tryd.prog) A1 (n - 2) c1 26 5 Tryd.underlying26 szB (F + 1) ((F : Int) + 1) (by omega) (by omega) W
    obtain ⟨A', hA'⟩ : ∃ A', (if c1 = F + 1 then A1 else Option.map (fun x => x.add (F + 1)) A1) = A' := ⟨_, rfl⟩
    rw [hA'] at hdr
    simp only [hA'] at hs
    have HD := Kp.mk hdr
    have w1' : IntKind.i64.wrap ((F : Int) + 1) = (F : Int) + 1 := by rw [IntKind.wrap_i64]; omega
    clear hA' hdr s1
    obtain ⟨M, hM⟩ : ∃ M, n - 2 = M := ⟨_, rfl⟩
    rw [hM] at C2 HD hs hcap ⊢
    go_wp2_with fail
    refine C2.out.mono ?_
    rintro e w2 ⟨rfl, hw⟩
    subst hw
    go_wp2_with fail
    go_ret2
    exact ⟨_, _, _, rfl, by omega, HD.out, HX.out⟩
  · cases h
theorem textOf_none (hl : Bs w A n c l) (hn : n ≤ 200) (h : shownL l = none) : Calls Tryd.prog 36 #[.slice A n c] w (BadB w 7) := by
  have hx : Ext w (w.alloc (.cells #[.int .u8 0, .int .u8 2] 5)) := (by (repeat (first | assumption | exact Ext.refl _ | apply Ext.drew | apply Ext.drewN | apply Ext.alloc | refine Ext.trans ?_ (by assumption))); first | done | fail)
  have HX := Kp.mk hx
  by_cases h1 : l.take 2 = [0, 2]
  · have C := Kp.mk (CutPrefix_any (hl.ext hx) (lit_bytes w [0, 2] _ 2 rfl rfl _ rfl) (by omega) (by omega) h1)
    have hz : decide (fzI (l.drop 2) < 8) = true := decide_eq_true (by
      unfold fzI
      split
      · next h2 =>
        rcases Nat.lt_or_ge (fz (l.drop 2)) 8 with h3 | h3
        · omega
        · unfold shownL at h
          rw [if_pos ⟨h1, h2, h3⟩] at h
          cases h
      · decide)
    obtain ⟨F, hF⟩ : ∃ F, fzI (l.drop 2) = F := ⟨_, rfl⟩
    have HF := Kp.mk hF
    rw [hF] at hz
    have hz' : F < 8 := of_decide_eq_true hz
    clear hl hx h h1 hF
    go_enter Tryd.func36, Tryd.ntmps36
    go_wp2_with fail
    refine C.out.mono ?_
    rintro e w1 ⟨A1, c1, rfl, s1, hw⟩
    subst hw
    have C2 := Kp.mk (IndexByte_any s1)
    rw [HF.out] at C2
    clear s1
    go_wp2_with fail
    refine C2.out.mono ?_
    rintro e w2 ⟨rfl, hw⟩
    subst hw
    go_wp2_with fail
    go_ret2
    exact ⟨rfl, HX.out⟩
  · have C := Kp.mk (CutPrefix_not (hl.ext hx) (lit_bytes w [0, 2] _ 2 rfl rfl _ rfl) (by omega) (by omega) h1)
    clear hl hx h h1
    go_enter Tryd.func36, Tryd.ntmps36
    go_wp2_with fail
    refine C.out.mono ?_
    rintro e w1 ⟨rfl, hw⟩
    subst hw
    go_wp2_with fail
    go_ret2
    exact ⟨rfl, HX.out⟩
set_option maxHeartbeats 2000000 in
theorem Show_arg (hn : Nv w A n c vn) (he : Nv w B m d ve) (hd : Nv w D k f vd) {E : Option Addr} {p q : Nat} (h : ¬ SecOk vn ve vd) : Calls Tryd.prog 14 #[.agg #[.slice A n c, .slice B m d, .slice D k f], .slice E p q] w (BadB w 1) := by
  have HN := Kp.mk hn
  have HE := Kp.mk he
  have HD := Kp.mk hd
  have H := Kp.mk h
  have HB := Kp.mk (Blk.new w 30 #[.slice A n c, .slice B m d, .slice D k f])
  clear hn he hd h
  go_enter Tryd.func14, Tryd.ntmps14
  go_wp2_with (first | ((with_reducible refine at_load_to 8 2 ?_); refine wpList_load_row rfl 30 _ rfl w.heap.size rfl 30 _ (0, 0) _ HB.out.h Tryd.underlying30 rfl szS ?_) | fail)
  refine (secretMay_any (HN.out.ext (by (repeat (first | assumption | exact Ext.refl _ | apply Ext.drew | apply Ext.drewN | apply Ext.alloc | refine Ext.trans ?_ (by assumption))); first | done | fail)) (HE.out.ext (by (repeat (first | assumption | exact Ext.refl _ | apply Ext.drew | apply Ext.drewN | apply Ext.alloc | refine Ext.trans ?_ (by assumption))); first | done | fail)) (HD.out.ext (by (repeat (first | assumption | exact Ext.refl _ | apply Ext.drew | apply Ext.drewN | apply Ext.alloc | refine Ext.trans ?_ (by assumption))); first | done | fail)) false (by simp [H.out])).mono ?_
  rintro e w1 ⟨rfl, x1⟩
  have HX := Kp.mk (show Ext w w1 from (by (repeat (first | assumption | exact Ext.refl _ | apply Ext.drew | apply Ext.drewN | apply Ext.alloc | refine Ext.trans ?_ (by assumption))); first | done | fail))
  clear x1
  go_wp2_with fail
  go_ret2
  exact ⟨rfl, HX.out⟩
end
end Go.Proofs.YticggkllfojgkaaDoor
namespace Go.Proofs.YticggkllfojgkaaDoor
open Go Go.RowKit
set_option maxRecDepth 4000

section
variable {A B D E F : Option Addr} {n c m d k f p q y z vn ve vd : Nat} {w : World} {l l1 l2 : List (BitVec 8)}
set_option maxHeartbeats 2000000 in
theorem Show_wrong (hn : Nv w A n c vn) (he : Nv w B m d ve) (hd : Nv w D k f vd) (hl : Bs w E p q l) (h : SecOk vn ve vd) (hr : rs l vd vn = none) : Calls Tryd.prog 14 #[.agg #[.slice A n c, .slice B m d, .slice D k f], .slice E p q] w (BadB w 7) := by
  have HN := Kp.mk hn
  have HE := Kp.mk he
  have HD := Kp.mk hd
  have HL := Kp.mk hl
  have H := Kp.mk h
  have HB := Kp.mk (Blk.new w 30 #[.slice A n c, .slice B m d, .slice D k f])
  have HR := Kp.mk hr
  clear hr
  clear hn he hd h hl
  go_enter Tryd.func14, Tryd.ntmps14
  go_wp2_with (first | ((with_reducible refine at_load_to 8 2 ?_); refine wpList_load_row rfl 30 _ rfl w.heap.size rfl 30 _ (0, 0) _ HB.out.h Tryd.underlying30 rfl szS ?_) | fail)
  refine (secretMay_any (HN.out.ext (by (repeat (first | assumption | exact Ext.refl _ | apply Ext.drew | apply Ext.drewN | apply Ext.alloc | refine Ext.trans ?_ (by assumption))); first | done | fail)) (HE.out.ext (by (repeat (first | assumption | exact Ext.refl _ | apply Ext.drew | apply Ext.drewN | apply Ext.alloc | refine Ext.trans ?_ (by assumption))); first | done | fail)) (HD.out.ext (by (repeat (first | assumption | exact Ext.refl _ | apply Ext.drew | apply Ext.drewN | apply Ext.alloc | refine Ext.trans ?_ (by assumption))); first | done | fail)) true (by simp [H.out])).mono ?_
  rintro e w1 ⟨rfl, x1⟩
  obtain ⟨c0, c1, c2⟩ := box3 HB.out x1
  go_wp2_with fail
  refine (raised_none (HL.out.ext (by (repeat (first | assumption | exact Ext.refl _ | apply Ext.drew | apply Ext.drewN | apply Ext.alloc | refine Ext.trans ?_ (by assumption))); first | done | fail)) (HD.out.ext (by (repeat (first | assumption | exact Ext.refl _ | apply Ext.drew | apply Ext.drewN | apply Ext.alloc | refine Ext.trans ?_ (by assumption))); first | done | fail)) (HN.out.ext (by (repeat (first | assumption | exact Ext.refl _ | apply Ext.drew | apply Ext.drewN | apply Ext.alloc | refine Ext.trans ?_ (by assumption))); first | done | fail)) H.out.1.2.1 HR.out).mono ?_
  rintro e w2 ⟨rfl, x2⟩
  have HX := Kp.mk (show Ext w w2 from (by (repeat (first | assumption | exact Ext.refl _ | apply Ext.drew | apply Ext.drewN | apply Ext.alloc | refine Ext.trans ?_ (by assumption))); first | done | fail))
  clear x1 x2
  go_wp2_with fail
  go_ret2
  exact ⟨rfl, HX.out⟩
set_option maxHeartbeats 2000000 in
theorem Show_pad (hn : Nv w A n c vn) (he : Nv w B m d ve) (hd : Nv w D k f vd) (hl : Bs w E p q l) (h : SecOk vn ve vd) {r : List (BitVec 8)} (hr : rs l vd vn = some r) (ht : shownL r = none) : Calls Tryd.prog 14 #[.agg #[.slice A n c, .slice B m d, .slice D k f], .slice E p q] w (BadB w 7) := by
  have HN := Kp.mk hn
  have HE := Kp.mk he
  have HD := Kp.mk hd
  have HL := Kp.mk hl
  have H := Kp.mk h
  have HB := Kp.mk (Blk.new w 30 #[.slice A n c, .slice B m d, .slice D k f])
  have HR := Kp.mk hr
  have HT := Kp.mk ht
  clear hr ht
  clear hn he hd h hl
  go_enter Tryd.func14, Tryd.ntmps14
  go_wp2_with (first | ((with_reducible refine at_load_to 8 2 ?_); refine wpList_load_row rfl 30 _ rfl w.heap.size rfl 30 _ (0, 0) _ HB.out.h Tryd.underlying30 rfl szS ?_) | fail)
  refine (secretMay_any (HN.out.ext (by (repeat (first | assumption | exact Ext.refl _ | apply Ext.drew | apply Ext.drewN | apply Ext.alloc | refine Ext.trans ?_ (by assumption))); first | done | fail)) (HE.out.ext (by (repeat (first | assumption | exact Ext.refl _ | apply Ext.drew | apply Ext.drewN | apply Ext.alloc | refine Ext.trans ?_ (by assumption))); first | done | fail)) (HD.out.ext (by (repeat (first | assumption | exact Ext.refl _ | apply Ext.drew | apply Ext.drewN | apply Ext.alloc | refine Ext.trans ?_ (by assumption))); first | done | fail)) true (by simp [H.out])).mono ?_
  rintro e w1 ⟨rfl, x1⟩
  obtain ⟨c0, c1, c2⟩ := box3 HB.out x1
  go_wp2_with fail
  refine (raised_some (HL.out.ext (by (repeat (first | assumption | exact Ext.refl _ | apply Ext.drew | apply Ext.drewN | apply Ext.alloc | refine Ext.trans ?_ (by assumption))); first | done | fail)) (HD.out.ext (by (repeat (first | assumption | exact Ext.refl _ | apply Ext.drew | apply Ext.drewN | apply Ext.alloc | refine Ext.trans ?_ (by assumption))); first | done | fail)) (HN.out.ext (by (repeat (first | assumption | exact Ext.refl _ | apply Ext.drew | apply Ext.drewN | apply Ext.alloc | refine Ext.trans ?_ (by assumption))); first | done | fail)) (sh32 (SecOk.d H.out)) H.out.1.2.1 H.out.1.n0 HR.out).mono ?_
  rintro e w2 ⟨A2, c2', rfl, s2, _, x2⟩
  have S2 := Kp.mk s2
  have hN : nb vn ≤ 200 := by have := H.out.1.2.1; omega
  obtain ⟨N, hNN⟩ : ∃ N, nb vn = N := ⟨_, rfl⟩
  rw [hNN] at S2 hN ⊢
  clear s2 hNN
  have HX := Kp.mk (show Ext w w2 from (by (repeat (first | assumption | exact Ext.refl _ | apply Ext.drew | apply Ext.drewN | apply Ext.alloc | refine Ext.trans ?_ (by assumption))); first | done | fail))
  clear x1 x2
  go_wp2_with fail
  refine (textOf_none S2.out hN HT.out).mono ?_
  rintro e w3 ⟨rfl, x3⟩
  have HX3 := Kp.mk (HX.out.trans x3)
  clear x3
  go_wp2_with fail
  go_ret2
  exact ⟨rfl, HX3.out⟩
set_option maxHeartbeats 2000000 in
theorem Show_ok (hn : Nv w A n c vn) (he : Nv w B m d ve) (hd : Nv w D k f vd) (hl : Bs w E p q l) (h : SecOk vn ve vd) {r t : List (BitVec 8)} (hr : rs l vd vn = some r) (ht : shownL r = some t) : Calls Tryd.prog 14 #[.agg #[.slice A n c, .slice B m d, .slice D k f], .slice E p q] w (TextR w t) := by
  have HN := Kp.mk hn
  have HE := Kp.mk he
  have HD := Kp.mk hd
  have HL := Kp.mk hl
  have H := Kp.mk h
  have HB := Kp.mk (Blk.new w 30 #[.slice A n c, .slice B m d, .slice D k f])
  have HR := Kp.mk hr
  have HT := Kp.mk ht
  clear hr ht
  clear hn he hd h hl
  go_enter Tryd.func14, Tryd.ntmps14
  go_wp2_with (first | ((with_reducible refine at_load_to 8 2 ?_); refine wpList_load_row rfl 30 _ rfl w.heap.size rfl 30 _ (0, 0) _ HB.out.h Tryd.underlying30 rfl szS ?_) | fail)
  refine (secretMay_any (HN.out.ext (by (repeat (first | assumption | exact Ext.refl _ | apply Ext.drew | apply Ext.drewN | apply Ext.alloc | refine Ext.trans ?_ (by assumption))); first | done | fail)) (HE.out.ext (by (repeat (first | assumption | exact Ext.refl _ | apply Ext.drew | apply Ext.drewN | apply Ext.alloc | refine Ext.trans ?_ (by assumption))); first | done | fail)) (HD.out.ext (by (repeat (first | assumption | exact Ext.refl _ | apply Ext.drew | apply Ext.drewN | apply Ext.alloc | refine Ext.trans ?_ (by assumption))); first | done | fail)) true (by simp [H.out])).mono ?_
  rintro e w1 ⟨rfl, x1⟩
  obtain ⟨c0, c1, c2⟩ := box3 HB.out x1
  go_wp2_with fail
  refine (raised_some (HL.out.ext (by (repeat (first | assumption | exact Ext.refl _ | apply Ext.drew | apply Ext.drewN | apply Ext.alloc | refine Ext.trans ?_ (by assumption))); first | done | fail)) (HD.out.ext (by (repeat (first | assumption | exact Ext.refl _ | apply Ext.drew | apply Ext.drewN | apply Ext.alloc | refine Ext.trans ?_ (by assumption))); first | done | fail)) (HN.out.ext (by (repeat (first | assumption | exact Ext.refl _ | apply Ext.drew | apply Ext.drewN | apply Ext.alloc | refine Ext.trans ?_ (by assumption))); first | done | fail)) (sh32 (SecOk.d H.out)) H.out.1.2.1 H.out.1.n0 HR.out).mono ?_
  rintro e w2 ⟨A2, c2', rfl, s2, _, x2⟩
  have S2 := Kp.mk s2
  have hN : nb vn ≤ 200 := by have := H.out.1.2.1; omega
  obtain ⟨N, hNN⟩ : ∃ N, nb vn = N := ⟨_, rfl⟩
  rw [hNN] at S2 hN ⊢
  clear s2 hNN
  have HX := Kp.mk (show Ext w w2 from (by (repeat (first | assumption | exact Ext.refl _ | apply Ext.drew | apply Ext.drewN | apply Ext.alloc | refine Ext.trans ?_ (by assumption))); first | done | fail))
  clear x1 x2
  go_wp2_with fail
  refine (textOf_some S2.out hN HT.out).mono ?_
  rintro e w3 ⟨A3, n3, c3, rfl, h3, s3, x3⟩
  have S3 := Kp.mk (And.intro h3 s3)
  have HX3 := Kp.mk (HX.out.trans x3)
  clear x3 s3 h3
  go_wp2_with fail
  go_ret2
  exact ⟨_, _, _, rfl, S3.out.1, S3.out.2, HX3.out⟩
/-- is what is to be hidden amiss? -/
theorem fz_all (l : List (BitVec 8)) : fz l = l.length ↔ ∀ j, j < l.length → gb l j ≠ 0 := by
  constructor
  · intro h j hj
    exact fz_ahead l j (by omega)
  · intro h
    rcases Nat.lt_or_ge (fz l) l.length with h1 | h1
    · exact absurd (fz_at l h1) (h _ h1)
    · have := fz_le l
      omega
set_option maxHeartbeats 2000000 in
theorem Hide_arg (hn : Nv w A n c vn) (he : Nv w B m d ve) (ht : Bs w E p q l1) (hf : Bs w F y z l2) (hp : p ≤ 1000000) (hy : y ≤ 1000000) (h : ¬ PubOk vn ve)  : Calls Tryd.prog 9 #[.agg #[.slice A n c, .slice B m d], .slice E p q, .slice F y z] w (BadB w 1) := by
  have HN := Kp.mk hn
  have HE := Kp.mk he
  have HT := Kp.mk ht
  have HF := Kp.mk hf
  have H := Kp.mk h
  have HB := Kp.mk (Blk.new w 25 #[.slice A n c, .slice B m d])
  skip
  clear hn he h ht hf
  go_enter Tryd.func9, Tryd.ntmps9
  go_wp2_with (first | ((with_reducible refine at_load_to 9 3 ?_); refine wpList_load_row rfl 25 _ rfl w.heap.size rfl 25 _ (0, 0) _ HB.out.h Tryd.underlying25 rfl szP2 ?_) | fail)
  refine (publicMay_any (HN.out.ext (by (repeat (first | assumption | exact Ext.refl _ | apply Ext.drew | apply Ext.drewN | apply Ext.alloc | refine Ext.trans ?_ (by assumption))); first | done | fail)) (HE.out.ext (by (repeat (first | assumption | exact Ext.refl _ | apply Ext.drew | apply Ext.drewN | apply Ext.alloc | refine Ext.trans ?_ (by assumption))); first | done | fail)) false (by simp [H.out])).mono ?_
  rintro e w1 ⟨rfl, x1⟩
  obtain ⟨c0, c1⟩ := box2 HB.out x1
  have HX := Kp.mk (show Ext w w1 from (by (repeat (first | assumption | exact Ext.refl _ | apply Ext.drew | apply Ext.drewN | apply Ext.alloc | refine Ext.trans ?_ (by assumption))); first | done | fail))
  clear x1
  go_wp2_with fail
  go_ret2
  exact ⟨rfl, HX.out⟩
set_option maxHeartbeats 2000000 in
theorem Hide_long (hn : Nv w A n c vn) (he : Nv w B m d ve) (ht : Bs w E p q l1) (hf : Bs w F y z l2) (hp : p ≤ 1000000) (hy : y ≤ 1000000) (h : PubOk vn ve) (hlong : nb vn < p + 11) : Calls Tryd.prog 9 #[.agg #[.slice A n c, .slice B m d], .slice E p q, .slice F y z] w (BadB w 4) := by
  have HN := Kp.mk hn
  have HE := Kp.mk he
  have HT := Kp.mk ht
  have HF := Kp.mk hf
  have H := Kp.mk h
  have HB := Kp.mk (Blk.new w 25 #[.slice A n c, .slice B m d])
  obtain ⟨N, hN⟩ : ∃ N, nb vn = N := ⟨_, rfl⟩
  have HS := Kp.mk hN
  have hlo := h.1
  have hhi := h.2.1
  rw [hN] at hlo hhi
  rw [hN] at hlong
  have w1' : IntKind.i64.wrap ((N : Int) - 3) = (N : Int) - 3 := by rw [IntKind.wrap_i64]; omega
  have w2' : IntKind.i64.wrap ((N : Int) - 3 - (p : Int)) = (N : Int) - 3 - (p : Int) := by rw [IntKind.wrap_i64]; omega
  have d1 : (N : Int) - 3 - (p : Int) < 8 := by omega
  clear hN hlo hhi hlong
  clear hn he h ht hf
  go_enter Tryd.func9, Tryd.ntmps9
  go_wp2_with (first | ((with_reducible refine at_load_to 9 3 ?_); refine wpList_load_row rfl 25 _ rfl w.heap.size rfl 25 _ (0, 0) _ HB.out.h Tryd.underlying25 rfl szP2 ?_) | fail)
  refine (publicMay_any (HN.out.ext (by (repeat (first | assumption | exact Ext.refl _ | apply Ext.drew | apply Ext.drewN | apply Ext.alloc | refine Ext.trans ?_ (by assumption))); first | done | fail)) (HE.out.ext (by (repeat (first | assumption | exact Ext.refl _ | apply Ext.drew | apply Ext.drewN | apply Ext.alloc | refine Ext.trans ?_ (by assumption))); first | done | fail)) true (by simp [H.out])).mono ?_
  rintro e w1 ⟨rfl, x1⟩
  obtain ⟨c0, c1⟩ := box2 HB.out x1
  go_wp2_with fail
  refine (sizeOf_any (HN.out.ext (by (repeat (first | assumption | exact Ext.refl _ | apply Ext.drew | apply Ext.drewN | apply Ext.alloc | refine Ext.trans ?_ (by assumption))); first | done | fail))).mono ?_
  rintro e w2 ⟨rfl, hw⟩
  subst hw
  rw [HS.out]
  have HX := Kp.mk (show Ext w w2 from (by (repeat (first | assumption | exact Ext.refl _ | apply Ext.drew | apply Ext.drewN | apply Ext.alloc | refine Ext.trans ?_ (by assumption))); first | done | fail))
  clear x1
  go_wp2_with fail
  go_ret2
  exact ⟨rfl, HX.out⟩
set_option maxHeartbeats 2000000 in
theorem Hide_fill (hn : Nv w A n c vn) (he : Nv w B m d ve) (ht : Bs w E p q l1) (hf : Bs w F y z l2) (hp : p ≤ 1000000) (hy : y ≤ 1000000) (h : PubOk vn ve) (hs : p + 11 ≤ nb vn) (hbad : y ≠ nb vn - 3 - p ∨ fz l2 < l2.length) : Calls Tryd.prog 9 #[.agg #[.slice A n c, .slice B m d], .slice E p q, .slice F y z] w (BadB w 1) := by
  have HN := Kp.mk hn
  have HE := Kp.mk he
  have HT := Kp.mk ht
  have HF := Kp.mk hf
  have H := Kp.mk h
  have HB := Kp.mk (Blk.new w 25 #[.slice A n c, .slice B m d])
  obtain ⟨N, hN⟩ : ∃ N, nb vn = N := ⟨_, rfl⟩
  have HS := Kp.mk hN
  have hlo := h.1
  have hhi := h.2.1
  rw [hN] at hlo hhi
  rw [hN] at hs hbad
  have w1' : IntKind.i64.wrap ((N : Int) - 3) = (N : Int) - 3 := by rw [IntKind.wrap_i64]; omega
  have w2' : IntKind.i64.wrap ((N : Int) - 3 - (p : Int)) = (N : Int) - 3 - (p : Int) := by rw [IntKind.wrap_i64]; omega
  obtain ⟨G, hG⟩ : ∃ G, N - 3 - p = G := ⟨_, rfl⟩
  rw [hG] at hbad
  have d1 : (N : Int) - 3 - (p : Int) = (G : Int) := by omega
  have d2 : decide ((G : Int) < 8) = false := decide_eq_false (by omega)
  have d3 : decide (G < 8) = false := decide_eq_false (by omega)
  have d5 : (G : Int) < 200 := by omega
  have w3' : IntKind.i64.wrap (G : Int) = (G : Int) := by rw [IntKind.wrap_i64]; omega
  clear hN hlo hhi hs hG
  clear hn he h ht hf
  go_enter Tryd.func9, Tryd.ntmps9
  go_wp2_with (first | ((with_reducible refine at_load_to 9 3 ?_); refine wpList_load_row rfl 25 _ rfl w.heap.size rfl 25 _ (0, 0) _ HB.out.h Tryd.underlying25 rfl szP2 ?_) | fail)
  refine (publicMay_any (HN.out.ext (by (repeat (first | assumption | exact Ext.refl _ | apply Ext.drew | apply Ext.drewN | apply Ext.alloc | refine Ext.trans ?_ (by assumption))); first | done | fail)) (HE.out.ext (by (repeat (first | assumption | exact Ext.refl _ | apply Ext.drew | apply Ext.drewN | apply Ext.alloc | refine Ext.trans ?_ (by assumption))); first | done | fail)) true (by simp [H.out])).mono ?_
  rintro e w1 ⟨rfl, x1⟩
  obtain ⟨c0, c1⟩ := box2 HB.out x1
  go_wp2_with fail
  refine (sizeOf_any (HN.out.ext (by (repeat (first | assumption | exact Ext.refl _ | apply Ext.drew | apply Ext.drewN | apply Ext.alloc | refine Ext.trans ?_ (by assumption))); first | done | fail))).mono ?_
  rintro e w2 ⟨rfl, hw⟩
  subst hw
  rw [HS.out]
  by_cases hq : y = G
  · subst hq
    have hlt : fz l2 < l2.length := by rcases hbad with h | h; exact absurd rfl h; exact h
    have C := Kp.mk (IndexByte_any (HF.out.ext (show Ext w w2 from (by (repeat (first | assumption | exact Ext.refl _ | apply Ext.drew | apply Ext.drewN | apply Ext.alloc | refine Ext.trans ?_ (by assumption))); first | done | fail))))
    rw [show fzI l2 = (fz l2 : Int) from if_pos hlt] at C
    generalize fz l2 = J at C
    clear hbad hlt
    go_wp2_with fail
    refine C.out.mono ?_
    rintro e w3 ⟨rfl, hw⟩
    subst hw
    have HX := Kp.mk (show Ext w w3 from (by (repeat (first | assumption | exact Ext.refl _ | apply Ext.drew | apply Ext.drewN | apply Ext.alloc | refine Ext.trans ?_ (by assumption))); first | done | fail))
    clear x1
    have d4 : (0 : Int) ≤ (J : Int) := by omega
    go_wp2_with fail
    go_ret2
    exact ⟨rfl, HX.out⟩
  · have d4 : ¬ (y : Int) = (G : Int) := by omega
    clear hbad hq
    have HX := Kp.mk (show Ext w w2 from (by (repeat (first | assumption | exact Ext.refl _ | apply Ext.drew | apply Ext.drewN | apply Ext.alloc | refine Ext.trans ?_ (by assumption))); first | done | fail))
    clear x1
    go_wp2_with fail
    go_ret2
    exact ⟨rfl, HX.out⟩
set_option maxHeartbeats 2000000 in
theorem Hide_ok (hn : Nv w A n c vn) (he : Nv w B m d ve) (ht : Bs w E p q l1) (hf : Bs w F y z l2) (hp : p ≤ 1000000) (hy : y ≤ 1000000) (h : PubOk vn ve) (hs : p + 11 ≤ nb vn) (hy2 : y = nb vn - 3 - p) (hz : fz l2 = l2.length) {r : List (BitVec 8)} (hr : rs (hdL l2 l1) ve vn = some r) : Calls Tryd.prog 9 #[.agg #[.slice A n c, .slice B m d], .slice E p q, .slice F y z] w (FreshE w (nb vn) r) := by
  have HN := Kp.mk hn
  have HE := Kp.mk he
  have HT := Kp.mk ht
  have HF := Kp.mk hf
  have H := Kp.mk h
  have HB := Kp.mk (Blk.new w 25 #[.slice A n c, .slice B m d])
  obtain ⟨N, hN⟩ : ∃ N, nb vn = N := ⟨_, rfl⟩
  have HS := Kp.mk hN
  have hlo := h.1
  have hhi := h.2.1
  rw [hN] at hlo hhi
  rw [hN] at hs hy2 ⊢
  have w1' : IntKind.i64.wrap ((N : Int) - 3) = (N : Int) - 3 := by rw [IntKind.wrap_i64]; omega
  have w2' : IntKind.i64.wrap ((N : Int) - 3 - (p : Int)) = (N : Int) - 3 - (p : Int) := by rw [IntKind.wrap_i64]; omega
  have d1 : (N : Int) - 3 - (p : Int) = (y : Int) := by omega
  have d2 : decide ((y : Int) < 8) = false := decide_eq_false (by omega)
  have d3 : decide (y < 8) = false := decide_eq_false (by omega)
  have d5 : (y : Int) < 200 := by omega
  have w3' : IntKind.i64.wrap (y : Int) = (y : Int) := by rw [IntKind.wrap_i64]; omega
  have hyp : y + p ≤ 1000000 := by omega
  have HQ := Kp.mk (show y + p + 3 = N by omega)
  have HZ := Kp.mk (show fzI l2 = -1 from if_neg (by omega))
  have HR := Kp.mk hr
  clear hN hlo hhi hs hz hr hy2
  clear hn he h ht hf
  go_enter Tryd.func9, Tryd.ntmps9
  go_wp2_with (first | ((with_reducible refine at_load_to 9 3 ?_); refine wpList_load_row rfl 25 _ rfl w.heap.size rfl 25 _ (0, 0) _ HB.out.h Tryd.underlying25 rfl szP2 ?_) | fail)
  refine (publicMay_any (HN.out.ext (by (repeat (first | assumption | exact Ext.refl _ | apply Ext.drew | apply Ext.drewN | apply Ext.alloc | refine Ext.trans ?_ (by assumption))); first | done | fail)) (HE.out.ext (by (repeat (first | assumption | exact Ext.refl _ | apply Ext.drew | apply Ext.drewN | apply Ext.alloc | refine Ext.trans ?_ (by assumption))); first | done | fail)) true (by simp [H.out])).mono ?_
  rintro e w1 ⟨rfl, x1⟩
  obtain ⟨c0, c1⟩ := box2 HB.out x1
  go_wp2_with fail
  refine (sizeOf_any (HN.out.ext (by (repeat (first | assumption | exact Ext.refl _ | apply Ext.drew | apply Ext.drewN | apply Ext.alloc | refine Ext.trans ?_ (by assumption))); first | done | fail))).mono ?_
  rintro e w2 ⟨rfl, hw⟩
  subst hw
  rw [HS.out]
  have C := Kp.mk (IndexByte_any (HF.out.ext (show Ext w w2 from (by (repeat (first | assumption | exact Ext.refl _ | apply Ext.drew | apply Ext.drewN | apply Ext.alloc | refine Ext.trans ?_ (by assumption))); first | done | fail))))
  rw [HZ.out] at C
  go_wp2_with fail
  refine C.out.mono ?_
  rintro e w3 ⟨rfl, hw⟩
  subst hw
  clear C c0 c1
  obtain ⟨m0, m1⟩ := box2s (HB.out.ext x1)
  have HX := Kp.mk (show Ext w w3 from (by (repeat (first | assumption | exact Ext.refl _ | apply Ext.drew | apply Ext.drewN | apply Ext.alloc | refine Ext.trans ?_ (by assumption))); first | done | fail))
  have NN3 := Kp.mk (HN.out.ext HX.out)
  have NE3 := Kp.mk (HE.out.ext HX.out)
  have C := Kp.mk (laidToHide_any ((HF.out.ext HX.out).ext (Ext.refl w3).drew) ((HT.out.ext HX.out).ext (Ext.refl w3).drew) hyp N HQ.out)
  clear x1
  go_wp2_with fail
  refine wp_region_held_drew (S := fun w' => Ext w3 w') (by kernel_rfl) (Ext.refl w3).drew (fun hHeld => ?_)
  refine wpAnyH_take (i := 0) (oi := ⟨some 33, _, _, _, _, _⟩) (v := ?_) rfl (by kernel_rfl) (by kernel_rfl) (by kernel_rfl) (fun _ _ _ h => h) (Or.inl ⟨by rfl, ?_⟩) (by assumption) ?_
  rotate_left
  · (intro w hSw; (try dsimp only at hSw); go_simp; try with_reducible rfl)
  try simp only [Act.put, List.setIfInBounds_toArray, List.set_cons_zero, List.set_cons_succ]
  refine wpAnyH_take (i := 1) (oi := ⟨some 34, _, _, _, _, _⟩) (v := ?_) rfl (by kernel_rfl) (by kernel_rfl) (by kernel_rfl) (fun _ _ _ h => h) (Or.inl ⟨by rfl, ?_⟩) (by assumption) ?_
  rotate_left
  · (intro w hSw; (try dsimp only at hSw); go_simp; try with_reducible rfl)
  try simp only [Act.put, List.setIfInBounds_toArray, List.set_cons_zero, List.set_cons_succ]
  refine wpAnyH_take (i := 3) (oi := ⟨some 36, _, _, _, _, _⟩) (v := ?_) rfl (by kernel_rfl) (by kernel_rfl) (by kernel_rfl) (fun _ _ _ h => h) (Or.inl ⟨by rfl, ?_⟩) (by assumption) ?_
  rotate_left
  · (intro w hSw; (try dsimp only at hSw); go_simp; try with_reducible rfl)
  try simp only [Act.put, List.setIfInBounds_toArray, List.set_cons_zero, List.set_cons_succ]
  refine wpAnyH_take (i := 4) (oi := ⟨some 37, _, _, _, _, _⟩) (v := ?_) rfl (by kernel_rfl) (by kernel_rfl) (by kernel_rfl) (fun _ _ _ h => h) (Or.inl ⟨by rfl, ?_⟩) (by assumption) ?_
  rotate_left
  · (intro w hSw; (try dsimp only at hSw); go_simp; try with_reducible rfl)
  try simp only [Act.put, List.setIfInBounds_toArray, List.set_cons_zero, List.set_cons_succ]
  refine wpAnyH_take (i := 5) (oi := ⟨some 38, _, _, _, _, _⟩) (v := ?_) rfl (by kernel_rfl) (by kernel_rfl) (by kernel_rfl) (fun _ _ _ h => h) (Or.inl ⟨by rfl, ?_⟩) (by assumption) ?_
  rotate_left
  · (intro w hSw; (try dsimp only at hSw); go_simp; try with_reducible rfl)
  try simp only [Act.put, List.setIfInBounds_toArray, List.set_cons_zero, List.set_cons_succ]
  refine wpAnyH_take (i := 6) (oi := ⟨some 39, _, _, _, _, _⟩) (v := ?_) rfl (by kernel_rfl) (by kernel_rfl) (by kernel_rfl) (fun _ _ _ h => h) (Or.inl ⟨by rfl, ?_⟩) (by assumption) ?_
  rotate_left
  · (intro w hSw; (try dsimp only at hSw); go_simp; try with_reducible rfl)
  try simp only [Act.put, List.setIfInBounds_toArray, List.set_cons_zero, List.set_cons_succ]
  refine next_one 2 (by kernel_rfl) rfl (by rfl) fun K' HK' => ?_
  go_simp
  refine C.out.mono ?_
  rintro e w4 ⟨A4, c4, rfl, s4, _, x4⟩
  have x34 := Ext.trans hHeld x4
  have hS2 := Ext.trans hHeld x4
  refine held_go HK' hS2 (fun _ => ?_)
  clear HK'
  refine held_more (S' := fun w' => Ext w4 w') (fun _ h => Ext.trans hS2 h) _ _ _ _ ?_
  clear hHeld hS2
  have hHeld : Ext w4 w4 := Ext.refl _
  try simp only [Act.put, List.setIfInBounds_toArray, List.set_cons_zero, List.set_cons_succ]
  refine next_one 7 (by kernel_rfl) rfl (by rfl) fun K' HK' => ?_
  go_simp
  have CR := raised_some s4 (NE3.out.ext x34) (NN3.out.ext x34) (sh32 (PubOk.e H.out)) H.out.2.1 H.out.n0 HR.out
  rw [HS.out] at CR
  refine CR.mono ?_
  rintro e w5 ⟨A5, c5, rfl, s5, o5, x5⟩
  have HO := Kp.mk (o5.lower (HX.out.trans x34).size)
  have HS5 := Kp.mk s5
  have HX5 := Kp.mk ((HX.out.trans x34).trans x5)
  have hS2 := Ext.trans hHeld x5
  refine held_go HK' hS2 (fun _ => ?_)
  clear HK'
  refine held_more (S' := fun w' => Ext w5 w') (fun _ h => Ext.trans hS2 h) _ _ _ _ ?_
  clear hHeld hS2
  have hHeld : Ext w5 w5 := Ext.refl _
  try simp only [Act.put, List.setIfInBounds_toArray, List.set_cons_zero, List.set_cons_succ]
  refine wpAnyH_take (i := 8) (oi := ⟨some 41, _, _, _, _, _⟩) (v := ?_) rfl (by kernel_rfl) (by kernel_rfl) (by kernel_rfl) (fun _ _ _ h => h) (Or.inl ⟨by rfl, ?_⟩) (by assumption) ?_
  rotate_left
  · (intro w hSw; (try dsimp only at hSw); go_simp; try with_reducible rfl)
  try simp only [Act.put, List.setIfInBounds_toArray, List.set_cons_zero, List.set_cons_succ]
  refine wpAnyH_take (i := 9) (oi := ⟨some 42, _, _, _, _, _⟩) (v := ?_) rfl (by kernel_rfl) (by kernel_rfl) (by kernel_rfl) (fun _ _ _ h => h) (Or.inl ⟨by rfl, ?_⟩) (by assumption) ?_
  rotate_left
  · (intro w hSw; (try dsimp only at hSw); go_simp; try with_reducible rfl)
  try simp only [Act.put, List.setIfInBounds_toArray, List.set_cons_zero, List.set_cons_succ]
  refine wpAnyH_take (i := 10) (oi := ⟨some 6, _, _, _, _, _⟩) (v := ?_) rfl (by kernel_rfl) (by kernel_rfl) (by kernel_rfl) (fun _ _ _ h => h) (Or.inl ⟨by rfl, ?_⟩) (by assumption) ?_
  rotate_left
  · (intro w hSw; (try dsimp only at hSw); go_simp; try with_reducible rfl)
  try simp only [Act.put, List.setIfInBounds_toArray, List.set_cons_zero, List.set_cons_succ]
  refine wpAnyH_take (i := 11) (oi := ⟨some 7, _, _, _, _, _⟩) (v := ?_) rfl (by kernel_rfl) (by kernel_rfl) (by kernel_rfl) (fun _ _ _ h => h) (Or.inl ⟨by rfl, ?_⟩) (by assumption) ?_
  rotate_left
  · (intro w hSw; (try dsimp only at hSw); go_simp; try with_reducible rfl)
  try simp only [Act.put, List.setIfInBounds_toArray, List.set_cons_zero, List.set_cons_succ]
  refine wpAnyH_done (by kernel_rfl) ?_ _
  clear m0 m1 s4 s5 o5 CR
  go_wp2_with fail
  go_ret2
  exact ⟨A5, c5, rfl, HS5.out, HO.out, HX5.out⟩
end
end Go.Proofs.YticggkllfojgkaaDoor
namespace Go.Proofs.YticggkllfojgkaaDoor
open Go Go.RowKit
set_option maxRecDepth 4000

theorem digit_byte {v q s : Nat} (hs : s < 2) : dg (dgs 65536 v) q / 256 ^ s % 256 = v / 256 ^ (2 * q + s) % 256 := by
  obtain ⟨z, hz⟩ := div_dg (B := 65536) (by decide) (cn_dgs (by decide) v).d q
  rw [vl_dgs (by decide)] at hz
  have e1 : v / 256 ^ (2 * q + s) = v / 65536 ^ q / 256 ^ s := by
    rw [Nat.pow_add, Nat.pow_mul, show (256 : Nat) ^ 2 = 65536 from rfl, Nat.div_div_eq_div_mul]
  rw [e1, hz]
  generalize dg (dgs 65536 v) q = x
  generalize dg (dgs 65536 v) (q + 1) + 65536 * z = y
  rcases (show s = 0 ∨ s = 1 by omega) with rfl | rfl
  · simp only [Nat.pow_zero, Nat.div_one]; omega
  · simp only [Nat.pow_one]; omega
/-- what the reference's Write tells -/
def WriteB (w : World) (v k : Nat) (e : Ending) (w' : World) : Prop :=
  ∃ A c, e = .returned (.tuple #[.slice A k c, .bool true]) ∧ Own w' w.heap.size (.slice A k c) k (toB v k) ∧ Ext w w'
set_option maxHeartbeats 2000000 in
theorem refWrite_any {A : Option Addr} {n c v k : Nat} {w : World} (h : Rd vI w A n c (dgs 65536 v)) (hk : nb v ≤ k) (hk2 : k ≤ 256) : Calls Tryd.prog 33 #[.slice A n c, .int .i64 (k : Int)] w (WriteB w v k) := by
  have hlen := h.len
  have hv := (nb_iff v k).1 hk
  have hv2 : v < 256 ^ (2 * n) := by
    have h1 := (len_iff (B := 65536) (by decide) v n).1 (by omega)
    rwa [Nat.pow_mul]
  have hn : n ≤ 128 := by
    have h1 := (len_iff (B := 65536) (by decide) v 128).2 (by
      rw [show (65536 : Nat) = 256 ^ 2 by rfl, ← Nat.pow_mul]
      exact Nat.lt_of_lt_of_le hv (Nat.pow_le_pow_right (by decide) hk2))
    omega
  have HC := Kp.mk (Size_any h (by omega))
  rw [sz_nb] at HC
  have HR := Kp.mk h
  obtain ⟨N, hN⟩ : ∃ N, nb v = N := ⟨_, rfl⟩
  rw [hN] at HC hk
  have b1 : decide ((k : Int) < (N : Int)) = false := decide_eq_false (by omega)
  have b2 : decide ((k : Int) < 0) = false := decide_eq_false (by omega)
  have b3 : decide (k < N) = false := decide_eq_false (by omega)
  obtain ⟨M, hM⟩ : ∃ M, min k (2 * n) = M := ⟨_, rfl⟩
  have hM1 : M ≤ k := by omega
  have hM2 : M ≤ 2 * n := by omega
  have hM3 : M = k ∨ M = 2 * n := by omega
  have HV := Kp.mk (show v < 256 ^ M by rcases hM3 with e | e <;> rw [e] <;> assumption)
  have hmk := run_makeN k (k : Int) rfl (by omega)
  rw [← wrS_zero v k] at hmk
  clear h hv hv2 hN hlen hM hk
  go_enter Tryd.func33, Tryd.ntmps33
  go_wp2_with fail
  refine HC.out.mono ?_
  rintro e w1 ⟨rfl, rfl⟩
  have HB0 := Kp.mk (Blk.new w1 5 (bv (wrS v k 0)))
  go_wp2_with fail
  go_loopw [7] (fun iv wr => ∃ i : Nat, i ≤ M ∧ iv = .int .i64 (i : Int) ∧ Blk wr w1.heap.size 5 (bv (wrS v k i)) ∧ Ext w1 wr) (fun iv _ => M - (intOf iv).toNat)
  case atStart => exact ⟨0, by omega, rfl, HB0.out, (by (repeat (first | assumption | exact Ext.refl _ | apply Ext.drew | apply Ext.drewN | apply Ext.alloc | refine Ext.trans ?_ (by assumption))); first | done | fail)⟩
  case round =>
    obtain ⟨i, hi, rfl, hb, hx⟩ := hrel
    obtain ⟨q, hq⟩ : ∃ q, i / 2 = q := ⟨_, rfl⟩
    obtain ⟨s, hs⟩ : ∃ s, i % 2 = s := ⟨_, rfl⟩
    have hiq : i = 2 * q + s := by omega
    have d1 : (i : Int) / 2 = (q : Int) := by omega
    have d2 : (i : Int) % 2 = (s : Int) := by omega
    have d3 : (i : Int).tdiv 2 = (q : Int) := by rw [Int.tdiv_eq_ediv_of_nonneg (by omega)]; exact d1
    have d4 : (i : Int).tmod 2 = (s : Int) := by rw [Int.tmod_eq_emod_of_nonneg (by omega)]; exact d2
    have d5 : (i : Int) < 1000 := by omega
    by_cases hlt : i < M
    · obtain ⟨g, o, rfl⟩ := HR.out.some_ (by omega)
      have k1 := (HR.out.ext hx).dig q (by omega)
      unfold vI at k1
      have hy := (cn_dgs (B := 65536) (by decide) v).d.at (by decide) q
      have hlb := digit_byte (v := v) (q := q) (s := s) (by omega)
      rw [← hiq] at hlb
      obtain ⟨P, hP⟩ : ∃ P, k - 1 - i = P := ⟨_, rfl⟩
      have k4 := hb.h.frozen P
      have k3 := (hb.h.cell P).trans (bv_at _ P (by simp [wrS]; omega))
      have hset := hb.setB P (BitVec.ofNat 8 (v / 256 ^ i))
      rw [← hP, wrS_set v k i (by omega), hP, ub_ofNat] at hset
      generalize dg (dgs 65536 v) q = y at *
      have c0 : (i : Int) < (k : Int) := by omega
      have c1 : (q : Int) < (n : Int) := by omega
      have c2 : (k : Int) - 1 - (i : Int) = (P : Int) := by omega
      have c3 : (P : Int) < (k : Int) := by omega
      have c4 : (y : Int) < 65536 := by omega
      rcases (show s = 0 ∨ s = 1 by omega) with rfl | rfl
      · rw [Nat.pow_zero, Nat.div_one] at hlb
        have e1 : ((v / 256 ^ i : Nat) : Int) % 256 = (y : Int) % 256 := by omega
        rw [e1] at hset
        have e2 : IntKind.u8.wrap ((y : Int) % 256) = (y : Int) % 256 := by rw [IntKind.wrap_u8]; omega
        have e3 : (y : Int).tmod 256 = (y : Int) % 256 := by rw [Int.tmod_eq_emod_of_nonneg (by omega)]
        have HS := Kp.mk hset
        have HX2 := Kp.mk (hx.setCell (p := ⟨w1.heap.size, P, none⟩) (Nat.le_refl _) (.int .u8 ((y : Int) % 256)))
        clear hb hx hq hs hiq hP hlb hset e1 hM1 hM2 hM3
        go_wp2_with fail
        go_roundw
        case rel => exact ⟨i + 1, by omega, by go_num, HS.out, HX2.out⟩
        case measure => simp [intOf]; omega
      · rw [Nat.pow_one] at hlb
        obtain ⟨z, hz⟩ : ∃ z, y / 256 = z := ⟨_, rfl⟩
        rw [hz] at hlb
        have e1 : ((v / 256 ^ i : Nat) : Int) % 256 = (z : Int) % 256 := by omega
        rw [e1] at hset
        have e2 : IntKind.u8.wrap ((z : Int) % 256) = (z : Int) % 256 := by rw [IntKind.wrap_u8]; omega
        have e3 : (z : Int).tmod 256 = (z : Int) % 256 := by rw [Int.tmod_eq_emod_of_nonneg (by omega)]
        have e4 : (y : Int) / 256 = (z : Int) := by omega
        have e5 : (y : Int).tdiv 256 = (z : Int) := by rw [Int.tdiv_eq_ediv_of_nonneg (by omega)]; exact e4
        have e6 : (z : Int) < 256 := by omega
        have HS := Kp.mk hset
        have HX2 := Kp.mk (hx.setCell (p := ⟨w1.heap.size, P, none⟩) (Nat.le_refl _) (.int .u8 ((z : Int) % 256)))
        clear hb hx hq hs hiq hP hlb hset e1 hM1 hM2 hM3 hz
        go_wp2_with fail
        go_roundw
        case rel => exact ⟨i + 1, by omega, by go_num, HS.out, HX2.out⟩
        case measure => simp [intOf]; omega
    · obtain rfl : i = M := by omega
      have hall := wrS_all v k i HV.out hM1
      rw [hall] at hb
      have HF := Kp.mk (show WriteB w1 v k (.returned (.tuple #[.slice (some ⟨w1.heap.size, 0, none⟩) k k, .bool true])) wr from
        ⟨_, _, rfl, Own.has hb.h (toB_len _ _) (Nat.le_refl _) (by unfold maxLen; omega), hx⟩)
      by_cases hik : i = k
      · have c0 : decide ((i : Int) < (k : Int)) = false := decide_eq_false (by omega)
        have c0' : decide (i < k) = false := decide_eq_false (by omega)
        clear hb hx hall hq hs hiq hM3 hM1 hM2
        go_wp2_with fail
        go_ret2
        exact HF.out
      · have c0 : (i : Int) < (k : Int) := by omega
        have c1 : decide ((q : Int) < (n : Int)) = false := decide_eq_false (by omega)
        have c1' : decide (q < n) = false := decide_eq_false (by omega)
        have c0' : i < k := by omega
        clear hb hx hall hq hs hiq hM3 hM1 hM2
        go_wp2_with fail
        go_ret2
        exact HF.out
end Go.Proofs.YticggkllfojgkaaDoor
namespace Go.Proofs.YticggkllfojgkaaDoor
open Go Go.RowKit
set_option maxRecDepth 4000

set_option maxHeartbeats 1000000 in
theorem Bytes_any {l : List Nat} {A : Option Addr} {n c : Nat} {w : World} (h : Rd vB w A n c l) (hd : Dg 256 l) (hn : n ≤ 1000000000000) :
    Calls Tryd.prog 32 #[.slice A n c] w (FreshN w (vl 256 l.reverse)) := by
  have hlen := h.len
  obtain ⟨r, hr⟩ : ∃ r, l.reverse = r := ⟨_, rfl⟩
  have hrl : r.length = n := by rw [← hr, List.length_reverse, hlen]
  have hdr : Dg 256 r := by rw [← hr]; exact hd.rev
  have hat : ∀ i, i < n → dg l (n - 1 - i) = dg r i := fun i hi => by rw [← hr, dg_rev l i (by omega), hlen]
  rw [hr]
  have HR := Kp.mk h
  have HD := Kp.mk hdr
  have HAT := Kp.mk hat
  clear h hd hr hdr hat
  go_enter Tryd.func32, Tryd.ntmps32
  go_wp2_with fail
  go_loopw [3, 4] (fun ov iv wr => ∃ j : Nat, 2 * j ≤ n + 1 ∧ iv = .int .i64 ((n : Int) - 1 - 2 * (j : Int)) ∧ (∃ A c, ov = .slice A j c) ∧ Rn wr w.heap.size ov j (jn 256 (r.take (2 * j))) ∧ Ext w wr) (fun _ i _ => (intOf i + 3).toNat)
  case atStart => exact ⟨0, by omega, by go_num, ⟨_, _, rfl⟩, Rw.nil _ _, Ext.refl _⟩
  case round =>
    obtain ⟨j, hj, rfl, ⟨Ao, co, rfl⟩, ho, hx⟩ := hrel
    by_cases hlt : 2 * j < n
    · obtain ⟨g, o, rfl⟩ := HR.out.some_ (by omega)
      obtain ⟨i, hi⟩ : ∃ i : Nat, n - 1 - 2 * j = i := ⟨_, rfl⟩
      have e0 : (n : Int) - 1 - 2 * (j : Int) = (i : Int) := by omega
      rw [e0]
      have k1 : wr.cell? ⟨g, o + i, none⟩ = some (.int .u8 (dg l i : Int)) := (HR.out.ext hx).dig i (by omega)
      have ha := HAT.out (2 * j) hlt
      rw [hi] at ha
      rw [ha] at k1
      have h1 := HD.out.at (by decide) (2 * j)
      have b0 : (i : Int) < (n : Int) := by omega
      have HRO := Kp.mk ho
      have HX := Kp.mk hx
      have HE := Kp.mk (And.intro hi e0)
      by_cases h2 : 2 * j + 1 < n
      · obtain ⟨k, hk⟩ : ∃ k, i = k + 1 := ⟨i - 1, by omega⟩
        have k2 : wr.cell? ⟨g, o + k, none⟩ = some (.int .u8 (dg l k : Int)) := (HR.out.ext hx).dig k (by omega)
        have ha2 := HAT.out (2 * j + 1) h2
        rw [show n - 1 - (2 * j + 1) = k by omega] at ha2
        rw [ha2] at k2
        have h3 := HD.out.at (by decide) (2 * j + 1)
        have HT := Kp.mk (jn_take2 256 r j (by omega))
        have HK := Kp.mk hk
        have b2 : (k : Int) < (n : Int) := by omega
        have e1 : (i : Int) - 1 = (k : Int) := by omega
        have g1 : (0 : Int) < (i : Int) := by omega
        have g2 : 0 < i := by omega
        clear hk
        clear ho hx hi e0 ha ha2
        generalize dg r (2 * j) = x at *
        generalize dg r (2 * j + 1) = y at *
        obtain ⟨z, hz⟩ : ∃ z : Nat, x + y * 256 = z := ⟨_, rfl⟩
        obtain ⟨v, hv⟩ : ∃ v : Nat, y * 256 = v := ⟨_, rfl⟩
        have e6 : (y : Int) * 256 = (v : Int) := by omega
        have e5 : (x : Int) + (v : Int) = (z : Int) := by omega
        have b6 : (v : Int) < 65536 := by omega
        have b5 : (z : Int) < 65536 := by omega
        have b7 : (x : Int) < 256 := by omega
        have b8 : (y : Int) < 256 := by omega
        rw [hz] at HT
        clear hz hv
        go_wp2_with (first | (at_builtin; refine wpList_append_I rfl (.tmp 29) (.tmp 31) rfl w.heap.size (.slice Ao j co) j _ rfl (HRO.out.ext (by (repeat (first | assumption | exact Ext.refl _ | apply Ext.drew | apply Ext.drewN | apply Ext.alloc | refine Ext.trans ?_ (by assumption))); first | done | fail)) _ 1 1 [z] rfl (lit1 _ _ _ rfl) (by omega) (j + 1) rfl _ HT.out.symm w (HX.out.trans (by (repeat (first | assumption | exact Ext.refl _ | apply Ext.drew | apply Ext.drewN | apply Ext.alloc | refine Ext.trans ?_ (by assumption))); first | done | fail)) (Nat.le_refl _) (HX.out.trans (by (repeat (first | assumption | exact Ext.refl _ | apply Ext.drew | apply Ext.drewN | apply Ext.alloc | refine Ext.trans ?_ (by assumption))); first | done | fail)).size ?_; intro A5 c5 w5 ho5 hx5 _) | fail)
        go_roundw
        case rel => have hi := HE.out; have hk := HK.out; exact ⟨j + 1, by omega, by go_num, ⟨_, _, rfl⟩, ho5, hx5⟩
        case measure => have hi := HE.out; have hk := HK.out; simp [intOf]; omega
      · have HT := Kp.mk (jn_take1 256 r j (by omega))
        obtain rfl : i = 0 := by omega
        rw [Nat.add_zero] at k1
        rw [show ((0 : Nat) : Int) = 0 from rfl] at b0 ⊢
        clear ho hx hi e0 ha
        generalize dg r (2 * j) = x at *
        have b7 : (x : Int) < 256 := by omega
        go_wp2_with (first | (at_builtin; refine wpList_append_I rfl (.tmp 29) (.tmp 31) rfl w.heap.size (.slice Ao j co) j _ rfl (HRO.out.ext (by (repeat (first | assumption | exact Ext.refl _ | apply Ext.drew | apply Ext.drewN | apply Ext.alloc | refine Ext.trans ?_ (by assumption))); first | done | fail)) _ 1 1 [x] rfl (lit1 _ _ _ (by first | rfl | omega)) (by omega) (j + 1) rfl _ HT.out.symm w (HX.out.trans (by (repeat (first | assumption | exact Ext.refl _ | apply Ext.drew | apply Ext.drewN | apply Ext.alloc | refine Ext.trans ?_ (by assumption))); first | done | fail)) (Nat.le_refl _) (HX.out.trans (by (repeat (first | assumption | exact Ext.refl _ | apply Ext.drew | apply Ext.drewN | apply Ext.alloc | refine Ext.trans ?_ (by assumption))); first | done | fail)).size ?_; intro A5 c5 w5 ho5 hx5 _) | fail)
        go_roundw
        case rel => have hi := HE.out; exact ⟨j + 1, by omega, by go_num, ⟨_, _, rfl⟩, ho5, hx5⟩
        case measure => simp [intOf]
    · rw [List.take_of_length_le (by omega)] at ho
      have b0 : decide ((0 : Int) ≤ (n : Int) - 1 - 2 * (j : Int)) = false := decide_eq_false (by omega)
      have C := Kp.mk (FreshN.of_trim (v := vl 256 r) ho (jn_dg (by decide) HD.out) (by omega) (jn_vl 256 r) hx)
      clear ho hx
      generalize (n : Int) - 1 - 2 * (j : Int) = y at *
      go_wp2_with fail
      refine C.out.mono ?_
      rintro e w2 ⟨A2, n2, c2, rfl, hr2, ho2, hx2⟩
      go_wp2_with fail
      go_ret
      exact ⟨A2, n2, c2, rfl, hr2, ho2, hx2⟩
end Go.Proofs.YticggkllfojgkaaDoor
