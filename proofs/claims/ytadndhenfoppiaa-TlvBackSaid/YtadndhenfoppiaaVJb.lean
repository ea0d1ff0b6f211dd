/-
  A writer and a reader beside one another, step by step; what is read is written anew (again).
-/
import Derived.Test.YtadndhenfoppiaaVHy
namespace Go.Proofs.Ytadndhenfoppiaa
open Go Go.RowKit
set_option maxRecDepth 4000

section
variable {b : Nat} {w w' w'' w0 : World} {p q : Nat} {s : TWs} {rest x r : List (BitVec 8)} {bs : List (List (BitVec 8))} {m : BitVec 8}
theorem Nx.trans (h : Nx b w w') (k : Nx b w' w'') : Nx b w w'' := fun w1 h1 h2 => k w1 (h w1 h1 h2) h2
theorem Nx.refl : Nx b w w := fun _ h _ => h
/-- a writer, a reader, and bytes that lie apart from the writer -/
structure Pr2d (b : Nat) (w : World) (p q : Nat) (s : TWs) (rest : List (BitVec 8)) (bs : List (List (BitVec 8))) (A : Option Addr) (n c : Nat) (l : List (BitVec 8)) : Prop where
  ex : ∃ G H, Wr w p G s ∧ Rr w q H rest bs ∧ Ap G H ∧ Lo b G ∧ Lo b H ∧ b ≤ w.heap.size ∧ Bs w A n c l ∧ Off A n G
theorem Pr2.next (h : Pr2 b w p q s rest bs) : Calls Try.prog 40 #[.pointer (some ⟨q, 0, none⟩)] w fun e w' => e = .returned (nxV rest) ∧ w' = w := by
  obtain ⟨G, H, h1, h2, h3, h4, h5, h6⟩ := h.ex
  exact Next_any h2
theorem Pr2.of {G H H' : List Nat} {rest' : List (BitVec 8)} {bs' : List (List (BitVec 8))} (h1 : Wr w p G s) (h2 : Hi w H) (h3 : Ap G H) (h4 : Lo b G) (h5 : Lo b H) (h6 : b ≤ w.heap.size) (k1 : Rr w' q H' rest' bs') (k2 : Mvs H H' w w') : Pr2 b w' p q s rest' bs' ∧ Nx b w w' :=
  ⟨⟨⟨G, H', h1.mds k2.m h3, k1, (k2.ap h1.hi h3.symm).symm, h4, k2.lo h6 h5, Nat.le_trans h6 k2.m.size⟩⟩, fun w1 hx hb => k2.ext hx (h5.mono hb)⟩
theorem Pr2.enter (h : Pr2 b w p q s rest bs) (hx : rest.length ≤ 1000000000000) (hm : isW m = true) (he : El rest m x r) (hd : bs.length < 24) : Calls Try.prog 28 #[.pointer (some ⟨q, 0, none⟩), .int .u8 (ub m)] w fun e w' => e = .returned .nilIface ∧ Pr2 b w' p q s x (bs ++ [r]) ∧ Nx b w w' := by
  obtain ⟨G, H, h1, h2, h3, h4, h5, h6⟩ := h.ex
  refine (Enter_ok h2 hx hm he hd).mono ?_
  rintro e w' ⟨rfl, G', k1, k2⟩
  exact ⟨rfl, Pr2.of h1 h2.hi h3 h4 h5 h6 k1 k2⟩
/-- no whole is entered -/
theorem Pr2.enterE (h : Pr2 b w p q s rest bs) (hx : rest.length ≤ 1000000000000) (he : ¬ (isW m = true ∧ (∃ x r, El rest m x r) ∧ bs.length < 24)) : Calls Try.prog 28 #[.pointer (some ⟨q, 0, none⟩), .int .u8 (ub m)] w fun e w' => (∃ k : Nat, e = .returned (err k)) ∧ Pr2 b w' p q s rest bs ∧ Nx b w w' := by
  obtain ⟨G, H, h1, h2, h3, h4, h5, h6⟩ := h.ex
  by_cases h7 : isW m = true ∧ ∃ x r, El rest m x r
  · obtain ⟨hm, x, r, hel⟩ := h7
    refine (Enter_deep h2 hx hm hel (Nat.le_of_not_lt fun hd => he ⟨hm, ⟨x, r, hel⟩, hd⟩)).mono ?_
    rintro e w' ⟨rfl, k⟩
    exact ⟨⟨5, rfl⟩, h.ext k, Nx.ext k⟩
  · refine (Enter_err h2 hx h7).mono ?_
    rintro e w' ⟨rfl, k⟩
    exact ⟨⟨_, rfl⟩, h.ext k, Nx.ext k⟩
theorem Pr2.take (h : Pr2 b w p q s rest bs) (hx : rest.length ≤ 1000000000000) (hm : isP m = true) (he : El rest m x r) : Calls Try.prog 25 #[.pointer (some ⟨q, 0, none⟩), .int .u8 (ub m)] w fun e w' => ∃ A n c, e = .returned (.tuple #[.slice A n c, .nilIface]) ∧ Pr2d b w' p q s r bs A n c x ∧ Nx b w w' := by
  obtain ⟨G, H, h1, h2, h3, h4, h5, h6⟩ := h.ex
  refine (Take_ok h2 hx hm he).mono ?_
  rintro e w' ⟨A, n, c, rfl, k1, k2, k3⟩
  exact ⟨A, n, c, rfl, ⟨⟨G, H, h1.mds k3 h3, k2, h3, h4, h5, Nat.le_trans h6 k3.size, k1.bs, off_own h1.hi k1⟩⟩, fun w1 hx hb => k3.ext hx (h5.mono hb)⟩
theorem Pr2.takeE (h : Pr2 b w p q s rest bs) (hx : rest.length ≤ 1000000000000) (he : ¬ (isP m = true ∧ ∃ x r, El rest m x r)) : Calls Try.prog 25 #[.pointer (some ⟨q, 0, none⟩), .int .u8 (ub m)] w fun e w' => (∃ k : Nat, e = .returned (.tuple #[.slice none 0 0, err k])) ∧ Pr2 b w' p q s rest bs ∧ Nx b w w' := by
  obtain ⟨G, H, h1, h2, h3, h4, h5, h6⟩ := h.ex
  refine (Take_err h2 hx he).mono ?_
  rintro e w' ⟨rfl, k⟩
  exact ⟨⟨_, rfl⟩, h.ext k, Nx.ext k⟩
theorem Pr2d.put {A : Option Addr} {n c : Nat} {l : List (BitVec 8)} (h : Pr2d b w p q s rest bs A n c l) (m : BitVec 8) (hf : szW s ≤ 10000000000000) :
    Calls Try.prog 15 #[.pointer (some ⟨p, 0, none⟩), .int .u8 (ub m), .slice A n c] w fun e w' => e = .returned (.tuple #[]) ∧ Pr2 b w' p q (putS m l s) rest bs ∧ Nx b w w' := by
  obtain ⟨G, H, h1, h2, h3, h4, h5, h6, h7, h8⟩ := h.ex
  refine (Put_any h1 h7 h8 hf).mono ?_
  rintro e w' ⟨rfl, G', k1, k2⟩
  exact ⟨rfl, ⟨⟨G', H, k1, h2.mds k2.m h3.symm, k2.ap h2.hi h3, k2.lo h6 h4, h5, Nat.le_trans h6 k2.m.size⟩⟩, fun w1 hx hb => k2.ext hx (h4.mono hb)⟩
theorem Pr2.leave (h : Pr2 b w p q s [] (bs ++ [x])) (hd : bs.length < 1000000) : Calls Try.prog 29 #[.pointer (some ⟨q, 0, none⟩)] w fun e w' => e = .returned .nilIface ∧ Pr2 b w' p q s x bs ∧ Nx b w w' := by
  obtain ⟨G, H, h1, h2, h3, h4, h5, h6⟩ := h.ex
  refine (Leave_ok h2 hd).mono ?_
  rintro e w' ⟨rfl, G', k1, k2⟩
  exact ⟨rfl, Pr2.of h1 h2.hi h3 h4 h5 h6 k1 k2⟩
/-- whatever stands there -/
theorem Pr2.leaveA (h : Pr2 b w p q s rest bs) (hd : bs.length ≤ 24) : Calls Try.prog 29 #[.pointer (some ⟨q, 0, none⟩)] w fun e w' => (∃ E, e = .returned E) ∧ (∃ rest' bs', Pr2 b w' p q s rest' bs' ∧ bs'.length ≤ 24) ∧ Nx b w w' := by
  rcases List.eq_nil_or_concat bs with rfl | ⟨bs', x, rfl⟩
  · obtain ⟨G, H, h1, h2, h3, h4, h5, h6⟩ := h.ex
    refine (Leave_none h2).mono ?_
    rintro e w' ⟨rfl, rfl⟩
    exact ⟨⟨_, rfl⟩, ⟨_, _, h, hd⟩, Nx.refl⟩
  · rw [List.concat_eq_append] at h hd
    have hl : bs'.length < 24 := by rw [List.length_append, List.length_singleton] at hd; omega
    by_cases hr : rest = []
    · subst hr
      refine (h.leave (by omega)).mono ?_
      rintro e w' ⟨rfl, k1, k2⟩
      exact ⟨⟨_, rfl⟩, ⟨_, _, k1, by omega⟩, k2⟩
    · obtain ⟨G, H, h1, h2, h3, h4, h5, h6⟩ := h.ex
      refine (Leave_more h2 hr (by omega)).mono ?_
      rintro e w' ⟨rfl, rfl⟩
      exact ⟨⟨_, rfl⟩, ⟨_, _, h, hd⟩, Nx.refl⟩
end
/-- what again leaves -/
def AgR (b p q : Nat) (cur : List (BitVec 8)) (st : List (BitVec 8 × List (BitVec 8))) (rest : List (BitVec 8)) (bs : List (List (BitVec 8))) (w : World) (e : Ending) (w' : World) : Prop :=
  ∃ bo : Bool, e = .returned (.bool bo) ∧ Nx b w w' ∧ (bo = true → Pr2 b w' p q (.ok (cur ++ rest) st) [] bs) ∧ ∃ s' rest' bs', Pr2 b w' p q s' rest' bs' ∧ bs'.length ≤ 24
/-- what is held of a round -/
structure Agn (b : Nat) (w wr : World) (p q : Nat) (cur : List (BitVec 8)) (st : List (BitVec 8 × List (BitVec 8))) (rest pre post : List (BitVec 8)) (bs : List (List (BitVec 8))) : Prop where
  e : rest = pre ++ post
  h : Pr2 b wr p q (.ok (cur ++ pre) st) post bs
  n : Nx b w wr
/-- bounds -/
structure Agb (cur : List (BitVec 8)) (st : List (BitVec 8 × List (BitVec 8))) (rest : List (BitVec 8)) (bs : List (List (BitVec 8))) : Prop where
  len : bs.length = st.length
  sz : (flatT cur st).length + rest.length ≤ 1000000
  vw : VW (.ok cur st)
section
variable {b : Nat} {w wr : World} {p q : Nat} {cur rest pre post x r : List (BitVec 8)} {st : List (BitVec 8 × List (BitVec 8))} {bs : List (List (BitVec 8))} {m : BitVec 8}
theorem Agb.rst (h : Agb cur st rest bs) (he : rest = pre ++ post) : post.length ≤ 1000000000000 := by
  have := h.sz
  rw [he, List.length_append] at this
  omega
theorem Agb.now (h : Agb cur st rest bs) (he : rest = pre ++ post) : szW (.ok (cur ++ pre) st) ≤ 10000000000000 := by
  have := h.sz
  show (flatT (cur ++ pre) st).length ≤ _
  rw [flatT_app, List.length_append]
  rw [he, List.length_append] at this
  omega
theorem Agb.in_ (h : Agb cur st rest bs) (he : rest = pre ++ post) (hel : El post m x r) (hm : isW m = true) (hd : bs.length < 24) : Agb [] ((m, cur ++ pre) :: st) x (bs ++ [r]) := by
  have h1 := h.sz
  have h2 := (el_parts hel).2.2.1
  have h3 := hdn_lo x.length
  rw [he, List.length_append] at h1
  refine ⟨by rw [List.length_append, List.length_singleton, List.length_cons, h.len], ?_, ⟨by rw [List.length_cons, ← h.len]; omega, fun y hy => ?_⟩⟩
  · rw [flatT_open, flatT_app, List.length_append, List.length_append, List.length_singleton]
    omega
  · rcases List.mem_cons.1 hy with rfl | hy
    · exact hm
    · exact h.vw.2 y hy
end
set_option maxHeartbeats 16000000 in
theorem again_any (b p q : Nat) : ∀ (L : Nat), L ≤ 1200 → ∀ (w : World) (cur rest : List (BitVec 8)) (st : List (BitVec 8 × List (BitVec 8))) (bs : List (List (BitVec 8))), Pr2 b w p q (.ok cur st) rest bs → Agb cur st rest bs →
    Calls Try.prog 30 #[.pointer (some ⟨q, 0, none⟩), .pointer (some ⟨p, 0, none⟩), .int .i64 (L : Int)] w (AgR b p q cur st rest bs w) := by
  intro L
  induction L using Nat.strongRecOn with
  | ind L ih =>
    intro hL w cur rest st bs hp hb
    have IH := Kp.mk ih
    have HB := Kp.mk hb
    have HP := Kp.mk hp
    have HL := Kp.mk hL
    clear ih hb hp hL
    go_enter Try.func30, Try.ntmps30
    go_wp2_with fail
    go_loopw [2] (fun lv wr => ∃ (l : Nat) (pre post : List (BitVec 8)), l ≤ L ∧ lv = .int .i64 (l : Int) ∧ Agn b w wr p q cur st rest pre post bs) (fun lv _ => (intOf lv).toNat)
    case atStart => exact ⟨L, [], rest, Nat.le_refl _, rfl, ⟨rfl, by rw [List.append_nil]; exact HP.out, Nx.refl⟩⟩
    case round =>
      obtain ⟨l, pre, post, hl, rfl, ha⟩ := hrel
      have HA := Kp.mk ha
      have H0 := Kp.mk hl
      clear ha hl
      have h24 : Kp (bs.length ≤ 24) := ⟨by rw [HB.out.len]; exact HB.out.vw.1⟩
      rcases Nat.eq_zero_or_pos l with hl0 | hl0
      · subst hl0
        go_wp2_with fail
        go_ret
        exact ⟨false, rfl, HA.out.n, (fun h => by cases h), _, _, _, HA.out.h, h24.out⟩
      · have b1 : 0 < (l : Int) := by omega
        obtain ⟨l', hl'⟩ : ∃ l', l = l' + 1 := ⟨l - 1, by omega⟩
        have b2 : IntKind.i64.wrap ((l : Int) - 1) = (l' : Int) := by have := H0.out; have := HL.out; rw [IntKind.wrap_i64]; omega
        have H1 := Kp.mk hl'
        clear hl' hl0
        by_cases h0 : post = []
        · have hnx : nxV post = .tuple #[.int .u8 0, .bool false] := by rw [h0]; rfl
          have HN := Kp.mk hnx
          have H2 := Kp.mk h0
          clear h0 hnx
          go_wp2_with fail
          refine (HA.out.h.next).mono ?_
          rintro e w1 ⟨rfl, rfl⟩
          rw [HN.out]
          go_wp2_with fail
          go_ret
          have h3 := HA.out.h
          have h4 := HA.out.e
          rw [H2.out, List.append_nil] at h4
          rw [H2.out, ← h4] at h3
          exact ⟨true, rfl, HA.out.n, fun _ => h3, _, _, _, h3, h24.out⟩
        · obtain ⟨m, hm⟩ : ∃ m, gb post 0 = m := ⟨_, rfl⟩
          have hnx : nxV post = .tuple #[.int .u8 (ub m), .bool true] := by
            unfold nxV
            rw [if_neg (fun e => h0 (List.eq_nil_of_length_eq_zero e)), hm]
          have HN := Kp.mk hnx
          clear h0 hnx hm
          cases hw : whB m with
          | true =>
            by_cases hok : isW m = true ∧ (∃ x r, El post m x r) ∧ bs.length < 24
            · obtain ⟨hm, ⟨x, r, hel⟩, hd⟩ := hok
              have H3 := Kp.mk hel
              have H4 := Kp.mk hm
              have H5 := Kp.mk hd
              clear hel hm hd
              go_wp2_with fail
              refine (HA.out.h.next).mono ?_
              rintro e w1 ⟨rfl, rfl⟩
              rw [HN.out]
              go_wp2_with fail
              refine (refIsWhole_any m true hw _).mono ?_
              rintro e w2 ⟨rfl, rfl⟩
              go_wp2_with fail
              refine (HA.out.h.enter (HB.out.rst HA.out.e) H4.out H3.out H5.out).mono ?_
              rintro e w3 ⟨rfl, p3, y3⟩
              have P3 := Kp.mk p3
              have Y3 := Kp.mk (HA.out.n.trans y3)
              clear p3 y3
              go_wp2_with fail
              refine (P3.out.open_ m (HB.out.now HA.out.e)).mono ?_
              rintro e w4 ⟨rfl, p4, y4⟩
              rw [show openS m (.ok (cur ++ pre) st) = .ok [] ((m, cur ++ pre) :: st) by simp only [openS]; rw [if_pos H4.out, if_pos (by rw [← HB.out.len]; exact H5.out)]] at p4
              have P4 := Kp.mk p4
              have Y4 := Kp.mk (Y3.out.trans y4)
              clear p4 y4
              go_wp2_with fail
              refine (IH.out l' (by have := H0.out; have := H1.out; omega) (by have := H0.out; have := H1.out; have := HL.out; omega) _ _ _ _ _ P4.out (HB.out.in_ HA.out.e H3.out H4.out H5.out)).mono ?_
              rintro e w5 ⟨bo, rfl, y5, k5, s', rest', bs', p5, h5⟩
              have Y5 := Kp.mk (Y4.out.trans y5)
              cases bo with
              | false =>
                have P5 := Kp.mk p5
                have H6 := Kp.mk h5
                clear p5 h5 y5 k5
                go_wp2_with fail
                refine (P5.out.leaveA H6.out).mono ?_
                rintro e w6 ⟨⟨E, rfl⟩, ⟨rest2, bs2, p6, h6⟩, y6⟩
                have P6 := Kp.mk p6
                have H7 := Kp.mk h6
                have Y6 := Kp.mk (Y5.out.trans y6)
                clear p6 h6 y6
                go_wp2_with fail
                go_ret
                exact ⟨false, rfl, Y6.out, (fun h => by cases h), _, _, _, P6.out, H7.out⟩
              | true =>
                have P5 := Kp.mk (k5 rfl)
                clear p5 h5 y5 k5
                go_wp2_with fail
                refine (P5.out.leave (by have := H5.out; omega)).mono ?_
                rintro e w6 ⟨rfl, p6, y6⟩
                have P6 := Kp.mk p6
                have Y6 := Kp.mk (Y5.out.trans y6)
                clear p6 y6
                go_wp2_with fail
                have hin := HB.out.in_ HA.out.e H3.out H4.out H5.out
                refine (P6.out.close (s := .ok ([] ++ x) ((m, cur ++ pre) :: st)) hin.vw (by have := hin.sz; show (flatT ([] ++ x) _).length ≤ _; rw [flatT_app, List.length_append]; omega)).mono ?_
                rintro e w7 ⟨rfl, p7, y7⟩
                rw [List.nil_append, show closeS (.ok x ((m, cur ++ pre) :: st)) = .ok (cur ++ pre ++ elm m x) st by simp only [closeS]; rw [if_pos H3.out.2.1]] at p7
                have A7 : Agn b w w7 p q cur st rest (pre ++ elm m x) r bs := ⟨by rw [HA.out.e, H3.out.2.2, List.append_assoc], by rw [← List.append_assoc]; exact p7, Y6.out.trans y7⟩
                have HA7 := Kp.mk A7
                clear p7 y7 hin A7
                go_wp2_with fail
                go_roundw
                case rel => exact ⟨l', _, _, by have := H0.out; have := H1.out; omega, rfl, HA7.out⟩
                case measure => have := H1.out; simp [intOf]; omega
            · have H3 := Kp.mk hok
              clear hok
              go_wp2_with fail
              refine (HA.out.h.next).mono ?_
              rintro e w1 ⟨rfl, rfl⟩
              rw [HN.out]
              go_wp2_with fail
              refine (refIsWhole_any m true hw _).mono ?_
              rintro e w2 ⟨rfl, rfl⟩
              go_wp2_with fail
              refine (HA.out.h.enterE (HB.out.rst HA.out.e) H3.out).mono ?_
              rintro e w3 ⟨⟨k, rfl⟩, p3, y3⟩
              have P3 := Kp.mk p3
              have Y3 := Kp.mk (HA.out.n.trans y3)
              clear p3 y3
              go_wp2_with fail
              go_ret
              exact ⟨false, rfl, Y3.out, (fun h => by cases h), _, _, _, P3.out, h24.out⟩
          | false =>
            by_cases hok : isP m = true ∧ ∃ x r, El post m x r
            · obtain ⟨hm, x, r, hel⟩ := hok
              have H3 := Kp.mk hel
              have H4 := Kp.mk hm
              clear hel hm
              go_wp2_with fail
              refine (HA.out.h.next).mono ?_
              rintro e w1 ⟨rfl, rfl⟩
              rw [HN.out]
              go_wp2_with fail
              refine (refIsWhole_any m false hw _).mono ?_
              rintro e w2 ⟨rfl, rfl⟩
              go_wp2_with fail
              refine (HA.out.h.take (HB.out.rst HA.out.e) H4.out H3.out).mono ?_
              rintro e w3 ⟨A3, n3, c3, rfl, p3, y3⟩
              have P3 := Kp.mk p3
              have Y3 := Kp.mk (HA.out.n.trans y3)
              clear p3 y3
              go_wp2_with fail
              refine (P3.out.put m (HB.out.now HA.out.e)).mono ?_
              rintro e w4 ⟨rfl, p4, y4⟩
              rw [show putS m x (.ok (cur ++ pre) st) = .ok (cur ++ pre ++ elm m x) st by simp only [putS]; rw [if_pos H4.out, if_pos H3.out.2.1]] at p4
              have A7 : Agn b w w4 p q cur st rest (pre ++ elm m x) r bs := ⟨by rw [HA.out.e, H3.out.2.2, List.append_assoc], by rw [← List.append_assoc]; exact p4, Y3.out.trans y4⟩
              have HA7 := Kp.mk A7
              clear p4 y4 A7
              go_wp2_with fail
              go_roundw
              case rel => exact ⟨l', _, _, by have := H0.out; have := H1.out; omega, rfl, HA7.out⟩
              case measure => have := H1.out; simp [intOf]; omega
            · have H3 := Kp.mk hok
              clear hok
              go_wp2_with fail
              refine (HA.out.h.next).mono ?_
              rintro e w1 ⟨rfl, rfl⟩
              rw [HN.out]
              go_wp2_with fail
              refine (refIsWhole_any m false hw _).mono ?_
              rintro e w2 ⟨rfl, rfl⟩
              go_wp2_with fail
              refine (HA.out.h.takeE (HB.out.rst HA.out.e) H3.out).mono ?_
              rintro e w3 ⟨⟨k, rfl⟩, p3, y3⟩
              have P3 := Kp.mk p3
              have Y3 := Kp.mk (HA.out.n.trans y3)
              clear p3 y3
              go_wp2_with fail
              go_ret
              exact ⟨false, rfl, Y3.out, (fun h => by cases h), _, _, _, P3.out, h24.out⟩
end Go.Proofs.Ytadndhenfoppiaa
