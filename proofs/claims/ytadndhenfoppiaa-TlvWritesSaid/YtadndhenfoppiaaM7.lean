/-
  tlv's writer: what it holds, what stays of it; fail.
  tlv's writer: Put.
  tlv's writer: Open.
  tlv's writer: Close.
-/
import Derived.Test.YtadndhenfoppiaaM3
import Derived.Test.YtadndhenfoppiaaM6
namespace Go.Proofs.Ytadndhenfoppiaa
open Go Go.RowKit
set_option maxRecDepth 4000

abbrev wtt : TypeId := 60
def vIn (n : Nat) : Value := .int .i64 (n : Int)
theorem vIn_one (n : Nat) : (vIn n).oneCell' = true := rfl
theorem inI : (Try.prog.info? 3).map (fun i => (i.zero, i.size, i.bytes)) = some (some (.int .i64 0), 1, 8) := by kernel_rfl
theorem szWt : (Try.prog.info? wtt).map (·.size) = some 3 := by kernel_rfl
/-- a writer's cells -/
structure Wt (w : World) (p : Nat) (vw vo : Value) (L : List (BitVec 8)) (P : List Nat) : Prop where
  blk : Blk w p wtt #[vw, vo, .nilIface]
  ow : Own w 0 vw L.length L
  oo : Rw 3 vIn w 0 vo P.length P
/-- the blocks that a writer lies in -/
def fpW (p : Nat) (vw vo : Value) : List Nat := p :: (fpv vw ++ fpv vo)
theorem mem_fpW {p k : Nat} {vw vo : Value} : k ∈ fpW p vw vo ↔ k = p ∨ k ∈ fpv vw ∨ k ∈ fpv vo := by unfold fpW; simp
/-- a writer in its blocks -/
inductive Wr (w : World) (p : Nat) : List Nat → TWs → Prop where
  | ok {vw vo : Value} {cur : List (BitVec 8)} {st : List (BitVec 8 × List (BitVec 8))} (h : Wt w p vw vo (flatT cur st) (posT st)) : Wr w p (fpW p vw vo) (.ok cur st)
  | bad {c : Nat} (h : Blk w p wtt #[.slice none 0 0, .slice none 0 0, err c]) : Wr w p [p] (.bad c)
section
variable {w w' : World} {p : Nat} {vw vo : Value} {L : List (BitVec 8)} {P : List Nat} {G H : List Nat} {s : TWs}
theorem Wt.mds (h : Wt w p vw vo L P) (hm : Mds H w w') (ha : Ap (fpW p vw vo) H) : Wt w' p vw vo L P :=
  ⟨h.blk.mds hm (ha p (mem_fpW.2 (.inl rfl))), (h.ow.rw.mds hm fun k hk => ha k (mem_fpW.2 (.inr (.inl hk)))).own, h.oo.mds hm fun k hk => ha k (mem_fpW.2 (.inr (.inr hk)))⟩
theorem Wt.ext (h : Wt w p vw vo L P) (hx : Ext w w') : Wt w' p vw vo L P := ⟨h.blk.ext hx, h.ow.ext hx, h.oo.ext hx⟩
theorem Wt.hi (h : Wt w p vw vo L P) : Hi w (fpW p vw vo) := fun k hk => by
  rcases mem_fpW.1 hk with rfl | hk | hk
  · exact h.blk.lt
  · exact h.ow.rw.fp_lt k hk
  · exact h.oo.fp_lt k hk
theorem Wr.hi (h : Wr w p G s) : Hi w G := by
  cases h with
  | ok h => exact h.hi
  | bad h => intro k hk; rw [List.mem_singleton.1 hk]; exact h.lt
theorem Wr.mds (h : Wr w p G s) (hm : Mds H w w') (ha : Ap G H) : Wr w' p G s := by
  cases h with
  | ok h => exact .ok (h.mds hm ha)
  | bad h => exact .bad (h.mds hm (ha p (by simp)))
theorem Wr.ext (h : Wr w p G s) (hx : Ext w w') : Wr w' p G s := by
  cases h with
  | ok h => exact .ok (h.ext hx)
  | bad h => exact .bad (h.ext hx)
theorem Wr.mem (h : Wr w p G s) : p ∈ G := by
  cases h with
  | ok h => exact mem_fpW.2 (.inl rfl)
  | bad h => simp
/-- what the writer's field written is turned into -/
theorem Wt.put {vw' : Value} {L' : List (BitVec 8)} (h : Wt w p vw vo L P) (hm : Mvs (fpv vw) (fpv vw') w w') (ho : Own w' 0 vw' L'.length L') :
    Wt (w'.setCell ⟨p, 0, none⟩ vw') p vw' vo L' P ∧ Mvs (fpW p vw vo) (fpW p vw' vo) w (w'.setCell ⟨p, 0, none⟩ vw') := by
  have h1 := h.blk.mds hm.m (h.ow.rw.ne h.blk (by decide))
  have h2 : Rw 3 vIn w' 0 vo P.length P := h.oo.mds hm.m (h.oo.apart h.ow.rw (by decide))
  refine ⟨⟨h1.set_ 0 vw', ?_, ?_⟩, ?_, ?_⟩
  · exact ho.far (p := ⟨p, 0, none⟩) (fun e => ho.rw.ne h1 (by decide) (mem_fpv.2 e)) _
  · exact h2.far (p := ⟨p, 0, none⟩) (fun e => h2.ne h1 (by decide) (mem_fpv.2 e)) _
  · exact (hm.m.mono fun k hk => mem_fpW.2 (.inr (.inl hk))).setCell (p := ⟨p, 0, none⟩) (mem_fpW.2 (.inl rfl)) _
  · intro k hk
    rcases mem_fpW.1 hk with rfl | hk | hk
    · exact .inl (mem_fpW.2 (.inl rfl))
    · rcases hm.f k hk with e | e
      · exact .inl (mem_fpW.2 (.inr (.inl e)))
      · exact .inr e
    · exact .inl (mem_fpW.2 (.inr (.inr hk)))
theorem Wt.at0 {vw' : Value} (h : Wt w p vw vo L P) (hm : Mvs (fpv vw) (fpv vw') w w') : w'.cell? ⟨p, 0, none⟩ = some vw ∧ w'.frozen? ⟨p, 0, none⟩ = false := by
  have h1 := h.blk.mds hm.m (h.ow.rw.ne h.blk (by decide))
  exact ⟨h1.h.cell 0, h1.h.frozen 0⟩
theorem Wt.at1 {vo' : Value} (h : Wt w p vw vo L P) (hm : Mvs (fpv vo) (fpv vo') w w') : w'.cell? ⟨p, 1, none⟩ = some vo ∧ w'.frozen? ⟨p, 1, none⟩ = false := by
  have h1 := h.blk.mds hm.m (h.oo.ne h.blk (by decide))
  exact ⟨h1.h.cell 1, h1.h.frozen 1⟩
theorem fpW_w {k : Nat} (h : k ∈ fpv vw) : k ∈ fpW p vw vo := mem_fpW.2 (.inr (.inl h))
theorem fpW_o {k : Nat} (h : k ∈ fpv vo) : k ∈ fpW p vw vo := mem_fpW.2 (.inr (.inr h))
/-- .. and its field open -/
theorem Wt.hold {vo' : Value} {P' : List Nat} (h : Wt w p vw vo L P) (hm : Mvs (fpv vo) (fpv vo') w w') (ho : Rw 3 vIn w' 0 vo' P'.length P') :
    Wt (w'.setCell ⟨p, 1, none⟩ vo') p vw vo' L P' ∧ Mvs (fpW p vw vo) (fpW p vw vo') w (w'.setCell ⟨p, 1, none⟩ vo') := by
  have h1 := h.blk.mds hm.m (h.oo.ne h.blk (by decide))
  have h2 : Rw 5 vb w' 0 vw L.length L := h.ow.rw.mds hm.m (h.ow.rw.apart h.oo (by decide))
  refine ⟨⟨h1.set_ 1 vo', ?_, ?_⟩, ?_, ?_⟩
  · exact (h2.far (p := ⟨p, 1, none⟩) (fun e => h2.ne h1 (by decide) (mem_fpv.2 e)) _).own
  · exact ho.far (p := ⟨p, 1, none⟩) (fun e => ho.ne h1 (by decide) (mem_fpv.2 e)) _
  · exact (hm.m.mono fun k hk => mem_fpW.2 (.inr (.inr hk))).setCell (p := ⟨p, 1, none⟩) (mem_fpW.2 (.inl rfl)) _
  · intro k hk
    rcases mem_fpW.1 hk with rfl | hk | hk
    · exact .inl (mem_fpW.2 (.inl rfl))
    · exact .inl (mem_fpW.2 (.inr (.inl hk)))
    · rcases hm.f k hk with e | e
      · exact .inl (mem_fpW.2 (.inr (.inr e)))
      · exact .inr e
end
/-- how a writer's call ends -/
def WrR (w : World) (p : Nat) (G : List Nat) (s : TWs) (e : Ending) (w' : World) : Prop := e = .returned (.tuple #[]) ∧ ∃ G', Wr w' p G' s ∧ Mvs G G' w w'
theorem one_bad (c : Int) : (#[Value.slice none 0 0, Value.slice none 0 0, err c] : Array Value).all (·.oneCell') = true := by simp [Value.oneCell']
set_option maxHeartbeats 1000000 in
theorem fail_any {w : World} {p : Nat} {cs : Array Value} (h : Blk w p wtt cs) (hs : cs.size = 3) (c : Nat) :
    Calls Try.prog 33 #[.pointer (some ⟨p, 0, none⟩), err c] w fun e w' => e = .returned (.tuple #[]) ∧ Blk w' p wtt #[.slice none 0 0, .slice none 0 0, err c] ∧ Mds [p] w w' := by
  have H := Kp.mk h
  have HS := Kp.mk hs
  clear h hs
  go_enter Try.func33, Try.ntmps33
  go_wp2_with (first | ((with_reducible refine at_store 7 6 ?_); refine wpList_store_row rfl wtt _ _ rfl p #[.slice none 0 0, .slice none 0 0, err c] rfl rfl wtt _ H.out.h szWt HS.out (one_bad c) ?_) | fail)
  go_end0
  exact ⟨rfl, H.out.row _, (Mds.refl [p] w).setRow (by simp) _⟩
end Go.Proofs.Ytadndhenfoppiaa
namespace Go.Proofs.Ytadndhenfoppiaa
open Go Go.RowKit
set_option maxRecDepth 4000

section
variable {w : World} {p : Nat} {m : BitVec 8} {b : List (BitVec 8)} {A : Option Addr} {n c : Nat} {G : List Nat}
set_option maxHeartbeats 1000000 in
theorem Put_bad {k : Nat} (h : Wr w p G (.bad k)) : Calls Try.prog 15 #[.pointer (some ⟨p, 0, none⟩), .int .u8 (ub m), .slice A n c] w (WrR w p G (.bad k)) := by
  cases h with
  | bad h =>
    have hc := fun (w' : World) (hx : Ext w w') => h.cell hx 2
    have H := Kp.mk h
    clear h
    go_enter Try.func15, Try.ntmps15
    go_wp2_with fail
    refine bodyPost_ret (results_none rfl _ _ _) rfl ?_
    exact ⟨rfl, _, .bad H.out, Mvs.refl _ _⟩
set_option maxHeartbeats 1000000 in
theorem Put_arg {cur : List (BitVec 8)} {st : List (BitVec 8 × List (BitVec 8))} (h : Wr w p G (.ok cur st)) (hm : isP m = false) : Calls Try.prog 15 #[.pointer (some ⟨p, 0, none⟩), .int .u8 (ub m), .slice A n c] w (WrR w p G (.bad 1)) := by
  cases h with
  | @ok vw vo cur st h =>
    have hc := fun (w' : World) (hx : Ext w w') => h.blk.cell hx 2
    have H := Kp.mk h
    clear h
    go_enter Try.func15, Try.ntmps15
    go_wp2_with (first | (go_at_call 32; refine (isPart_any m false hm _).mono ?_; rintro e w1 ⟨rfl, rfl⟩) | (go_at_call 33; refine (fail_any H.out.blk rfl 1).mono ?_; rintro e w2 ⟨rfl, hb2, hm2⟩) | fail)
    refine bodyPost_ret (results_none rfl _ _ _) rfl ?_
    exact ⟨rfl, _, .bad hb2, hm2.mono (fun k hk => mem_fpW.2 (.inl (List.mem_singleton.1 hk))), fun k hk => .inl (mem_fpW.2 (.inl (List.mem_singleton.1 hk)))⟩
set_option maxHeartbeats 2000000 in
theorem Put_long {cur : List (BitVec 8)} {st : List (BitVec 8 × List (BitVec 8))} (h : Wr w p G (.ok cur st)) (hm : isP m = true) (hb : 65535 < n) : Calls Try.prog 15 #[.pointer (some ⟨p, 0, none⟩), .int .u8 (ub m), .slice A n c] w (WrR w p G (.bad 4)) := by
  cases h with
  | @ok vw vo cur st h =>
    have hc := fun (w' : World) (hx : Ext w w') => h.blk.cell hx 2
    have hk : mkB m = true := by unfold isP at hm; simp at hm; exact hm.1
    have H := Kp.mk h
    have C := Kp.mk (fun u => Head_long m (n : Int) (by omega) hk u)
    clear h hb hk
    go_enter Try.func15, Try.ntmps15
    go_wp2_with (first | (go_at_call 32; refine (isPart_any m true hm _).mono ?_; rintro e w1 ⟨rfl, rfl⟩) | (go_at_call 9; refine (C.out _).mono ?_; rintro e w3 ⟨rfl, hx3⟩; have HX := Kp.mk hx3; clear hx3) | (go_at_call 33; refine (fail_any (H.out.blk.ext HX.out) rfl 4).mono ?_; rintro e w2 ⟨rfl, hb2, hm2⟩) | fail)
    refine bodyPost_ret (results_none rfl _ _ _) rfl ?_
    have hm3 : Mds [p] _ w2 := (HX.out.mds [p]).trans hm2
    exact ⟨rfl, _, .bad hb2, hm3.mono (fun k hk => mem_fpW.2 (.inl (List.mem_singleton.1 hk))), fun k hk => .inl (mem_fpW.2 (.inl (List.mem_singleton.1 hk)))⟩
set_option maxHeartbeats 4000000 in
theorem Put_ok {cur : List (BitVec 8)} {st : List (BitVec 8 × List (BitVec 8))} (h : Wr w p G (.ok cur st)) (hm : isP m = true) (hbs : Bs w A n c b) (ho : Off A n G) (hb : n ≤ 65535) (hf : (flatT cur st).length ≤ 10000000000000) :
    Calls Try.prog 15 #[.pointer (some ⟨p, 0, none⟩), .int .u8 (ub m), .slice A n c] w (WrR w p G (.ok (cur ++ elm m b) st)) := by
  cases h with
  | @ok vw vo cur st h =>
    have hc := fun (w' : World) (hx : Ext w w') => h.blk.cell hx 2
    have hc0 := fun (w' : World) (hx : Ext w w') => h.blk.cell hx 0
    have hk : mkB m = true := by unfold isP at hm; simp at hm; exact hm.1
    have hlen := hbs.len
    have hhi := hdn_hi n
    have he : flatT (cur ++ elm m b) st = flatT cur st ++ hdr m n ++ b := by rw [flatT_app, elm, hlen, List.append_assoc]
    obtain ⟨L, hL⟩ : ∃ L, flatT cur st = L := ⟨_, rfl⟩
    obtain ⟨N, hN⟩ : ∃ N, L.length = N := ⟨_, rfl⟩
    obtain ⟨D, hD⟩ : ∃ D, hdr m n = D := ⟨_, rfl⟩
    obtain ⟨k, hkk⟩ : ∃ k, hdn n = k := ⟨_, rfl⟩
    have hDl : D.length = k := by rw [← hD, hdr_len, hkk]
    have C := Kp.mk (fun u => Head_ok m n hb hk u)
    rw [hD, hkk] at C
    rw [hL] at h hf he
    rw [hD] at he
    rw [hN] at hf
    rw [hkk] at hhi
    have H := Kp.mk h
    have HN := Kp.mk hN
    have HB := Kp.mk hbs
    have HOF := Kp.mk ho
    have HE := Kp.mk he
    have hx1 : N + k ≤ 140737488355328 := by omega
    have hx2 : N + k + n ≤ 140737488355328 := by omega
    have HL2 : Kp ((L ++ D).length = N + k) := ⟨by rw [List.length_append, hN, hDl]⟩
    have HL3 : Kp ((L ++ D ++ b).length = N + k + n) := ⟨by rw [List.length_append, List.length_append, hN, hDl, hlen]⟩
    clear h hb hk hL hN hD hkk hhi hf hDl hbs hlen he ho
    go_enter Try.func15, Try.ntmps15
    go_wp2_with (first | (go_at_call 32; refine (isPart_any m true hm _).mono ?_; rintro e w1 ⟨rfl, rfl⟩) | (go_at_call 9; refine (C.out _).mono ?_; rintro e w3 ⟨A3, c3, rfl, hs3, ho3, hx3⟩; have c3' := hc0 w3 hx3; have HS3 := Kp.mk hs3; have HX3 := Kp.mk hx3; clear hs3 ho3 hx3) | (with_reducible refine at_call_to 37 ?_; refine wpList_append_m rfl (.tmp 35) (.tmp 36) rfl vw N L rfl (HN.out ▸ (H.out.ext HX3.out).ow) A3 k c3 D rfl HS3.out hx1 (N + k) rfl (L ++ D) rfl ?_; intro A4 c4 w4 ho4 ha4; obtain ⟨c4', f4⟩ := (H.out.ext HX3.out).at0 ha4.mv; have W4 := Kp.mk ((H.out.ext HX3.out).put ha4.mv (by rw [HL2.out]; exact ho4)); clear ho4 ha4) | (with_reducible refine at_call_to 46 ?_; refine wpList_append_m rfl (.tmp 44) (.tmp 45) rfl (.slice A4 (N + k) c4) (N + k) (L ++ D) rfl (HL2.out ▸ W4.out.1.ow) A n c b rfl ((HB.out.ext HX3.out).mds W4.out.2.m HOF.out) hx2 (N + k + n) rfl (L ++ D ++ b) rfl ?_; intro A5 c5 w5 ho5 ha5; obtain ⟨c5', f5⟩ := W4.out.1.at0 ha5.mv; have W5 := Kp.mk (W4.out.1.put ha5.mv (by rw [HL3.out]; exact ho5)); clear ho5 ha5) | fail)
    go_end0
    have h5 := W5.out.1
    rw [← HE.out] at h5
    exact ⟨rfl, _, .ok h5, (W4.out.2.trans W5.out.2).pre HX3.out⟩
/-- whatever the writer holds -/
theorem Put_any {s : TWs} (h : Wr w p G s) (hbs : Bs w A n c b) (ho : Off A n G) (hf : szW s ≤ 10000000000000) : Calls Try.prog 15 #[.pointer (some ⟨p, 0, none⟩), .int .u8 (ub m), .slice A n c] w (WrR w p G (putS m b s)) := by
  cases s with
  | bad k => exact Put_bad h
  | ok cur st =>
    cases hm : isP m with
    | false =>
      rw [show putS m b (.ok cur st) = .bad 1 by simp [putS, hm]]
      exact Put_arg h hm
    | true =>
      by_cases hl : b.length ≤ 65535
      · rw [show putS m b (.ok cur st) = .ok (cur ++ elm m b) st by simp [putS, hm, hl]]
        exact Put_ok h hm hbs ho (by rw [← hbs.len]; exact hl) hf
      · rw [show putS m b (.ok cur st) = .bad 4 by simp [putS, hm, hl]]
        exact Put_long h hm (by rw [← hbs.len]; omega)
end
end Go.Proofs.Ytadndhenfoppiaa
namespace Go.Proofs.Ytadndhenfoppiaa
open Go Go.RowKit
set_option maxRecDepth 4000

section
variable {w : World} {p : Nat} {m : BitVec 8} {G : List Nat}
set_option maxHeartbeats 1000000 in
theorem Open_bad {k : Nat} (h : Wr w p G (.bad k)) : Calls Try.prog 17 #[.pointer (some ⟨p, 0, none⟩), .int .u8 (ub m)] w (WrR w p G (.bad k)) := by
  cases h with
  | bad h =>
    have hc := fun (w' : World) (hx : Ext w w') => h.cell hx 2
    have H := Kp.mk h
    clear h
    go_enter Try.func17, Try.ntmps17
    go_wp2_with fail
    refine bodyPost_ret (results_none rfl _ _ _) rfl ?_
    exact ⟨rfl, _, .bad H.out, Mvs.refl _ _⟩
set_option maxHeartbeats 1000000 in
theorem Open_arg {cur : List (BitVec 8)} {st : List (BitVec 8 × List (BitVec 8))} (h : Wr w p G (.ok cur st)) (hm : isW m = false) : Calls Try.prog 17 #[.pointer (some ⟨p, 0, none⟩), .int .u8 (ub m)] w (WrR w p G (.bad 1)) := by
  cases h with
  | @ok vw vo cur st h =>
    have hc := fun (w' : World) (hx : Ext w w') => h.blk.cell hx 2
    have H := Kp.mk h
    clear h
    go_enter Try.func17, Try.ntmps17
    go_wp2_with (first | (go_at_call 36; refine (isWhole_any m false hm _).mono ?_; rintro e w1 ⟨rfl, rfl⟩) | (go_at_call 33; refine (fail_any H.out.blk rfl 1).mono ?_; rintro e w2 ⟨rfl, hb2, hm2⟩) | fail)
    refine bodyPost_ret (results_none rfl _ _ _) rfl ?_
    exact ⟨rfl, _, .bad hb2, hm2.mono (fun k hk => mem_fpW.2 (.inl (List.mem_singleton.1 hk))), fun k hk => .inl (mem_fpW.2 (.inl (List.mem_singleton.1 hk)))⟩
set_option maxHeartbeats 1000000 in
theorem Open_deep {cur : List (BitVec 8)} {st : List (BitVec 8 × List (BitVec 8))} (h : Wr w p G (.ok cur st)) (hm : isW m = true) (hd : 24 ≤ st.length) : Calls Try.prog 17 #[.pointer (some ⟨p, 0, none⟩), .int .u8 (ub m)] w (WrR w p G (.bad 5)) := by
  cases h with
  | @ok vw vo cur st h =>
    obtain ⟨Ao, co, rfl⟩ := h.oo.form
    rw [posT_len] at *
    obtain ⟨D, hD⟩ : ∃ D, st.length = D := ⟨_, rfl⟩
    rw [hD] at h hd ⊢
    have b1 : (24 : Int) ≤ (D : Int) := by omega
    have hc := fun (w' : World) (hx : Ext w w') => h.blk.cell hx 2
    have hc1 := fun (w' : World) (hx : Ext w w') => h.blk.cell hx 1
    have H := Kp.mk h
    clear h hd hD
    go_enter Try.func17, Try.ntmps17
    go_wp2_with (first | (go_at_call 36; refine (isWhole_any m true hm _).mono ?_; rintro e w1 ⟨rfl, rfl⟩) | (go_at_call 33; refine (fail_any H.out.blk rfl 5).mono ?_; rintro e w2 ⟨rfl, hb2, hm2⟩) | fail)
    refine bodyPost_ret (results_none rfl _ _ _) rfl ?_
    exact ⟨rfl, _, .bad hb2, hm2.mono (fun k hk => mem_fpW.2 (.inl (List.mem_singleton.1 hk))), fun k hk => .inl (mem_fpW.2 (.inl (List.mem_singleton.1 hk)))⟩
theorem num_rd (w : World) (x : Nat) (g : Nat) (hg : g = w.heap.size) : Rd vIn (w.alloc (.cells #[.int .i64 (x : Int)] 3)) (some ⟨g, 0, none⟩) 1 1 [x] := by
  subst hg
  refine ⟨rfl, Nat.le_refl _, (fun e => by cases e), fun _ => ⟨w.heap.size, 0, rfl, fun j y hj => ?_⟩⟩
  have hj0 : j = 0 := by have := (List.getElem?_eq_some_iff.1 hj).1; simp at this; exact this
  subst hj0
  obtain rfl : x = y := by simpa using hj
  exact (Blk.new w 3 #[.int .i64 (x : Int)]).h.cell 0
set_option maxHeartbeats 4000000 in
theorem Open_ok {cur : List (BitVec 8)} {st : List (BitVec 8 × List (BitVec 8))} (h : Wr w p G (.ok cur st)) (hm : isW m = true) (hd : st.length < 24) (hf : (flatT cur st).length ≤ 10000000000000) :
    Calls Try.prog 17 #[.pointer (some ⟨p, 0, none⟩), .int .u8 (ub m)] w (WrR w p G (.ok [] ((m, cur) :: st))) := by
  cases h with
  | @ok vw vo cur st h =>
    have hbig : Kp (posT ((m, cur) :: st) = posT st ++ [(flatT cur st).length] ∧ flatT [] ((m, cur) :: st) = flatT cur st ++ [m]) := ⟨rfl, rfl⟩
    obtain ⟨L, hL⟩ : ∃ L, flatT cur st = L := ⟨_, rfl⟩
    obtain ⟨P, hP⟩ : ∃ P, posT st = P := ⟨_, rfl⟩
    have hPl : P.length < 24 := by rw [← hP, posT_len]; exact hd
    rw [hL, hP] at h hbig
    rw [hL] at hf
    obtain ⟨Aw, cw, rfl⟩ := h.ow.form
    obtain ⟨Ao, co, rfl⟩ := h.oo.form
    obtain ⟨N, hN⟩ : ∃ N, L.length = N := ⟨_, rfl⟩
    obtain ⟨D, hD⟩ : ∃ D, P.length = D := ⟨_, rfl⟩
    have HN := Kp.mk hN
    have HD := Kp.mk hD
    rw [hN, hD] at h ⊢
    rw [hD] at hPl
    rw [hN] at hf hbig
    have b1 : decide ((24 : Int) ≤ (D : Int)) = false := decide_eq_false (by omega)
    have b2 : (D + 1) * 8 ≤ 140737488355328 := by omega
    have b3 : N + 1 ≤ 140737488355328 := by omega
    have hlo : ∀ (w' : World), Mds (fpv (.slice Ao D co)) w w' → Blk w' p wtt #[.slice Aw N cw, .slice Ao D co, .nilIface] := fun w' hm => h.blk.mds hm (h.oo.ne h.blk (by decide))
    have hc := fun (w' : World) (hx : Ext w w') => h.blk.cell hx 2
    have hc1 := fun (w' : World) (hx : Ext w w') => h.blk.cell hx 1
    have hl0 := fun (w' : World) (hm : Mds (fpv (.slice Ao D co)) w w') => (hlo w' hm).h.cell 0
    have hl1 := fun (w' : World) (hm : Mds (fpv (.slice Ao D co)) w w') => (hlo w' hm).h.cell 1
    have H := Kp.mk h
    clear h hPl hL hP hN hD hf hlo hd
    go_enter Try.func17, Try.ntmps17
    go_wp2_with (first | (go_at_call 36; refine (isWhole_any m true hm _).mono ?_; rintro e w1 ⟨rfl, rfl⟩) | fail)
    refine wp_region_R (st := fun s => s == 14) (R := fun w' => Mds (fpv (.slice Ao D co)) _ w') (by kernel_rfl) (Mds.refl _ _).drew (fun hR => ?_)
    refine wpAnyR_take (i := 0) (oi := ⟨some 24, _, _, _, _, _⟩) (v := ?_) rfl (by kernel_rfl) (by kernel_rfl) (by kernel_rfl) rfl (by kernel_rfl) (by kernel_rfl) (fun _ _ _ h => h) (Or.inl ⟨by rfl, ?_⟩) (by assumption) ?_
    rotate_left
    · (intro w hSw; (try dsimp only at hSw); go_simp; try with_reducible rfl)
    try simp only [Act.put, List.setIfInBounds_toArray, List.set_cons_zero, List.set_cons_succ]
    refine wpAnyR_take (i := 1) (oi := ⟨some 25, _, _, _, _, _⟩) (v := ?_) rfl (by kernel_rfl) (by kernel_rfl) (by kernel_rfl) rfl (by kernel_rfl) (by kernel_rfl) (fun _ _ _ h => h) (Or.inl ⟨by rfl, ?_⟩) (by assumption) ?_
    rotate_left
    · (intro w hSw; (try dsimp only at hSw); go_simp; try with_reducible rfl)
    try simp only [Act.put, List.setIfInBounds_toArray, List.set_cons_zero, List.set_cons_succ]
    refine wpAnyR_take (i := 2) (oi := ⟨some 26, _, _, _, _, _⟩) (v := ?_) rfl (by kernel_rfl) (by kernel_rfl) (by kernel_rfl) rfl (by kernel_rfl) (by kernel_rfl) (fun _ _ _ h => h) (Or.inl ⟨by rfl, ?_⟩) (by assumption) ?_
    rotate_left
    · (intro w hSw; (try dsimp only at hSw); go_simp; try with_reducible rfl)
    try simp only [Act.put, List.setIfInBounds_toArray, List.set_cons_zero, List.set_cons_succ]
    refine wpAnyR_take (i := 3) (oi := ⟨some 27, _, _, _, _, _⟩) (v := ?_) rfl (by kernel_rfl) (by kernel_rfl) (by kernel_rfl) rfl (by kernel_rfl) (by kernel_rfl) (fun _ _ _ h => h) (Or.inl ⟨by rfl, ?_⟩) (by assumption) ?_
    rotate_left
    · (intro w hSw; (try dsimp only at hSw); go_simp; try with_reducible rfl)
    try simp only [Act.put, List.setIfInBounds_toArray, List.set_cons_zero, List.set_cons_succ]
    refine wpAnyR_take (i := 4) (oi := ⟨some 28, _, _, _, _, _⟩) (v := ?_) rfl (by kernel_rfl) (by kernel_rfl) (by kernel_rfl) rfl (by kernel_rfl) (by kernel_rfl) (fun _ _ _ h => h) (Or.inl ⟨by rfl, ?_⟩) (by assumption) ?_
    rotate_left
    · (intro w hSw; (try dsimp only at hSw); go_simp; try with_reducible rfl)
    try simp only [Act.put, List.setIfInBounds_toArray, List.set_cons_zero, List.set_cons_succ]
    refine wpAnyR_take (i := 5) (oi := ⟨some 29, _, _, _, _, _⟩) (v := ?_) rfl (by kernel_rfl) (by kernel_rfl) (by kernel_rfl) rfl (by kernel_rfl) (by kernel_rfl) (fun _ _ _ h => h) (Or.inl ⟨by rfl, ?_⟩) (by assumption) ?_
    rotate_left
    · (intro w hSw; (try dsimp only at hSw); go_simp; try with_reducible rfl)
    try simp only [Act.put, List.setIfInBounds_toArray, List.set_cons_zero, List.set_cons_succ]
    refine wpAnyR_take (i := 6) (oi := ⟨some 30, _, _, _, _, _⟩) (v := ?_) rfl (by kernel_rfl) (by kernel_rfl) (by kernel_rfl) rfl (by kernel_rfl) (by kernel_rfl) (fun _ _ _ h => h) (Or.inl ⟨by rfl, ?_⟩) (by assumption) ?_
    rotate_left
    · (intro w hSw; (try dsimp only at hSw); go_simp; try with_reducible rfl)
    try simp only [Act.put, List.setIfInBounds_toArray, List.set_cons_zero, List.set_cons_succ]
    refine wpAnyR_take (i := 7) (oi := ⟨some 31, _, _, _, _, _⟩) (v := ?_) rfl (by kernel_rfl) (by kernel_rfl) (by kernel_rfl) rfl (by kernel_rfl) (by kernel_rfl) (fun _ _ _ h => h) (Or.inl ⟨by rfl, ?_⟩) (by assumption) ?_
    rotate_left
    · (intro w hSw; (try dsimp only at hSw); go_simp; try with_reducible rfl)
    try simp only [Act.put, List.setIfInBounds_toArray, List.set_cons_zero, List.set_cons_succ]
    refine wpAnyR_take (i := 8) (oi := ⟨some 32, _, _, _, _, _⟩) (v := ?_) rfl (by kernel_rfl) (by kernel_rfl) (by kernel_rfl) rfl (by kernel_rfl) (by kernel_rfl) (fun _ _ _ h => h) (Or.inl ⟨by rfl, ?_⟩) (by assumption) ?_
    rotate_left
    · (intro w hSw; (try dsimp only at hSw); go_simp; try with_reducible rfl)
    try simp only [Act.put, List.setIfInBounds_toArray, List.set_cons_zero, List.set_cons_succ]
    refine wpAnyR_take (i := 9) (oi := ⟨some 33, _, _, _, _, _⟩) (v := ?_) rfl (by kernel_rfl) (by kernel_rfl) (by kernel_rfl) rfl (by kernel_rfl) (by kernel_rfl) (fun _ _ _ h => h) (Or.inl ⟨by rfl, ?_⟩) (by assumption) ?_
    rotate_left
    · (intro w hSw; (try dsimp only at hSw); go_simp; try with_reducible rfl)
    try simp only [Act.put, List.setIfInBounds_toArray, List.set_cons_zero, List.set_cons_succ]
    have HR := Kp.mk hR
    clear hR
    refine nextR 10 (by kernel_rfl) rfl (by rfl) fun K' HK' => ?_
    go_simp
    refine held_go HK' (.inr (HR.out.alloc _)) (fun _ => ?_)
    clear HK'
    try simp only [Act.put, List.setIfInBounds_toArray, List.set_cons_zero, List.set_cons_succ]
    refine nextR 11 (by kernel_rfl) rfl (by rfl) fun K' HK' => ?_
    have hx2 : Ext w1 ((w1.alloc (.cells #[.int .i64 (N : Int)] 3)).drew) := (by (repeat (first | assumption | exact Ext.refl _ | apply Ext.drew | apply Ext.drewN | apply Ext.alloc | refine Ext.trans ?_ (by assumption))); first | done | fail)
    refine wp_append_r 58 (.int .i64 0) 8 Try.underlying58 inI rfl (by decide) vIn_one (.tmp 28) (.tmp 34) rfl (.slice Ao D co) D P rfl (by have h := (H.out.ext hx2).oo; rw [HD.out] at h; exact h) _ 1 1 [N] rfl ((num_rd w1 N _ rfl).ext (by (repeat (first | assumption | exact Ext.refl _ | apply Ext.drew | apply Ext.drewN | apply Ext.alloc | refine Ext.trans ?_ (by assumption))); first | done | fail)) b2 (D + 1) rfl (P ++ [N]) rfl ?_
    intro A4 c4 w4 ho4 ha4
    obtain ⟨c4', f4⟩ := (H.out.ext hx2).at1 ha4.mv
    have W4 := Kp.mk ((H.out.ext hx2).hold (P' := P ++ [N]) ha4.mv (by rw [List.length_append, HD.out]; exact ho4))
    have m4 := (hx2.mds (fpv (.slice Ao D co))).trans ha4.mds
    clear ho4 ha4
    refine held_go HK' (.inr (m4)) (fun _ => ?_)
    clear HK'
    try simp only [Act.put, List.setIfInBounds_toArray, List.set_cons_zero, List.set_cons_succ]
    refine nextR 12 (by kernel_rfl) rfl (by rfl) fun K' HK' => ?_
    go_simp
    refine held_go HK' (.inr (m4)) (fun _ => ?_)
    clear HK'
    try simp only [Act.put, List.setIfInBounds_toArray, List.set_cons_zero, List.set_cons_succ]
    refine nextR 13 (by kernel_rfl) rfl (by rfl) fun K' HK' => ?_
    go_simp
    refine held_go HK' (.inr (m4)) (fun _ => ?_)
    clear HK'
    try simp only [Act.put, List.setIfInBounds_toArray, List.set_cons_zero, List.set_cons_succ]
    refine nextR 14 (by kernel_rfl) rfl (by rfl) fun K' HK' => ?_
    go_simp
    refine held_go HK' (.inl (by kernel_rfl)) (fun _ => ?_)
    clear HK'
    try simp only [Act.put, List.setIfInBounds_toArray, List.set_cons_zero, List.set_cons_succ]
    refine wpAnyR_done (by kernel_rfl) ?_ _
    have HX2 := Kp.mk hx2
    clear hx2 m4 hc hc1 hl0 hl1
    have HL : Kp ((L ++ [m]).length = N + 1) := ⟨by rw [List.length_append, HN.out]; rfl⟩
    have c40 := W4.out.1.blk.h.cell 0
    generalize w4.setCell ⟨p, 1, none⟩ (.slice A4 (D + 1) c4) = w6 at *
    go_wp2_with (first | ((with_reducible refine at_call_to 45 ?_); refine wpList_append_m rfl (.tmp 42) (.tmp 44) rfl (.slice Aw N cw) N L rfl (by have h := (W4.out.1.ext ((by (repeat (first | assumption | exact Ext.refl _ | apply Ext.drew | apply Ext.drewN | apply Ext.alloc | refine Ext.trans ?_ (by assumption))); first | done | fail) : Ext w6 (w6.alloc (.cells #[.int .u8 (ub m)] 5)))).ow; rw [HN.out] at h; exact h) _ 1 1 [m] rfl (one_bs _ m) b3 (N + 1) rfl (L ++ [m]) rfl ?_; intro A5 c5 w5 ho5 ha5; obtain ⟨c5', f5⟩ := (W4.out.1.ext ((by (repeat (first | assumption | exact Ext.refl _ | apply Ext.drew | apply Ext.drewN | apply Ext.alloc | refine Ext.trans ?_ (by assumption))); first | done | fail) : Ext w6 (w6.alloc (.cells #[.int .u8 (ub m)] 5)))).at0 ha5.mv; have W5 := Kp.mk ((W4.out.1.ext ((by (repeat (first | assumption | exact Ext.refl _ | apply Ext.drew | apply Ext.drewN | apply Ext.alloc | refine Ext.trans ?_ (by assumption))); first | done | fail) : Ext w6 (w6.alloc (.cells #[.int .u8 (ub m)] 5)))).put ha5.mv (L' := L ++ [m]) (by rw [HL.out]; exact ho5)); clear ho5 ha5) | fail)
    go_end0
    have h5 := W5.out.1
    rw [← hbig.out.1, ← hbig.out.2] at h5
    exact ⟨rfl, _, .ok h5, ((W4.out.2.post (by (repeat (first | assumption | exact Ext.refl _ | apply Ext.drew | apply Ext.drewN | apply Ext.alloc | refine Ext.trans ?_ (by assumption))); first | done | fail)).trans W5.out.2).pre HX2.out⟩
/-- whatever the writer holds -/
theorem Open_any {s : TWs} (h : Wr w p G s) (hf : szW s ≤ 10000000000000) : Calls Try.prog 17 #[.pointer (some ⟨p, 0, none⟩), .int .u8 (ub m)] w (WrR w p G (openS m s)) := by
  cases s with
  | bad k => exact Open_bad h
  | ok cur st =>
    cases hm : isW m with
    | false =>
      rw [show openS m (.ok cur st) = .bad 1 by simp [openS, hm]]
      exact Open_arg h hm
    | true =>
      by_cases hl : st.length < 24
      · rw [show openS m (.ok cur st) = .ok [] ((m, cur) :: st) by simp [openS, hm, hl]]
        exact Open_ok h hm hl hf
      · rw [show openS m (.ok cur st) = .bad 5 by simp [openS, hm, hl]]
        exact Open_deep h hm (by omega)
end
end Go.Proofs.Ytadndhenfoppiaa
namespace Go.Proofs.Ytadndhenfoppiaa
open Go Go.RowKit
set_option maxRecDepth 4000

theorem Replace_any {w : World} {g i k N c nv cv : Nat} {Av : Option Addr} {L lv : List (BitVec 8)} (ho : Own w 0 (.slice (some ⟨g, 0, none⟩) N c) N L) (hv : Own w 0 (.slice Av nv cv) nv lv) (hgv : Av.map (·.block) ≠ some g) (hn : 2 ≤ nv) (hn4 : nv ≤ 4) (hN : i + 1 + k = N) (hb : N ≤ 100000000000000) :
    Calls Try.prog 37 #[.slice (some ⟨g, 0, none⟩) N c, .int .i64 (i : Int), .int .i64 ((i : Int) + 1), .slice Av nv cv] w (RepR w (.slice (some ⟨g, 0, none⟩) N c) (i + nv + k) (L.take i ++ lv ++ L.drop (i + 1))) := by
  rcases Nat.eq_zero_or_pos k with h0 | h0
  · subst h0
    have h1 := Replace_end ho hv.bs hn hn4 hN hb
    have h2 : L.drop (i + 1) = [] := List.drop_of_length_le (by rw [ho.len]; omega)
    rw [h2, List.append_nil]
    exact h1
  · by_cases hc : c < i + nv + k
    · exact Replace_grow ho hv.bs hn hn4 hN h0 hb hc
    · exact Replace_in ho hv hgv hn hn4 hN h0 hb (by omega)
theorem szI : (Try.prog.info? 3).map (·.size) = some 1 := by kernel_rfl
section
variable {w : World} {p : Nat} {m : BitVec 8} {G : List Nat}
set_option maxHeartbeats 1000000 in
theorem Close_bad {k : Nat} (h : Wr w p G (.bad k)) : Calls Try.prog 19 #[.pointer (some ⟨p, 0, none⟩)] w (WrR w p G (.bad k)) := by
  cases h with
  | bad h =>
    have hc := fun (w' : World) (hx : Ext w w') => h.cell hx 2
    have H := Kp.mk h
    clear h
    go_enter Try.func19, Try.ntmps19
    go_wp2_with fail
    refine bodyPost_ret (results_none rfl _ _ _) rfl ?_
    exact ⟨rfl, _, .bad H.out, Mvs.refl _ _⟩
set_option maxHeartbeats 1000000 in
theorem Close_none {cur : List (BitVec 8)} (h : Wr w p G (.ok cur [])) : Calls Try.prog 19 #[.pointer (some ⟨p, 0, none⟩)] w (WrR w p G (.bad 17)) := by
  cases h with
  | @ok vw vo cur st h =>
    obtain ⟨Ao, co, rfl⟩ := h.oo.form
    have hc := fun (w' : World) (hx : Ext w w') => h.blk.cell hx 2
    have hc1 : ∀ (w' : World), Ext w w' → w'.cell? ⟨p, 1, none⟩ = some (.slice Ao 0 co) := fun (w' : World) (hx : Ext w w') => h.blk.cell hx 1
    have H := Kp.mk h
    clear h
    go_enter Try.func19, Try.ntmps19
    go_wp2_with (first | (go_at_call 33; refine (fail_any H.out.blk rfl 17).mono ?_; rintro e w2 ⟨rfl, hb2, hm2⟩) | fail)
    refine bodyPost_ret (results_none rfl _ _ _) rfl ?_
    exact ⟨rfl, _, .bad hb2, hm2.mono (fun k hk => mem_fpW.2 (.inl (List.mem_singleton.1 hk))), fun k hk => .inl (mem_fpW.2 (.inl (List.mem_singleton.1 hk)))⟩
/-- where a whole is open: what Close reads -/
structure Cls (w : World) (p gw go cw co N M D a n q : Nat) (m : BitVec 8) (L : List (BitVec 8)) (P : List Nat) : Prop where
  wt : Wt w p (.slice (some ⟨gw, 0, none⟩) N cw) (.slice (some ⟨go, 0, none⟩) M co) L P
  ln : L.length = N
  lp : P.length = M
  dm : M = D + 1
  na : a + 1 + n = N
  qa : q = n + 1
  at_ : P[D]? = some a
  gm : gb L a = m
  nb : N ≤ 10000000000000
  mb : M ≤ 100
theorem Cls.of {vw vo : Value} {cur out : List (BitVec 8)} {st : List (BitVec 8 × List (BitVec 8))} (h : Wt w p vw vo (flatT cur ((m, out) :: st)) (posT ((m, out) :: st))) (hd : st.length < 24) (hf : (flatT cur ((m, out) :: st)).length ≤ 10000000000000) :
    ∃ gw go cw co N M q, vw = .slice (some ⟨gw, 0, none⟩) N cw ∧ vo = .slice (some ⟨go, 0, none⟩) M co ∧ Cls w p gw go cw co N M st.length (flatT out st).length cur.length q m (flatT cur ((m, out) :: st)) (posT ((m, out) :: st)) := by
  obtain ⟨Aw, cw, rfl⟩ := h.ow.form
  obtain ⟨Ao, co, rfl⟩ := h.oo.form
  have h1 := flatT_len m cur out st
  have h2 : (posT ((m, out) :: st)).length = st.length + 1 := by rw [posT_len]; rfl
  obtain ⟨gw, rfl, _, _⟩ := h.ow.some_ (by omega)
  obtain ⟨go, rfl, _, _⟩ := h.oo.some_ (by omega)
  exact ⟨gw, go, cw, co, _, _, cur.length + 1, rfl, rfl, h, rfl, rfl, h2, by omega, rfl, posT_last m out st, flatT_at m cur out st, hf, by omega⟩
set_option maxHeartbeats 4000000 in
theorem Close_long {gw go cw co N M D a n q : Nat} {L : List (BitVec 8)} {P : List Nat} (h : Cls w p gw go cw co N M D a n q m L P) (hk : mkB m = true) (hn : 65535 < n) :
    Calls Try.prog 19 #[.pointer (some ⟨p, 0, none⟩)] w (WrR w p (fpW p (.slice (some ⟨gw, 0, none⟩) N cw) (.slice (some ⟨go, 0, none⟩) M co)) (.bad 4)) := by
  have hc := fun (w' : World) (hx : Ext w w') => h.wt.blk.cell hx 2
  have hc1 := fun (w' : World) (hx : Ext w w') => h.wt.blk.cell hx 1
  have hc0 := fun (w' : World) (hx : Ext w w') => h.wt.blk.cell hx 0
  have hco : ∀ (w' : World), Ext w w' → w'.cell? ⟨go, D, none⟩ = some (.int .i64 (a : Int)) := fun w' hx => by
    have h1 := (h.wt.ext hx).oo
    rw [h.lp] at h1
    exact h1.cell D a h.at_
  have hcw : ∀ (w' : World), Ext w w' → w'.cell? ⟨gw, a, none⟩ = some (.int .u8 (ub m)) := fun w' hx => by
    have h1 := (h.wt.ext hx).ow
    rw [h.ln] at h1
    have h2 := h1.cell a (by have := h.na; omega)
    rw [h.gm] at h2
    exact h2
  have e1 := h.dm
  have e2 := h.na
  have e3 := h.qa
  have e4 := h.nb
  have e5 := h.mb
  have b1 : IntKind.i64.wrap ((M : Int) - 1) = (D : Int) := by rw [IntKind.wrap_i64]; omega
  have b2 : decide ((D : Int) < 0) = false := decide_eq_false (by omega)
  have b3 : (D : Int) < (M : Int) := by omega
  have b4 : (a : Int) < (N : Int) := by omega
  have b5 : IntKind.i64.wrap ((N : Int) - (a : Int)) = (q : Int) := by rw [IntKind.wrap_i64]; omega
  have b6 : IntKind.i64.wrap ((q : Int) - 1) = (n : Int) := by rw [IntKind.wrap_i64]; omega
  have C := Kp.mk (fun u => Head_long m (n : Int) (by omega) hk u)
  have H := Kp.mk h
  clear h e1 e2 e3 e4 e5 hn hk
  go_enter Try.func19, Try.ntmps19
  go_wp2_with fail
  refine wp_region_held_drew (S := fun w' => Ext w w') (by kernel_rfl) (Ext.refl w).drew (fun hHeld => ?_)
  refine wpAnyH_take (i := 0) (oi := ⟨some 30, _, _, _, _, _⟩) (v := ?_) rfl (by kernel_rfl) (by kernel_rfl) (by kernel_rfl) (fun _ _ _ h => h) (Or.inl ⟨by rfl, ?_⟩) (by assumption) ?_
  rotate_left
  · (intro w hSw; (try dsimp only at hSw); go_simp; try with_reducible rfl)
  try simp only [Act.put, List.setIfInBounds_toArray, List.set_cons_zero, List.set_cons_succ]
  refine wpAnyH_take (i := 1) (oi := ⟨some 31, _, _, _, _, _⟩) (v := ?_) rfl (by kernel_rfl) (by kernel_rfl) (by kernel_rfl) (fun _ _ _ h => h) (Or.inl ⟨by rfl, ?_⟩) (by assumption) ?_
  rotate_left
  · (intro w hSw; (try dsimp only at hSw); go_simp; try with_reducible rfl)
  try simp only [Act.put, List.setIfInBounds_toArray, List.set_cons_zero, List.set_cons_succ]
  refine wpAnyH_take (i := 2) (oi := ⟨some 32, _, _, _, _, _⟩) (v := ?_) rfl (by kernel_rfl) (by kernel_rfl) (by kernel_rfl) (fun _ _ _ h => h) (Or.inl ⟨by rfl, ?_⟩) (by assumption) ?_
  rotate_left
  · (intro w hSw; (try dsimp only at hSw); go_simp; try with_reducible rfl)
  try simp only [Act.put, List.setIfInBounds_toArray, List.set_cons_zero, List.set_cons_succ]
  refine wpAnyH_take (i := 3) (oi := ⟨some 33, _, _, _, _, _⟩) (v := ?_) rfl (by kernel_rfl) (by kernel_rfl) (by kernel_rfl) (fun _ _ _ h => h) (Or.inl ⟨by rfl, ?_⟩) (by assumption) ?_
  rotate_left
  · (intro w hSw; (try dsimp only at hSw); go_simp; try with_reducible rfl)
  try simp only [Act.put, List.setIfInBounds_toArray, List.set_cons_zero, List.set_cons_succ]
  refine wpAnyH_take (i := 4) (oi := ⟨some 34, _, _, _, _, _⟩) (v := ?_) rfl (by kernel_rfl) (by kernel_rfl) (by kernel_rfl) (fun _ _ _ h => h) (Or.inl ⟨by rfl, ?_⟩) (by assumption) ?_
  rotate_left
  · (intro w hSw; (try dsimp only at hSw); go_simp; try with_reducible rfl)
  try simp only [Act.put, List.setIfInBounds_toArray, List.set_cons_zero, List.set_cons_succ]
  refine wpAnyH_take (i := 5) (oi := ⟨some 35, _, _, _, _, _⟩) (v := ?_) rfl (by kernel_rfl) (by kernel_rfl) (by kernel_rfl) (fun _ _ _ h => h) (Or.inl ⟨by rfl, ?_⟩) (by assumption) ?_
  rotate_left
  · (intro w hSw; (try dsimp only at hSw); go_simp; try with_reducible rfl)
  try simp only [Act.put, List.setIfInBounds_toArray, List.set_cons_zero, List.set_cons_succ]
  refine wpAnyH_take (i := 6) (oi := ⟨some 36, _, _, _, _, _⟩) (v := ?_) rfl (by kernel_rfl) (by kernel_rfl) (by kernel_rfl) (fun _ _ _ h => h) (Or.inl ⟨by rfl, ?_⟩) (by assumption) ?_
  rotate_left
  · (intro w hSw; (try dsimp only at hSw); go_simp; try with_reducible rfl)
  try simp only [Act.put, List.setIfInBounds_toArray, List.set_cons_zero, List.set_cons_succ]
  refine wpAnyH_take (i := 7) (oi := ⟨some 37, _, _, _, _, _⟩) (v := ?_) rfl (by kernel_rfl) (by kernel_rfl) (by kernel_rfl) (fun _ _ _ h => h) (Or.inl ⟨by rfl, ?_⟩) (by assumption) ?_
  rotate_left
  · (intro w hSw; (try dsimp only at hSw); go_simp; try with_reducible rfl)
  try simp only [Act.put, List.setIfInBounds_toArray, List.set_cons_zero, List.set_cons_succ]
  refine wpAnyH_take (i := 8) (oi := ⟨some 38, _, _, _, _, _⟩) (v := ?_) rfl (by kernel_rfl) (by kernel_rfl) (by kernel_rfl) (fun _ _ _ h => h) (Or.inl ⟨by rfl, ?_⟩) (by assumption) ?_
  rotate_left
  · (intro w hSw; (try dsimp only at hSw); go_simp; try with_reducible rfl)
  try simp only [Act.put, List.setIfInBounds_toArray, List.set_cons_zero, List.set_cons_succ]
  refine wpAnyH_take (i := 9) (oi := ⟨some 39, _, _, _, _, _⟩) (v := ?_) rfl (by kernel_rfl) (by kernel_rfl) (by kernel_rfl) (fun _ _ _ h => h) (Or.inl ⟨by rfl, ?_⟩) (by assumption) ?_
  rotate_left
  · (intro w hSw; (try dsimp only at hSw); go_simp; try with_reducible rfl)
  try simp only [Act.put, List.setIfInBounds_toArray, List.set_cons_zero, List.set_cons_succ]
  refine wpAnyH_take (i := 10) (oi := ⟨some 40, _, _, _, _, _⟩) (v := ?_) rfl (by kernel_rfl) (by kernel_rfl) (by kernel_rfl) (fun _ _ _ h => h) (Or.inl ⟨by rfl, ?_⟩) (by assumption) ?_
  rotate_left
  · (intro w hSw; (try dsimp only at hSw); go_simp; try with_reducible rfl)
  try simp only [Act.put, List.setIfInBounds_toArray, List.set_cons_zero, List.set_cons_succ]
  refine wpAnyH_take (i := 11) (oi := ⟨some 41, _, _, _, _, _⟩) (v := ?_) rfl (by kernel_rfl) (by kernel_rfl) (by kernel_rfl) (fun _ _ _ h => h) (Or.inl ⟨by rfl, ?_⟩) (by assumption) ?_
  rotate_left
  · (intro w hSw; (try dsimp only at hSw); go_simp; try with_reducible rfl)
  try simp only [Act.put, List.setIfInBounds_toArray, List.set_cons_zero, List.set_cons_succ]
  refine wpAnyH_take (i := 12) (oi := ⟨some 42, _, _, _, _, _⟩) (v := ?_) rfl (by kernel_rfl) (by kernel_rfl) (by kernel_rfl) (fun _ _ _ h => h) (Or.inl ⟨by rfl, ?_⟩) (by assumption) ?_
  rotate_left
  · (intro w hSw; (try dsimp only at hSw); go_simp; try with_reducible rfl)
  try simp only [Act.put, List.setIfInBounds_toArray, List.set_cons_zero, List.set_cons_succ]
  refine wpAnyH_take (i := 13) (oi := ⟨some 43, _, _, _, _, _⟩) (v := ?_) rfl (by kernel_rfl) (by kernel_rfl) (by kernel_rfl) (fun _ _ _ h => h) (Or.inl ⟨by rfl, ?_⟩) (by assumption) ?_
  rotate_left
  · (intro w hSw; (try dsimp only at hSw); go_simp; try with_reducible rfl)
  try simp only [Act.put, List.setIfInBounds_toArray, List.set_cons_zero, List.set_cons_succ]
  refine wpAnyH_take (i := 14) (oi := ⟨some 44, _, _, _, _, _⟩) (v := ?_) rfl (by kernel_rfl) (by kernel_rfl) (by kernel_rfl) (fun _ _ _ h => h) (Or.inl ⟨by rfl, ?_⟩) (by assumption) ?_
  rotate_left
  · (intro w hSw; (try dsimp only at hSw); go_simp; try with_reducible rfl)
  try simp only [Act.put, List.setIfInBounds_toArray, List.set_cons_zero, List.set_cons_succ]
  refine next_one 15 (by kernel_rfl) rfl (by rfl) fun K' HK' => ?_
  go_simp
  refine (C.out _).mono ?_
  rintro e w3 ⟨rfl, hx3⟩
  have HX3 := Kp.mk (Ext.trans (show Ext w w.drew from (by (repeat (first | assumption | exact Ext.refl _ | apply Ext.drew | apply Ext.drewN | apply Ext.alloc | refine Ext.trans ?_ (by assumption))); first | done | fail)) hx3)
  clear hx3
  refine held_go HK' HX3.out (fun hHeld => ?_)
  clear HK'
  try simp only [Act.put, List.setIfInBounds_toArray, List.set_cons_zero, List.set_cons_succ]
  refine wpAnyH_take (i := 16) (oi := ⟨some 29, _, _, _, _, _⟩) (v := ?_) rfl (by kernel_rfl) (by kernel_rfl) (by kernel_rfl) (fun _ _ _ h => h) (Or.inl ⟨by rfl, ?_⟩) (by assumption) ?_
  rotate_left
  · (intro w hSw; (try dsimp only at hSw); go_simp; try with_reducible rfl)
  try simp only [Act.put, List.setIfInBounds_toArray, List.set_cons_zero, List.set_cons_succ]
  refine wpAnyH_take (i := 17) (oi := ⟨some 46, _, _, _, _, _⟩) (v := ?_) rfl (by kernel_rfl) (by kernel_rfl) (by kernel_rfl) (fun _ _ _ h => h) (Or.inl ⟨by rfl, ?_⟩) (by assumption) ?_
  rotate_left
  · (intro w hSw; (try dsimp only at hSw); go_simp; try with_reducible rfl)
  try simp only [Act.put, List.setIfInBounds_toArray, List.set_cons_zero, List.set_cons_succ]
  refine wpAnyH_take (i := 18) (oi := ⟨some 47, _, _, _, _, _⟩) (v := ?_) rfl (by kernel_rfl) (by kernel_rfl) (by kernel_rfl) (fun _ _ _ h => h) (Or.inl ⟨by rfl, ?_⟩) (by assumption) ?_
  rotate_left
  · (intro w hSw; (try dsimp only at hSw); go_simp; try with_reducible rfl)
  try simp only [Act.put, List.setIfInBounds_toArray, List.set_cons_zero, List.set_cons_succ]
  refine wpAnyH_take (i := 19) (oi := ⟨some 4, _, _, _, _, _⟩) (v := ?_) rfl (by kernel_rfl) (by kernel_rfl) (by kernel_rfl) (fun _ _ _ h => h) (Or.inl ⟨by rfl, ?_⟩) (by assumption) ?_
  rotate_left
  · (intro w hSw; (try dsimp only at hSw); go_simp; try with_reducible rfl)
  try simp only [Act.put, List.setIfInBounds_toArray, List.set_cons_zero, List.set_cons_succ]
  refine wpAnyH_take (i := 20) (oi := ⟨some 5, _, _, _, _, _⟩) (v := ?_) rfl (by kernel_rfl) (by kernel_rfl) (by kernel_rfl) (fun _ _ _ h => h) (Or.inl ⟨by rfl, ?_⟩) (by assumption) ?_
  rotate_left
  · (intro w hSw; (try dsimp only at hSw); go_simp; try with_reducible rfl)
  try simp only [Act.put, List.setIfInBounds_toArray, List.set_cons_zero, List.set_cons_succ]
  refine wpAnyH_done (by kernel_rfl) ?_ _
  clear hHeld
  go_wp2_with (first | (go_at_call 33; refine (fail_any (H.out.wt.blk.ext HX3.out) rfl 4).mono ?_; rintro e w2 ⟨rfl, hb2, hm2⟩) | fail)
  refine bodyPost_ret (results_none rfl _ _ _) rfl ?_
  have hm3 : Mds [p] w w2 := (HX3.out.mds [p]).trans hm2
  exact ⟨rfl, _, .bad hb2, hm3.mono (fun k hk => mem_fpW.2 (.inl (List.mem_singleton.1 hk))), fun k hk => .inl (mem_fpW.2 (.inl (List.mem_singleton.1 hk)))⟩
end
end Go.Proofs.Ytadndhenfoppiaa
