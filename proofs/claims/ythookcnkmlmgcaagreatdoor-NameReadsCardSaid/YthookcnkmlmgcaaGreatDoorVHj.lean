/-
  tlv's writer: Put.
-/
import Derived.Test.YthookcnkmlmgcaaGreatDoorM17
namespace Go.Proofs.YthookcnkmlmgcaaGreatDoor
open Go Go.RowKit
set_option maxRecDepth 4000

section
variable {w : World} {p : Nat} {m : BitVec 8} {b : List (BitVec 8)} {A : Option Addr} {n c : Nat} {G : List Nat}
set_option maxHeartbeats 1000000 in
theorem Put_bad {k : Nat} (h : Wr w p G (.bad k)) : Calls Tryz.prog 69 #[.pointer (some ⟨p, 0, none⟩), .int .u8 (ub m), .slice A n c] w (WrR w p G (.bad k)) := by
  cases h with
  | bad h =>
    have hc := fun (w' : World) (hx : Ext w w') => h.cell hx 2
    have H := Kp.mk h
    clear h
    go_enter Tryz.func69, Tryz.ntmps69
    go_wp2_with fail
    refine bodyPost_ret (results_none rfl _ _ _) rfl ?_
    exact ⟨rfl, _, .bad H.out, Mvs.refl _ _⟩
set_option maxHeartbeats 1000000 in
theorem Put_arg {cur : List (BitVec 8)} {st : List (BitVec 8 × List (BitVec 8))} (h : Wr w p G (.ok cur st)) (hm : isP m = false) : Calls Tryz.prog 69 #[.pointer (some ⟨p, 0, none⟩), .int .u8 (ub m), .slice A n c] w (WrR w p G (.bad 1)) := by
  cases h with
  | @ok vw vo cur st h =>
    have hc := fun (w' : World) (hx : Ext w w') => h.blk.cell hx 2
    have H := Kp.mk h
    clear h
    go_enter Tryz.func69, Tryz.ntmps69
    go_wp2_with (first | (go_at_call 51; refine (isPart_any m false hm _).mono ?_; rintro e w1 ⟨rfl, rfl⟩) | (go_at_call 80; refine (fail_any H.out.blk rfl 1).mono ?_; rintro e w2 ⟨rfl, hb2, hm2⟩) | fail)
    refine bodyPost_ret (results_none rfl _ _ _) rfl ?_
    exact ⟨rfl, _, .bad hb2, hm2.mono (fun k hk => mem_fpW.2 (.inl (List.mem_singleton.1 hk))), fun k hk => .inl (mem_fpW.2 (.inl (List.mem_singleton.1 hk)))⟩
set_option maxHeartbeats 2000000 in
theorem Put_long {cur : List (BitVec 8)} {st : List (BitVec 8 × List (BitVec 8))} (h : Wr w p G (.ok cur st)) (hm : isP m = true) (hb : 65535 < n) : Calls Tryz.prog 69 #[.pointer (some ⟨p, 0, none⟩), .int .u8 (ub m), .slice A n c] w (WrR w p G (.bad 4)) := by
  cases h with
  | @ok vw vo cur st h =>
    have hc := fun (w' : World) (hx : Ext w w') => h.blk.cell hx 2
    have hk : mkB m = true := by unfold isP at hm; simp at hm; exact hm.1
    have H := Kp.mk h
    have C := Kp.mk (fun u => Head_long m (n : Int) (by omega) hk u)
    clear h hb hk
    go_enter Tryz.func69, Tryz.ntmps69
    go_wp2_with (first | (go_at_call 51; refine (isPart_any m true hm _).mono ?_; rintro e w1 ⟨rfl, rfl⟩) | (go_at_call 57; refine (C.out _).mono ?_; rintro e w3 ⟨rfl, hx3⟩; have HX := Kp.mk hx3; clear hx3) | (go_at_call 80; refine (fail_any (H.out.blk.ext HX.out) rfl 4).mono ?_; rintro e w2 ⟨rfl, hb2, hm2⟩) | fail)
    refine bodyPost_ret (results_none rfl _ _ _) rfl ?_
    have hm3 : Mds [p] _ w2 := (HX.out.mds [p]).trans hm2
    exact ⟨rfl, _, .bad hb2, hm3.mono (fun k hk => mem_fpW.2 (.inl (List.mem_singleton.1 hk))), fun k hk => .inl (mem_fpW.2 (.inl (List.mem_singleton.1 hk)))⟩
set_option maxHeartbeats 4000000 in
theorem Put_ok {cur : List (BitVec 8)} {st : List (BitVec 8 × List (BitVec 8))} (h : Wr w p G (.ok cur st)) (hm : isP m = true) (hbs : Bs w A n c b) (ho : Off A n G) (hb : n ≤ 65535) (hf : (flatT cur st).length ≤ 10000000000000) :
    Calls Tryz.prog 69 #[.pointer (some ⟨p, 0, none⟩), .int .u8 (ub m), .slice A n c] w (WrR w p G (.ok (cur ++ elm m b) st)) := by
  cases h with
  | @ok vw vo cur st h =>
    have hc := fun (w' : World) (hx : Ext w w') => h.blk.cell hx 2
    have hc0 := fun (w' : World) (hx : Ext w w') => h.blk.cell hx 0
    have hk : mkB m = true := by unfold isP at hm; simp at hm; exact hm.1
    have hlen := hbs.len
    have hhi := hdn_hi n
    have he : flatT (cur ++ elm m b) st = flatT cur st ++ hdr m n ++ b := by rw [flatT_app, elm, hlen, List.append_assoc]
    obtain ⟨L, hL⟩ : ∃ L, flatT cur st = L := ⟨_, rfl⟩
    obtain ⟨N, hN⟩ : ∃ N, L.length = N := ⟨_, rfl⟩
    obtain ⟨D, hD⟩ : ∃ D, hdr m n = D := ⟨_, rfl⟩
    obtain ⟨k, hkk⟩ : ∃ k, hdn n = k := ⟨_, rfl⟩
    have hDl : D.length = k := by rw [← hD, hdr_len, hkk]
    have C := Kp.mk (fun u => Head_ok m n hb hk u)
    rw [hD, hkk] at C
    rw [hL] at h hf he
    rw [hD] at he
    rw [hN] at hf
    rw [hkk] at hhi
    have H := Kp.mk h
    have HN := Kp.mk hN
    have HB := Kp.mk hbs
    have HOF := Kp.mk ho
    have HE := Kp.mk he
    have hx1 : N + k ≤ 140737488355328 := by omega
    have hx2 : N + k + n ≤ 140737488355328 := by omega
    have HL2 : Kp ((L ++ D).length = N + k) := ⟨by rw [List.length_append, hN, hDl]⟩
    have HL3 : Kp ((L ++ D ++ b).length = N + k + n) := ⟨by rw [List.length_append, List.length_append, hN, hDl, hlen]⟩
    clear h hb hk hL hN hD hkk hhi hf hDl hbs hlen he ho
    go_enter Tryz.func69, Tryz.ntmps69
    go_wp2_with (first | (go_at_call 51; refine (isPart_any m true hm _).mono ?_; rintro e w1 ⟨rfl, rfl⟩) | (go_at_call 57; refine (C.out _).mono ?_; rintro e w3 ⟨A3, c3, rfl, hs3, ho3, hx3⟩; have c3' := hc0 w3 hx3; have HS3 := Kp.mk hs3; have HX3 := Kp.mk hx3; clear hs3 ho3 hx3) | (with_reducible refine at_call_to 37 ?_; refine wpList_append_m rfl (.tmp 35) (.tmp 36) rfl vw N L rfl (HN.out ▸ (H.out.ext HX3.out).ow) A3 k c3 D rfl HS3.out hx1 (N + k) rfl (L ++ D) rfl ?_; intro A4 c4 w4 ho4 ha4; obtain ⟨c4', f4⟩ := (H.out.ext HX3.out).at0 ha4.mv; have W4 := Kp.mk ((H.out.ext HX3.out).put ha4.mv (by rw [HL2.out]; exact ho4)); clear ho4 ha4) | (with_reducible refine at_call_to 46 ?_; refine wpList_append_m rfl (.tmp 44) (.tmp 45) rfl (.slice A4 (N + k) c4) (N + k) (L ++ D) rfl (HL2.out ▸ W4.out.1.ow) A n c b rfl ((HB.out.ext HX3.out).mds W4.out.2.m HOF.out) hx2 (N + k + n) rfl (L ++ D ++ b) rfl ?_; intro A5 c5 w5 ho5 ha5; obtain ⟨c5', f5⟩ := W4.out.1.at0 ha5.mv; have W5 := Kp.mk (W4.out.1.put ha5.mv (by rw [HL3.out]; exact ho5)); clear ho5 ha5) | fail)
    go_end0
    have h5 := W5.out.1
    rw [← HE.out] at h5
    exact ⟨rfl, _, .ok h5, (W4.out.2.trans W5.out.2).pre HX3.out⟩
/-- whatever the writer holds -/
theorem Put_any {s : TWs} (h : Wr w p G s) (hbs : Bs w A n c b) (ho : Off A n G) (hf : szW s ≤ 10000000000000) : Calls Tryz.prog 69 #[.pointer (some ⟨p, 0, none⟩), .int .u8 (ub m), .slice A n c] w (WrR w p G (putS m b s)) := by
  cases s with
  | bad k => exact Put_bad h
  | ok cur st =>
    cases hm : isP m with
    | false =>
      rw [show putS m b (.ok cur st) = .bad 1 by simp [putS, hm]]
      exact Put_arg h hm
    | true =>
      by_cases hl : b.length ≤ 65535
      · rw [show putS m b (.ok cur st) = .ok (cur ++ elm m b) st by simp [putS, hm, hl]]
        exact Put_ok h hm hbs ho (by rw [← hbs.len]; exact hl) hf
      · rw [show putS m b (.ok cur st) = .bad 4 by simp [putS, hm, hl]]
        exact Put_long h hm (by rw [← hbs.len]; omega)
end
end Go.Proofs.YthookcnkmlmgcaaGreatDoor
