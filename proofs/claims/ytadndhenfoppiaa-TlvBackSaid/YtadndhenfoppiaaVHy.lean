/-
  A writer alone, a reader alone; the walk of the law TlvLong.
-/
import Derived.Test.YtadndhenfoppiaaVHw
namespace Go.Proofs.Ytadndhenfoppiaa
open Go Go.RowKit
set_option maxRecDepth 4000

/-- a writer behind block b -/
structure Pw (b : Nat) (w : World) (p : Nat) (s : TWs) : Prop where
  ex : ∃ G, Wr w p G s ∧ Lo b G ∧ b ≤ w.heap.size
/-- a reader behind block b -/
structure Pq (b : Nat) (w : World) (q : Nat) (rest : List (BitVec 8)) (bs : List (List (BitVec 8))) : Prop where
  ex : ∃ G, Rr w q G rest bs ∧ Lo b G ∧ b ≤ w.heap.size
/-- a later world of all that was there before block b -/
def Nx (b : Nat) (w w' : World) : Prop := ∀ w1 : World, Ext w1 w → w1.heap.size ≤ b → Ext w1 w'
section
variable {b : Nat} {w w' w0 : World} {p q : Nat} {s : TWs} {rest x r : List (BitVec 8)} {bs : List (List (BitVec 8))} {m : BitVec 8}
theorem Nx.ext (h : Ext w w') : Nx b w w' := fun _ h1 _ => h1.trans h
theorem Pw.ext (h : Pw b w p s) (hx : Ext w w') : Pw b w' p s := by
  obtain ⟨G, h1, h2, h3⟩ := h.ex
  exact ⟨⟨G, h1.ext hx, h2, Nat.le_trans h3 hx.size⟩⟩
theorem Pq.ext (h : Pq b w q rest bs) (hx : Ext w w') : Pq b w' q rest bs := by
  obtain ⟨G, h1, h2, h3⟩ := h.ex
  exact ⟨⟨G, h1.ext hx, h2, Nat.le_trans h3 hx.size⟩⟩
theorem Pw.of {G G' : List Nat} (h1 : Lo b G) (h2 : b ≤ w.heap.size) (hw : Wr w' p G' s) (hm : Mvs G G' w w') : Pw b w' p s ∧ Nx b w w' :=
  ⟨⟨⟨G', hw, hm.lo h2 h1, Nat.le_trans h2 hm.m.size⟩⟩, fun _ hx hb => hm.ext hx (h1.mono hb)⟩
theorem Pq.of {G G' : List Nat} (h1 : Lo b G) (h2 : b ≤ w.heap.size) (hw : Rr w' q G' rest bs) (hm : Mvs G G' w w') : Pq b w' q rest bs ∧ Nx b w w' :=
  ⟨⟨⟨G', hw, hm.lo h2 h1, Nat.le_trans h2 hm.m.size⟩⟩, fun _ hx hb => hm.ext hx (h1.mono hb)⟩
theorem Pw.put (h : Pw b w0 p s) (hx0 : Ext w0 w) (m : BitVec 8) {A : Option Addr} {n c : Nat} (hx : Bs w A n c x) (ho : ∀ G, Lo b G → Hi w0 G → Off A n G) (hf : szW s ≤ 10000000000000) :
    Calls Try.prog 15 #[.pointer (some ⟨p, 0, none⟩), .int .u8 (ub m), .slice A n c] w fun e w' => e = .returned (.tuple #[]) ∧ Pw b w' p (putS m x s) ∧ Nx b w w' ∧ Bs w' A n c x := by
  obtain ⟨G, h1, h2, h3⟩ := h.ex
  refine (Put_any (h1.ext hx0) hx (ho G h2 h1.hi) hf).mono ?_
  rintro e w' ⟨rfl, G', k1, k2⟩
  have := Pw.of h2 (Nat.le_trans h3 hx0.size) k1 k2
  exact ⟨rfl, this.1, this.2, hx.mds k2.m (ho G h2 h1.hi)⟩
theorem Pw.open_ (h : Pw b w p s) (m : BitVec 8) (hf : szW s ≤ 10000000000000) :
    Calls Try.prog 17 #[.pointer (some ⟨p, 0, none⟩), .int .u8 (ub m)] w fun e w' => e = .returned (.tuple #[]) ∧ Pw b w' p (openS m s) ∧ Nx b w w' := by
  obtain ⟨G, h1, h2, h3⟩ := h.ex
  refine (Open_any h1 hf).mono ?_
  rintro e w' ⟨rfl, G', k1, k2⟩
  exact ⟨rfl, Pw.of h2 h3 k1 k2⟩
theorem Pw.close (h : Pw b w p s) (hv : VW s) (hf : szW s ≤ 10000000000000) :
    Calls Try.prog 19 #[.pointer (some ⟨p, 0, none⟩)] w fun e w' => e = .returned (.tuple #[]) ∧ Pw b w' p (closeS s) ∧ Nx b w w' := by
  obtain ⟨G, h1, h2, h3⟩ := h.ex
  refine (Close_any h1 hv hf).mono ?_
  rintro e w' ⟨rfl, G', k1, k2⟩
  exact ⟨rfl, Pw.of h2 h3 k1 k2⟩
theorem Pw.bytes (h : Pw b w p s) (hv : VW s) (hf : szW s ≤ 10000000000000) : Calls Try.prog 21 #[.pointer (some ⟨p, 0, none⟩)] w (BytR w s) := by
  obtain ⟨G, h1, h2, h3⟩ := h.ex
  exact Bytes_any h1 hv hf
theorem Pw.new (w : World) : Calls Try.prog 12 #[] w fun e w' => e = .returned (.pointer (some ⟨w.heap.size, 0, none⟩)) ∧ Pw w.heap.size w' w.heap.size (.ok [] []) ∧ Ext w w' := by
  refine (NewWriter_any w).mono ?_
  rintro e w' ⟨rfl, ⟨G, h1, h2⟩, h3⟩
  exact ⟨rfl, ⟨⟨G, h1, h2, h3.size⟩⟩, h3⟩
theorem Pq.new {A : Option Addr} {n c : Nat} (h : Bs w A n c x) (hn : n ≤ 140737488351232) : Calls Try.prog 24 #[.slice A n c] w fun e w' => ∃ q, e = .returned (.pointer (some ⟨q, 0, none⟩)) ∧ Pq w.heap.size w' q x [] ∧ Ext w w' := by
  refine (NewReader_any h hn).mono ?_
  rintro e w' ⟨q, rfl, ⟨G, h1, h2⟩, h3⟩
  exact ⟨q, rfl, ⟨⟨G, h1, h2, h3.size⟩⟩, h3⟩
theorem Pq.take (h : Pq b w q rest bs) (hx : rest.length ≤ 1000000000000) (hm : isP m = true) (he : El rest m x r) : Calls Try.prog 25 #[.pointer (some ⟨q, 0, none⟩), .int .u8 (ub m)] w fun e w' => ∃ A n c, e = .returned (.tuple #[.slice A n c, .nilIface]) ∧ Own w' w.heap.size (.slice A n c) n x ∧ Pq b w' q r bs ∧ Nx b w w' := by
  obtain ⟨G, h1, h2, h3⟩ := h.ex
  refine (Take_ok h1 hx hm he).mono ?_
  rintro e w' ⟨A, n, c, rfl, k1, k2, k3⟩
  have := Pq.of h2 h3 k2 ⟨k3, fun _ hk => .inl hk⟩
  exact ⟨A, n, c, rfl, k1, this.1, this.2⟩
theorem Pq.enter (h : Pq b w q rest bs) (hx : rest.length ≤ 1000000000000) (hm : isW m = true) (he : El rest m x r) (hd : bs.length < 24) : Calls Try.prog 28 #[.pointer (some ⟨q, 0, none⟩), .int .u8 (ub m)] w fun e w' => e = .returned .nilIface ∧ Pq b w' q x (bs ++ [r]) ∧ Nx b w w' := by
  obtain ⟨G, h1, h2, h3⟩ := h.ex
  refine (Enter_ok h1 hx hm he hd).mono ?_
  rintro e w' ⟨rfl, G', k1, k2⟩
  exact ⟨rfl, Pq.of h2 h3 k1 k2⟩
theorem Pq.deep (h : Pq b w q rest bs) (hx : rest.length ≤ 1000000000000) (hm : isW m = true) (he : El rest m x r) (hd : 24 ≤ bs.length) : Calls Try.prog 28 #[.pointer (some ⟨q, 0, none⟩), .int .u8 (ub m)] w fun e w' => e = .returned (err 5) ∧ Pq b w' q rest bs ∧ Nx b w w' := by
  obtain ⟨G, h1, h2, h3⟩ := h.ex
  refine (Enter_deep h1 hx hm he hd).mono ?_
  rintro e w' ⟨rfl, k⟩
  exact ⟨rfl, h.ext k, Nx.ext k⟩
theorem Pq.leave (h : Pq b w q [] (bs ++ [x])) (hd : bs.length < 1000000) : Calls Try.prog 29 #[.pointer (some ⟨q, 0, none⟩)] w fun e w' => e = .returned .nilIface ∧ Pq b w' q x bs ∧ Nx b w w' := by
  obtain ⟨G, h1, h2, h3⟩ := h.ex
  refine (Leave_ok h1 hd).mono ?_
  rintro e w' ⟨rfl, G', k1, k2⟩
  exact ⟨rfl, Pq.of h2 h3 k1 k2⟩
theorem Pq.end_ (h : Pq b w q [] []) : Calls Try.prog 26 #[.pointer (some ⟨q, 0, none⟩)] w fun e w' => e = .returned .nilIface ∧ w' = w := by
  obtain ⟨G, h1, h2, h3⟩ := h.ex
  exact End_any h1
end
/-- a writer, and bytes that lie apart from it -/
structure Pwd (b : Nat) (w : World) (p : Nat) (s : TWs) (A : Option Addr) (n c : Nat) (l : List (BitVec 8)) : Prop where
  ex : ∃ G, Wr w p G s ∧ Lo b G ∧ b ≤ w.heap.size ∧ Bs w A n c l ∧ Off A n G
section
variable {b : Nat} {w w' w0 : World} {p : Nat} {s : TWs} {l : List (BitVec 8)} {A : Option Addr} {n c : Nat}
theorem Pw.with_ (h : Pw b w0 p s) (hx0 : Ext w0 w) (hx : Bs w A n c l) (ho : ∀ G, Lo b G → Hi w0 G → Off A n G) : Pwd b w p s A n c l := by
  obtain ⟨G, h1, h2, h3⟩ := h.ex
  exact ⟨⟨G, h1.ext hx0, h2, Nat.le_trans h3 hx0.size, hx, ho G h2 h1.hi⟩⟩
theorem Pwd.pw (h : Pwd b w p s A n c l) : Pw b w p s := by
  obtain ⟨G, h1, h2, h3, _⟩ := h.ex
  exact ⟨⟨G, h1, h2, h3⟩⟩
theorem Pwd.open_ (h : Pwd b w p s A n c l) (m : BitVec 8) (hf : szW s ≤ 10000000000000) :
    Calls Try.prog 17 #[.pointer (some ⟨p, 0, none⟩), .int .u8 (ub m)] w fun e w' => e = .returned (.tuple #[]) ∧ Pwd b w' p (openS m s) A n c l ∧ Nx b w w' := by
  obtain ⟨G, h1, h2, h3, h4, h5⟩ := h.ex
  refine (Open_any h1 hf).mono ?_
  rintro e w' ⟨rfl, G', k1, k2⟩
  have := Pw.of h2 h3 k1 k2
  exact ⟨rfl, ⟨⟨G', k1, k2.lo h3 h2, Nat.le_trans h3 k2.m.size, h4.mds k2.m h5, h5.mv h4 k2⟩⟩, this.2⟩
theorem Pwd.put (h : Pwd b w p s A n c l) (m : BitVec 8) (M : Nat) (hM : M ≤ n) (hf : szW s ≤ 10000000000000) :
    Calls Try.prog 15 #[.pointer (some ⟨p, 0, none⟩), .int .u8 (ub m), .slice A M c] w fun e w' => e = .returned (.tuple #[]) ∧ Pw b w' p (putS m (l.take M) s) ∧ Nx b w w' := by
  obtain ⟨G, h1, h2, h3, h4, h5⟩ := h.ex
  refine (Put_any h1 (h4.take M hM) (fun ad hn e => h5 ad (by omega) e) hf).mono ?_
  rintro e w' ⟨rfl, G', k1, k2⟩
  exact ⟨rfl, Pw.of h2 h3 k1 k2⟩
end
theorem isP4 : isP 4 = true := by decide
theorem isW48 : isW 48 = true := by decide
theorem long_put (n : Nat) (h : n ≤ 65535) (st : List (BitVec 8 × List (BitVec 8))) : putS 4 (zb n) (.ok [] st) = .ok (elm 4 (zb n)) st := by
  simp only [putS]
  rw [if_pos isP4, if_pos (by rw [zb_len]; exact h), List.nil_append]
theorem long_not (n : Nat) (h : 65535 < n) : putS 4 (zb n) (.ok [] []) = .bad 4 := by
  simp only [putS]
  rw [if_pos isP4, if_neg (by rw [zb_len]; omega)]
theorem open48 (cur : List (BitVec 8)) (st : List (BitVec 8 × List (BitVec 8))) (h : st.length < 24) : openS 48 (.ok cur st) = .ok [] ((48, cur) :: st) := by
  simp only [openS]
  rw [if_pos isW48, if_pos h]
theorem long_elm (n : Nat) (h : 256 ≤ n) : (elm 4 (zb n)).length = n + 4 := by rw [elm_len, zb_len]; unfold hdn; rw [if_neg (by omega), if_neg (by omega)]; omega
theorem long_el (n : Nat) (h : n ≤ 65535) : El (elm 4 (zb n)) 4 (zb n) [] := ⟨by decide, by rw [zb_len]; exact h, by simp⟩
theorem long_close (x : List (BitVec 8)) (h : x.length ≤ 65535) : closeS (.ok x [(48, [])]) = .ok (elm 48 x) [] := by
  simp only [closeS]
  rw [if_pos h, List.nil_append]
theorem long_closed (x : List (BitVec 8)) (h : 65535 < x.length) : closeS (.ok x [(48, [])]) = .bad 4 := by
  simp only [closeS]
  rw [if_neg (by omega)]
theorem made_bs (w : World) (N : Nat) : Bs (w.alloc (.cells (bv (zb N)) 5)) (some ⟨w.heap.size, 0, none⟩) N N (zb N) := by
  have := (Blk.new w 5 (bv (zb N))).bs 0 N N (by rw [zb_len]; omega) (Nat.le_refl _)
  rwa [List.drop_zero, List.take_of_length_le (by rw [zb_len]; exact Nat.le_refl _)] at this
theorem zb_take (N M : Nat) (h : M ≤ N) : (zb N).take M = zb M := by unfold zb; rw [List.take_replicate, Nat.min_eq_left h]
set_option maxHeartbeats 8000000 in
theorem TlvLong_a {w : World} (x : Int) (hb : -9223372036854775808 ≤ x ∧ x ≤ 9223372036854775807) (N k : Nat) (hk : pk x 10 = (k : Int)) (hN : N = 65530 + k) (hk10 : k < 10) (hl : 65535 < N) : Calls Try.prog 5 #[.int .i64 x, .bool false] w fun e w' => e = .returned (.bool true) ∧ Below w.heap.size w w' := by
  have HU := Kp.mk (fun u => up7_any u)
  have PK := Kp.mk (fun u => pick_any x 10 hb.1 hb.2 (by decide) (by decide) u)
  rw [hk] at PK
  have w1 : IntKind.i64.wrap (65530 + (k : Int)) = (N : Int) := by rw [IntKind.wrap_i64]; omega
  have hmk := fun W => run_makeN N (N : Int) rfl (by omega) W
  have b1 : (65535 : Int) < (N : Int) := by omega
  have HP := Kp.mk (long_not N hl)
  have ee := code_eq 4 4
  clear hb hk hk10 hN hl
  go_enter Try.func5, Try.ntmps5
  go_wp2_with fail
  refine (HU.out _).mono ?_
  rintro e w1 ⟨rfl, x1⟩
  go_wp2_with fail
  refine (PK.out _).mono ?_
  rintro e w1' ⟨rfl, rfl⟩
  go_wp2_with fail
  refine (Pw.new _).mono ?_
  rintro e w2 ⟨rfl, p2, x2⟩
  have P2 := Kp.mk p2
  have X1 := Kp.mk x1
  have X2 := Kp.mk (x1.trans x2)
  clear p2 x1 x2
  go_wp2_with fail
  have x3 : Ext w2 (w2.alloc (.cells (bv (zb N)) 5)) := (by (repeat (first | assumption | exact Ext.refl _ | apply Ext.drew | apply Ext.drewN | apply Ext.alloc | refine Ext.trans ?_ (by assumption))); first | done | fail)
  refine (P2.out.put x3 4 (made_bs w2 N) (fun G _ hi => off_lit hi _ _) (by decide)).mono ?_
  rintro e w4 ⟨rfl, p4, x4, b4⟩
  rw [HP.out] at p4
  have P4 := Kp.mk p4
  have E4 := Kp.mk (x4 w (X2.out.trans x3) X1.out.size)
  have B4 := Kp.mk b4
  clear p4 x4 b4 x3
  go_wp2_with fail
  refine (P4.out.bytes ⟨by decide, by decide⟩ (Nat.zero_le _)).mono ?_
  rintro e w5 ⟨A5, n5, c5, rfl, ho5, x5⟩
  obtain rfl : n5 = 0 := ho5.len.symm
  rw [show errV (doneC (.bad 4)) = err 4 from rfl]
  have E5 := Kp.mk (E4.out.trans x5)
  clear ho5 x5
  go_wp2_with fail
  go_ret
  exact ⟨rfl, E5.out.b⟩
set_option maxHeartbeats 8000000 in
theorem TlvLong_b {w : World} (x : Int) (hb : -9223372036854775808 ≤ x ∧ x ≤ 9223372036854775807) (N k : Nat) (hk : pk x 10 = (k : Int)) (hN : N = 65530 + k) (hk10 : k < 10) (hl : N ≤ 65535) : Calls Try.prog 5 #[.int .i64 x, .bool false] w fun e w' => e = .returned (.bool true) ∧ Below w.heap.size w w' := by
  have HU := Kp.mk (fun u => up7_any u)
  have PK := Kp.mk (fun u => pick_any x 10 hb.1 hb.2 (by decide) (by decide) u)
  rw [hk] at PK
  have w1 : IntKind.i64.wrap (65530 + (k : Int)) = (N : Int) := by rw [IntKind.wrap_i64]; omega
  have hmk := fun W => run_makeN N (N : Int) rfl (by omega) W
  have b1 : decide ((65535 : Int) < (N : Int)) = false := decide_eq_false (by omega)
  have b2 : ¬ (65535 : Int) < (N : Int) := by omega
  have HP := Kp.mk (long_put N hl [])
  have HL := Kp.mk (long_elm N (by omega))
  have HE := Kp.mk (long_el N hl)
  have HZ : Kp (szW (.ok (elm 4 (zb N)) []) ≤ 10000000000000) := ⟨by show (flatT (elm 4 (zb N)) []).length ≤ _; rw [show flatT (elm 4 (zb N)) [] = elm 4 (zb N) from rfl, HL.out]; omega⟩
  have w2 : IntKind.i64.wrap ((N : Int) + 4) = (N : Int) + 4 := by rw [IntKind.wrap_i64]; omega
  have HB5 : Kp (N + 4 ≤ 140737488351232) := ⟨by omega⟩
  have HB6 : Kp (N + 4 ≤ 1000000000000) := ⟨by omega⟩
  clear hb hk hk10 hN hl
  go_enter Try.func5, Try.ntmps5
  go_wp2_with fail
  refine (HU.out _).mono ?_
  rintro e w1 ⟨rfl, x1⟩
  go_wp2_with fail
  refine (PK.out _).mono ?_
  rintro e w1' ⟨rfl, rfl⟩
  go_wp2_with fail
  refine (Pw.new _).mono ?_
  rintro e w2 ⟨rfl, p2, x2⟩
  have P2 := Kp.mk p2
  have X1 := Kp.mk x1
  have X2 := Kp.mk (x1.trans x2)
  clear p2 x1 x2
  go_wp2_with fail
  have x3 : Ext w2 (w2.alloc (.cells (bv (zb N)) 5)) := (by (repeat (first | assumption | exact Ext.refl _ | apply Ext.drew | apply Ext.drewN | apply Ext.alloc | refine Ext.trans ?_ (by assumption))); first | done | fail)
  refine (P2.out.put x3 4 (made_bs w2 N) (fun G _ hi => off_lit hi _ _) (by decide)).mono ?_
  rintro e w4 ⟨rfl, p4, x4, b4⟩
  rw [HP.out] at p4
  have P4 := Kp.mk p4
  have E4 := Kp.mk (x4 w (X2.out.trans x3) X1.out.size)
  have B4 := Kp.mk b4
  clear p4 x4 b4 x3
  go_wp2_with fail
  refine (P4.out.bytes ⟨by decide, fun _ h => by cases h⟩ HZ.out).mono ?_
  rintro e w5 ⟨A5, n5, c5, rfl, ho5, x5⟩
  have hd5 : doneL (.ok (elm 4 (zb N)) []) = elm 4 (zb N) := rfl
  rw [hd5] at ho5
  have hn5 := ho5.len
  rw [HL.out] at hn5
  subst hn5
  rw [show errV (doneC (.ok (elm 4 (zb N)) [])) = .nilIface from rfl]
  have E5 := Kp.mk (E4.out.trans x5)
  have HO5 := Kp.mk ho5
  have X5 := Kp.mk x5
  clear ho5 x5 hd5
  go_wp2_with fail
  refine (Pq.new HO5.out.bs HB5.out).mono ?_
  rintro e w6 ⟨q, rfl, p6, x6⟩
  have P6 := Kp.mk p6
  have X6 := Kp.mk x6
  clear p6 x6
  go_wp2_with fail
  refine (P6.out.take (by rw [HL.out]; exact HB6.out) isP4 HE.out).mono ?_
  rintro e w7 ⟨A7, n7, c7, rfl, ho7, p7, x7⟩
  have P7 := Kp.mk p7
  have y7 : Ext w4 w7 := x7 w4 (X5.out.trans X6.out) X5.out.size
  have E7 := Kp.mk (E4.out.trans y7)
  have S7 := fun (w' : World) (hx : Ext w7 w') => ho7.bs.str hx
  have S4 := fun (w' : World) (hx : Ext w7 w') => B4.out.str (y7.trans hx)
  clear ho7 p7 x7
  go_wp2_with fail
  refine (P7.out.end_).mono ?_
  rintro e w8 ⟨rfl, rfl⟩
  go_wp2_with fail
  go_ret
  exact ⟨rfl, E7.out.b⟩
set_option maxHeartbeats 8000000 in
theorem TlvLong_c {w : World} (x : Int) (hb : -9223372036854775808 ≤ x ∧ x ≤ 9223372036854775807) (N k : Nat) (hk : pk x 10 = (k : Int)) (hN : N = 65530 + k) (hk10 : k < 10) (hl : 65535 < N) : Calls Try.prog 5 #[.int .i64 x, .bool true] w fun e w' => e = .returned (.bool true) ∧ Below w.heap.size w w' := by
  have HU := Kp.mk (fun u => up7_any u)
  have PK := Kp.mk (fun u => pick_any x 10 hb.1 hb.2 (by decide) (by decide) u)
  rw [hk] at PK
  have w1 : IntKind.i64.wrap (65530 + (k : Int)) = (N : Int) := by rw [IntKind.wrap_i64]; omega
  have hmk := fun W => run_makeN N (N : Int) rfl (by omega) W
  have b1 : (65535 : Int) < (N : Int) := by omega
  have ee := code_eq 4 4
  obtain ⟨M, hM⟩ : ∃ M : Nat, N = M + 4 := ⟨N - 4, by omega⟩
  have w4 : IntKind.i64.wrap ((N : Int) - 4) = (M : Int) := by rw [IntKind.wrap_i64]; omega
  have hs1 := fun W A => run_upto (P := Try.prog) A N N 23 5 Try.underlying23 szB M (M : Int) rfl (by omega) W
  have HM := Kp.mk (show M ≤ N by omega)
  have HP := Kp.mk (long_put M (by omega) [(48, [])])
  have HT := Kp.mk (zb_take N M (by omega))
  have HL : Kp ((elm 4 (zb M)).length = N) := ⟨by rw [long_elm M (by omega), hM]⟩
  have HZ2 : Kp (szW (.ok (elm 4 (zb M)) [(48, [])]) ≤ 10000000000000) := ⟨by show (flatT (elm 4 (zb M)) [(48, [])]).length ≤ _; rw [flatT_len, HL.out]; show 0 + 1 + N ≤ _; omega⟩
  have HC : Kp (closeS (.ok (elm 4 (zb M)) [(48, [])]) = .bad 4) := ⟨long_closed _ (by rw [HL.out]; exact hl)⟩
  clear hM
  clear hb hk hk10 hN hl
  go_enter Try.func5, Try.ntmps5
  go_wp2_with fail
  refine (HU.out _).mono ?_
  rintro e w1 ⟨rfl, x1⟩
  go_wp2_with fail
  refine (PK.out _).mono ?_
  rintro e w1' ⟨rfl, rfl⟩
  go_wp2_with fail
  refine (Pw.new _).mono ?_
  rintro e w2 ⟨rfl, p2, x2⟩
  have P2 := Kp.mk p2
  have X1 := Kp.mk x1
  have X2 := Kp.mk (x1.trans x2)
  clear p2 x1 x2
  go_wp2_with fail
  have x3 : Ext w2 (w2.alloc (.cells (bv (zb N)) 5)) := (by (repeat (first | assumption | exact Ext.refl _ | apply Ext.drew | apply Ext.drewN | apply Ext.alloc | refine Ext.trans ?_ (by assumption))); first | done | fail)
  refine ((P2.out.with_ x3 (made_bs w2 N) (fun G _ hi => off_lit hi _ _)).open_ 48 (by decide)).mono ?_
  rintro e w3 ⟨rfl, p3, y3⟩
  rw [open48 [] [] (by decide)] at p3
  have P3 := Kp.mk p3
  have E3 := Kp.mk (y3 w (X2.out.trans x3) X1.out.size)
  clear p3 y3 x3
  go_wp2_with fail
  refine (P3.out.put 4 M HM.out (by decide)).mono ?_
  rintro e w4 ⟨rfl, p4, y4⟩
  rw [HT.out, HP.out] at p4
  have P4' := Kp.mk p4
  have E4' := Kp.mk (y4 w E3.out X1.out.size)
  clear p4 y4
  go_wp2_with fail
  refine (P4'.out.close ⟨by show 1 ≤ 24; decide, fun y hy => by rw [List.mem_singleton.1 hy]; exact isW48⟩ HZ2.out).mono ?_
  rintro e w4c ⟨rfl, p4, y4⟩
  rw [HC.out] at p4
  have P4 := Kp.mk p4
  have E4 := Kp.mk (y4 w E4'.out X1.out.size)
  clear p4 y4
  go_wp2_with fail
  refine (P4.out.bytes ⟨by decide, by decide⟩ (Nat.zero_le _)).mono ?_
  rintro e w5 ⟨A5, n5, c5, rfl, ho5, x5⟩
  obtain rfl : n5 = 0 := ho5.len.symm
  rw [show errV (doneC (.bad 4)) = err 4 from rfl]
  have E5 := Kp.mk (E4.out.trans x5)
  clear ho5 x5
  go_wp2_with fail
  go_ret
  exact ⟨rfl, E5.out.b⟩
set_option maxHeartbeats 8000000 in
theorem TlvLong_d {w : World} (x : Int) (hb : -9223372036854775808 ≤ x ∧ x ≤ 9223372036854775807) (N k : Nat) (hk : pk x 10 = (k : Int)) (hN : N = 65530 + k) (hk10 : k < 10) (hl : N ≤ 65535) : Calls Try.prog 5 #[.int .i64 x, .bool true] w fun e w' => e = .returned (.bool true) ∧ Below w.heap.size w w' := by
  have HU := Kp.mk (fun u => up7_any u)
  have PK := Kp.mk (fun u => pick_any x 10 hb.1 hb.2 (by decide) (by decide) u)
  rw [hk] at PK
  have w1 : IntKind.i64.wrap (65530 + (k : Int)) = (N : Int) := by rw [IntKind.wrap_i64]; omega
  have hmk := fun W => run_makeN N (N : Int) rfl (by omega) W
  have b1 : decide ((65535 : Int) < (N : Int)) = false := decide_eq_false (by omega)
  have b2 : ¬ (65535 : Int) < (N : Int) := by omega
  have w5 : IntKind.i64.wrap ((N : Int) + 4) = (N : Int) + 4 := by rw [IntKind.wrap_i64]; omega
  obtain ⟨M, hM⟩ : ∃ M : Nat, N = M + 4 := ⟨N - 4, by omega⟩
  have w4 : IntKind.i64.wrap ((N : Int) - 4) = (M : Int) := by rw [IntKind.wrap_i64]; omega
  have hs1 := fun W A => run_upto (P := Try.prog) A N N 23 5 Try.underlying23 szB M (M : Int) rfl (by omega) W
  have HM := Kp.mk (show M ≤ N by omega)
  have HP := Kp.mk (long_put M (by omega) [(48, [])])
  have HT := Kp.mk (zb_take N M (by omega))
  have HL : Kp ((elm 4 (zb M)).length = N) := ⟨by rw [long_elm M (by omega), hM]⟩
  have HZ2 : Kp (szW (.ok (elm 4 (zb M)) [(48, [])]) ≤ 10000000000000) := ⟨by show (flatT (elm 4 (zb M)) [(48, [])]).length ≤ _; rw [flatT_len, HL.out]; show 0 + 1 + N ≤ _; omega⟩
  have HC : Kp (closeS (.ok (elm 4 (zb M)) [(48, [])]) = .ok (elm 48 (elm 4 (zb M))) []) := ⟨long_close _ (by rw [HL.out]; exact hl)⟩
  have HLL : Kp ((elm 48 (elm 4 (zb M))).length = N + 4) := ⟨by rw [elm_len, HL.out]; unfold hdn; rw [if_neg (by omega), if_neg (by omega)]; omega⟩
  have HZ : Kp (szW (.ok (elm 48 (elm 4 (zb M))) []) ≤ 10000000000000) := ⟨by show (flatT (elm 48 (elm 4 (zb M))) []).length ≤ _; rw [show flatT (elm 48 (elm 4 (zb M))) [] = elm 48 (elm 4 (zb M)) from rfl, HLL.out]; omega⟩
  clear hM
  clear hb hk hk10 hN hl
  go_enter Try.func5, Try.ntmps5
  go_wp2_with fail
  refine (HU.out _).mono ?_
  rintro e w1 ⟨rfl, x1⟩
  go_wp2_with fail
  refine (PK.out _).mono ?_
  rintro e w1' ⟨rfl, rfl⟩
  go_wp2_with fail
  refine (Pw.new _).mono ?_
  rintro e w2 ⟨rfl, p2, x2⟩
  have P2 := Kp.mk p2
  have X1 := Kp.mk x1
  have X2 := Kp.mk (x1.trans x2)
  clear p2 x1 x2
  go_wp2_with fail
  have x3 : Ext w2 (w2.alloc (.cells (bv (zb N)) 5)) := (by (repeat (first | assumption | exact Ext.refl _ | apply Ext.drew | apply Ext.drewN | apply Ext.alloc | refine Ext.trans ?_ (by assumption))); first | done | fail)
  refine ((P2.out.with_ x3 (made_bs w2 N) (fun G _ hi => off_lit hi _ _)).open_ 48 (by decide)).mono ?_
  rintro e w3 ⟨rfl, p3, y3⟩
  rw [open48 [] [] (by decide)] at p3
  have P3 := Kp.mk p3
  have E3 := Kp.mk (y3 w (X2.out.trans x3) X1.out.size)
  clear p3 y3 x3
  go_wp2_with fail
  refine (P3.out.put 4 M HM.out (by decide)).mono ?_
  rintro e w4 ⟨rfl, p4, y4⟩
  rw [HT.out, HP.out] at p4
  have P4' := Kp.mk p4
  have E4' := Kp.mk (y4 w E3.out X1.out.size)
  clear p4 y4
  go_wp2_with fail
  refine (P4'.out.close ⟨by show 1 ≤ 24; decide, fun y hy => by rw [List.mem_singleton.1 hy]; exact isW48⟩ HZ2.out).mono ?_
  rintro e w4c ⟨rfl, p4, y4⟩
  rw [HC.out] at p4
  have P4 := Kp.mk p4
  have E4 := Kp.mk (y4 w E4'.out X1.out.size)
  clear p4 y4
  go_wp2_with fail
  refine (P4.out.bytes ⟨by decide, fun _ h => by cases h⟩ HZ.out).mono ?_
  rintro e w5 ⟨A5, n5, c5, rfl, ho5, x5⟩
  have hd5 : doneL (.ok (elm 48 (elm 4 (zb M))) []) = elm 48 (elm 4 (zb M)) := rfl
  rw [hd5] at ho5
  have hn5 := ho5.len
  rw [HLL.out] at hn5
  subst hn5
  rw [show errV (doneC (.ok (elm 48 (elm 4 (zb M))) [])) = .nilIface from rfl]
  have E5 := Kp.mk (E4.out.trans x5)
  clear ho5 x5 hd5
  go_wp2_with fail
  go_ret
  exact ⟨rfl, E5.out.b⟩
theorem TlvLong_any {w : World} (x : Int) (hb : -9223372036854775808 ≤ x ∧ x ≤ 9223372036854775807) (i : Bool) : Calls Try.prog 5 #[.int .i64 x, .bool i] w fun e w' => e = .returned (.bool true) ∧ Below w.heap.size w w' := by
  obtain ⟨k, hk, hk10⟩ : ∃ k : Nat, pk x 10 = (k : Int) ∧ k < 10 := by
    have h1 : 0 ≤ pk x 10 := Int.emod_nonneg _ (by decide)
    have h2 : pk x 10 < 10 := Int.emod_lt_of_pos _ (by decide)
    exact ⟨(pk x 10).toNat, by omega, by omega⟩
  cases i with
  | false =>
    by_cases hl : 65535 < 65530 + k
    · exact TlvLong_a x hb _ k hk rfl hk10 hl
    · exact TlvLong_b x hb _ k hk rfl hk10 (by omega)
  | true =>
    by_cases hl : 65535 < 65530 + k
    · exact TlvLong_c x hb _ k hk rfl hk10 hl
    · exact TlvLong_d x hb _ k hk rfl hk10 (by omega)
end Go.Proofs.Ytadndhenfoppiaa
