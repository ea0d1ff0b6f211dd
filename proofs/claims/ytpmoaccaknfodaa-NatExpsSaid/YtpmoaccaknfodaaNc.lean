/-
  The reference's Add, Sub.
-/
import Derived.Test.YtpmoaccaknfodaaNb
namespace Go.Proofs.Ytpmoaccaknfodaa
open Go Go.RowKit

theorem t_mod (x : Nat) : (x : Int).tmod 65536 = ((x % 65536 : Nat) : Int) := by
  rw [Int.tmod_eq_emod_of_nonneg (by omega)]; omega
set_option maxHeartbeats 1000000 in
theorem add_any {a b : List Nat} {A B : Option Addr} {n c m d : Nat} {w : World} (ha : Rd vI w A n c a) (hb : Rd vI w B m d b) (da : Dg 65536 a) (db : Dg 65536 b) (hn : n ≤ 1000000000000) (hm : m ≤ 1000000000000) :
    Calls Try.prog 21 #[.slice A n c, .slice B m d] w (FreshN w (vl 65536 a + vl 65536 b)) := by
  have hla := ha.len
  have hlb := hb.len
  have HA := Kp.mk ha
  have HB := Kp.mk hb
  have DA := Kp.mk da
  have DB := Kp.mk db
  clear ha hb da db
  go_enter Try.func21, Try.ntmps21
  go_wp2_with fail
  go_loopw [5, 6, 7] (fun ov cv iv wr => ∃ i q : Nat, ∃ out : List Nat, i ≤ n + m + 1 ∧ (i ≤ n ∨ i ≤ m ∨ q = 0) ∧ iv = .int .i64 (i : Int) ∧ cv = .int .i64 (q : Int) ∧ AddS 65536 a b i out q ∧ (∃ A c, ov = .slice A i c) ∧ Rn wr w.heap.size ov i out ∧ Ext w wr) (fun _ _ i _ => n + m + 2 - (intOf i).toNat)
  case atStart => exact ⟨0, 0, [], by omega, by omega, rfl, rfl, AddS.start _ _ _, ⟨_, _, rfl⟩, Rw.nil _ _, Ext.refl _⟩
  case round =>
    obtain ⟨i, q, out, hi, hor, rfl, rfl, hs, ⟨Ao, co, rfl⟩, ho, hx⟩ := hrel
    have hq := hs.cr
    by_cases hgo : i < n ∨ i < m ∨ 0 < q
    · have hca : i < n ∨ (n ≤ i ∧ i < m) ∨ (n ≤ i ∧ m ≤ i ∧ 0 < q) := by omega
      have h1 := DA.out.at (by decide) i
      have h2 := DB.out.at (by decide) i
      have hnx := hs.next (by decide) DA.out DB.out
      have hor' : i + 1 ≤ n ∨ i + 1 ≤ m ∨ (q + dg a i + dg b i) / 65536 = 0 := by
        by_cases e1 : i < n
        · exact .inl e1
        · by_cases e2 : i < m
          · exact .inr (.inl e2)
          · rw [dg_out a i (by omega), dg_out b i (by omega)]; omega
      have hi' : i + 1 ≤ n + m + 1 := by omega
      have HN := Kp.mk hnx
      have HO := Kp.mk hor'
      have HI := Kp.mk hi'
      have HRO := Kp.mk ho
      have HX := Kp.mk hx
      have c1 := fun (w' : World) (h : Ext wr w') => digit_any (HA.out.ext (hx.trans h)) i (i : Int) rfl
      have c2 := fun (w' : World) (h : Ext wr w') => digit_any (HB.out.ext (hx.trans h)) i (i : Int) rfl
      have C1 := Kp.mk c1
      have C2 := Kp.mk c2
      have b1 : ((dg a i : Nat) : Int) < 65536 := by omega
      have b2 : ((dg b i : Nat) : Int) < 65536 := by omega
      have b3 : (q : Int) ≤ 1 := by omega
      clear hs hnx hor hor' ho hx c1 c2 hgo hi h1 h2 hq
      generalize dg a i = x at *
      generalize dg b i = y at *
      rcases hca with k1 | ⟨k1, k2⟩ | ⟨k1, k2, k3⟩
      all_goals
        go_wp2_with fail
        refine (C1.out _ (Ext.refl _)).mono ?_
        rintro e w1 ⟨rfl, rfl⟩
        go_wp2_with fail
        refine (C2.out _ (Ext.refl _)).mono ?_
        rintro e w1 ⟨rfl, rfl⟩
        go_wp2_with (first | (at_builtin; refine wpList_append_I rfl (.tmp 33) (.tmp 36) rfl w.heap.size (.slice Ao i co) i out rfl (HRO.out.ext (by (repeat (first | assumption | exact Ext.refl _ | apply Ext.drew | apply Ext.drewN | apply Ext.alloc | refine Ext.trans ?_ (by assumption))); first | done | fail)) _ 1 1 [(q + x + y) % 65536] rfl (lit1 _ _ _ (by omega)) (by omega) (i + 1) rfl _ rfl w (HX.out.trans (by (repeat (first | assumption | exact Ext.refl _ | apply Ext.drew | apply Ext.drewN | apply Ext.alloc | refine Ext.trans ?_ (by assumption))); first | done | fail)) (Nat.le_refl _) (HX.out.trans (by (repeat (first | assumption | exact Ext.refl _ | apply Ext.drew | apply Ext.drewN | apply Ext.alloc | refine Ext.trans ?_ (by assumption))); first | done | fail)).size ?_; intro A5 c5 w5 ho5 hx5 _) | fail)
        go_roundw
        case rel => exact ⟨i + 1, (q + x + y) / 65536, _, HI.out, HO.out, by go_num, by go_num, HN.out, ⟨_, _, rfl⟩, ho5, hx5⟩
        case measure => have := HI.out; simp [intOf]; omega
    · obtain rfl : q = 0 := by omega
      have hv := hs.done (by omega) (by omega)
      have hd := hs.d
      have hin : n ≤ i ∧ m ≤ i := by omega
      obtain ⟨k1, k2⟩ := hin
      clear hs hgo hor
      go_wp2_with fail
      refine (FreshN.of_trim ho hd (by omega) hv hx).mono ?_
      rintro e w2 ⟨A2, n2, c2, rfl, hr2, ho2, hx2⟩
      go_wp2_with fail
      go_ret
      exact ⟨A2, n2, c2, rfl, hr2, ho2, hx2⟩
set_option maxRecDepth 20000 in
set_option maxHeartbeats 1000000 in
theorem sub_any {a b : List Nat} {A B : Option Addr} {n c m d : Nat} {w : World} (ha : Rd vI w A n c a) (hb : Rd vI w B m d b) (da : Dg 65536 a) (db : Dg 65536 b) (hn : n ≤ 1000000000000) (hmn : m ≤ n) (hle : vl 65536 b ≤ vl 65536 a) :
    Calls Try.prog 22 #[.slice A n c, .slice B m d] w (FreshN w (vl 65536 a - vl 65536 b)) := by
  have hla := ha.len
  have hlb := hb.len
  have HA := Kp.mk ha
  have HB := Kp.mk hb
  have DA := Kp.mk da
  have DB := Kp.mk db
  have HLE := Kp.mk hle
  clear ha hb da db hle
  go_enter Try.func22, Try.ntmps22
  go_wp2_with fail
  go_loopw [5, 6, 7] (fun ov cv iv wr => ∃ i q : Nat, ∃ out : List Nat, i ≤ n ∧ iv = .int .i64 (i : Int) ∧ cv = .int .i64 (q : Int) ∧ SubS 65536 a b i out q ∧ (∃ A c, ov = .slice A i c) ∧ Rn wr w.heap.size ov i out ∧ Ext w wr) (fun _ _ i _ => n - (intOf i).toNat)
  case atStart => exact ⟨0, 0, [], by omega, rfl, rfl, SubS.start _ _ _, ⟨_, _, rfl⟩, Rw.nil _ _, Ext.refl _⟩
  case round =>
    obtain ⟨i, q, out, hi, rfl, rfl, hs, ⟨Ao, co, rfl⟩, ho, hx⟩ := hrel
    have hq := hs.cr
    by_cases hlt : i < n
    · obtain ⟨g, o, rfl⟩ := HA.out.some_ (by omega)
      have b0 : (i : Int) < (n : Int) := by omega
      have k1 : ∀ w', Ext wr w' → w'.cell? ⟨g, o + i, none⟩ = some (.int .i64 (dg a i : Int)) := fun w' h => (HA.out.ext (hx.trans h)).dig i hlt
      have c2 := fun (w' : World) (h : Ext wr w') => digit_any (HB.out.ext (hx.trans h)) i (i : Int) rfl
      have h1 := DA.out.at (by decide) i
      have h2 := DB.out.at (by decide) i
      have C2 := Kp.mk c2
      have b1 : ((dg a i : Nat) : Int) < 65536 := by omega
      have b2 : ((dg b i : Nat) : Int) < 65536 := by omega
      have b3 : (q : Int) ≤ 1 := by omega
      have HRO := Kp.mk ho
      have HX := Kp.mk hx
      by_cases hge : dg b i + q ≤ dg a i
      · have HN := Kp.mk (hs.keep DA.out (by decide) hge)
        have HG := Kp.mk hge
        clear hs ho hx c2 h1 h2 hq hge
        generalize dg a i = x at *
        generalize dg b i = y at *
        have e1 : IntKind.i64.wrap ((x : Int) - (y : Int)) = (x : Int) - (y : Int) := by rw [IntKind.wrap_i64]; omega
        obtain ⟨r, hr⟩ : ∃ r : Nat, x - y - q = r := ⟨_, rfl⟩
        have e2 : IntKind.i64.wrap ((x : Int) - (y : Int) - (q : Int)) = (r : Int) := by have := HG.out; rw [IntKind.wrap_i64]; omega
        rw [hr] at HN
        have b4 : (r : Int) < 65536 := by omega
        have b5 : decide ((r : Int) < 0) = false := decide_eq_false (by omega)
        clear hr
        go_wp2_with fail
        refine wp_region_held_drew (S := fun w' => Ext wr w') (by kernel_rfl) (Ext.refl wr).drew (fun hHeld => ?_)
        refine wpAnyH_take (i := 0) (oi := ⟨some 15, _, _, _, _, _⟩) (v := ?_) rfl (by kernel_rfl) (by kernel_rfl) (by kernel_rfl) (fun _ _ _ h => h) (Or.inl ⟨by rfl, ?_⟩) (by assumption) ?_
        rotate_left
        · (intro w hSw; (try dsimp only at hSw); go_simp; try with_reducible rfl)
        try simp only [Act.put, List.setIfInBounds_toArray, List.set_cons_zero, List.set_cons_succ]
        refine wpAnyH_take (i := 1) (oi := ⟨some 16, _, _, _, _, _⟩) (v := ?_) rfl (by kernel_rfl) (by kernel_rfl) (by kernel_rfl) (fun _ _ _ h => h) (Or.inl ⟨by rfl, ?_⟩) (by assumption) ?_
        rotate_left
        · (intro w hSw; (try dsimp only at hSw); go_simp; try with_reducible rfl)
        try simp only [Act.put, List.setIfInBounds_toArray, List.set_cons_zero, List.set_cons_succ]
        refine wpAnyH_take (i := 2) (oi := ⟨some 17, _, _, _, _, _⟩) (v := ?_) rfl (by kernel_rfl) (by kernel_rfl) (by kernel_rfl) (fun _ _ _ h => h) (Or.inl ⟨by rfl, ?_⟩) (by assumption) ?_
        rotate_left
        · (intro w hSw; (try dsimp only at hSw); go_simp; try with_reducible rfl)
        try simp only [Act.put, List.setIfInBounds_toArray, List.set_cons_zero, List.set_cons_succ]
        refine wpAnyH_take (i := 3) (oi := ⟨some 18, _, _, _, _, _⟩) (v := ?_) rfl (by kernel_rfl) (by kernel_rfl) (by kernel_rfl) (fun _ _ _ h => h) (Or.inl ⟨by rfl, ?_⟩) (by assumption) ?_
        rotate_left
        · (intro w hSw; (try dsimp only at hSw); go_simp; try with_reducible rfl)
        try simp only [Act.put, List.setIfInBounds_toArray, List.set_cons_zero, List.set_cons_succ]
        refine wpAnyH_take (i := 4) (oi := ⟨some 19, _, _, _, _, _⟩) (v := ?_) rfl (by kernel_rfl) (by kernel_rfl) (by kernel_rfl) (fun _ _ _ h => h) (Or.inl ⟨by rfl, ?_⟩) (by assumption) ?_
        rotate_left
        · (intro w hSw; (try dsimp only at hSw); go_simp; try with_reducible rfl)
        try simp only [Act.put, List.setIfInBounds_toArray, List.set_cons_zero, List.set_cons_succ]
        refine wpAnyH_take (i := 5) (oi := ⟨some 20, _, _, _, _, _⟩) (v := ?_) rfl (by kernel_rfl) (by kernel_rfl) (by kernel_rfl) (fun _ _ _ h => h) (Or.inl ⟨by rfl, ?_⟩) (by assumption) ?_
        rotate_left
        · (intro w hSw; (try dsimp only at hSw); go_simp; try with_reducible rfl)
        try simp only [Act.put, List.setIfInBounds_toArray, List.set_cons_zero, List.set_cons_succ]
        refine wpAnyH_take (i := 8) (oi := ⟨some 23, _, _, _, _, _⟩) (v := ?_) rfl (by kernel_rfl) (by kernel_rfl) (by kernel_rfl) (fun _ _ _ h => h) (Or.inl ⟨by rfl, ?_⟩) (by assumption) ?_
        rotate_left
        · (intro w hSw; (try dsimp only at hSw); go_simp; try with_reducible rfl)
        try simp only [Act.put, List.setIfInBounds_toArray, List.set_cons_zero, List.set_cons_succ]
        refine next_one 6 (by kernel_rfl) rfl (by rfl) fun K' HK' => ?_
        go_simp
        refine (C2.out _ (by (repeat (first | assumption | exact Ext.refl _ | apply Ext.drew | apply Ext.drewN | apply Ext.alloc | refine Ext.trans ?_ (by assumption))); first | done | fail)).mono ?_
        rintro e w2 ⟨rfl, hw2⟩
        have hx1 : Ext wr.drew w2 := by rw [hw2]; exact Ext.refl _
        have hx2 : Ext wr w2 := (Ext.refl wr).drew.trans hx1
        clear hw2
        have hS2 := Ext.trans hHeld hx1
        refine held_go HK' hS2 (fun _ => ?_)
        clear HK'
        refine held_more (S' := fun w' => Ext w2 w') (fun _ h => Ext.trans hS2 h) _ _ _ _ ?_
        clear hHeld hS2
        have hHeld : Ext w2 w2 := Ext.refl _
        try simp only [Act.put, List.setIfInBounds_toArray, List.set_cons_zero, List.set_cons_succ]
        refine wpAnyH_take (i := 7) (oi := ⟨some 22, _, _, _, _, _⟩) (v := ?_) rfl (by kernel_rfl) (by kernel_rfl) (by kernel_rfl) (fun _ _ _ h => h) (Or.inl ⟨by rfl, ?_⟩) (by assumption) ?_
        rotate_left
        · (intro w hSw; (try dsimp only at hSw); go_simp; try with_reducible rfl)
        try simp only [Act.put, List.setIfInBounds_toArray, List.set_cons_zero, List.set_cons_succ]
        refine wpAnyH_take (i := 9) (oi := ⟨some 24, _, _, _, _, _⟩) (v := ?_) rfl (by kernel_rfl) (by kernel_rfl) (by kernel_rfl) (fun _ _ _ h => h) (Or.inl ⟨by rfl, ?_⟩) (by assumption) ?_
        rotate_left
        · (intro w hSw; (try dsimp only at hSw); go_simp; try with_reducible rfl)
        try simp only [Act.put, List.setIfInBounds_toArray, List.set_cons_zero, List.set_cons_succ]
        refine wpAnyH_take (i := 10) (oi := ⟨some 8, _, _, _, _, _⟩) (v := ?_) rfl (by kernel_rfl) (by kernel_rfl) (by kernel_rfl) (fun _ _ _ h => h) (Or.inl ⟨by rfl, ?_⟩) (by assumption) ?_
        rotate_left
        · (intro w hSw; (try dsimp only at hSw); go_simp; try with_reducible rfl)
        try simp only [Act.put, List.setIfInBounds_toArray, List.set_cons_zero, List.set_cons_succ]
        refine wpAnyH_done (by kernel_rfl) ?_ _
        go_wp2_with (first | (at_builtin; refine wpList_append_I rfl (.tmp 29) (.tmp 31) rfl w.heap.size (.slice Ao i co) i out rfl ((HRO.out.ext hx2).ext (by (repeat (first | assumption | exact Ext.refl _ | apply Ext.drew | apply Ext.drewN | apply Ext.alloc | refine Ext.trans ?_ (by assumption))); first | done | fail)) _ 1 1 [r] rfl (lit1 _ _ _ rfl) (by omega) (i + 1) rfl _ rfl w ((HX.out.trans hx2).trans (by (repeat (first | assumption | exact Ext.refl _ | apply Ext.drew | apply Ext.drewN | apply Ext.alloc | refine Ext.trans ?_ (by assumption))); first | done | fail)) (Nat.le_refl _) ((HX.out.trans hx2).trans (by (repeat (first | assumption | exact Ext.refl _ | apply Ext.drew | apply Ext.drewN | apply Ext.alloc | refine Ext.trans ?_ (by assumption))); first | done | fail)).size ?_; intro A5 c5 w5 ho5 hx5 _) | fail)
        go_roundw
        case rel => exact ⟨i + 1, 0, _, by omega, by go_num, by go_num, HN.out, ⟨_, _, rfl⟩, ho5, hx5⟩
        case measure => simp [intOf]; omega
      · have HN := Kp.mk (hs.borrow DB.out (by decide) (by omega))
        have q1 : ((dg a i : Nat) : Int) - ((dg b i : Nat) : Int) - (q : Int) < 0 := by omega
        have HG := Kp.mk (show dg a i < dg b i + q by omega)
        clear hs ho hx c2 h1 h2 hq hge
        generalize dg a i = x at *
        generalize dg b i = y at *
        have e1 : IntKind.i64.wrap ((x : Int) - (y : Int)) = (x : Int) - (y : Int) := by rw [IntKind.wrap_i64]; omega
        have e2 : IntKind.i64.wrap ((x : Int) - (y : Int) - (q : Int)) = (x : Int) - (y : Int) - (q : Int) := by rw [IntKind.wrap_i64]; omega
        go_wp2_with fail
        refine wp_region_held_drew (S := fun w' => Ext wr w') (by kernel_rfl) (Ext.refl wr).drew (fun hHeld => ?_)
        refine wpAnyH_take (i := 0) (oi := ⟨some 15, _, _, _, _, _⟩) (v := ?_) rfl (by kernel_rfl) (by kernel_rfl) (by kernel_rfl) (fun _ _ _ h => h) (Or.inl ⟨by rfl, ?_⟩) (by assumption) ?_
        rotate_left
        · (intro w hSw; (try dsimp only at hSw); go_simp; try with_reducible rfl)
        try simp only [Act.put, List.setIfInBounds_toArray, List.set_cons_zero, List.set_cons_succ]
        refine wpAnyH_take (i := 1) (oi := ⟨some 16, _, _, _, _, _⟩) (v := ?_) rfl (by kernel_rfl) (by kernel_rfl) (by kernel_rfl) (fun _ _ _ h => h) (Or.inl ⟨by rfl, ?_⟩) (by assumption) ?_
        rotate_left
        · (intro w hSw; (try dsimp only at hSw); go_simp; try with_reducible rfl)
        try simp only [Act.put, List.setIfInBounds_toArray, List.set_cons_zero, List.set_cons_succ]
        refine wpAnyH_take (i := 2) (oi := ⟨some 17, _, _, _, _, _⟩) (v := ?_) rfl (by kernel_rfl) (by kernel_rfl) (by kernel_rfl) (fun _ _ _ h => h) (Or.inl ⟨by rfl, ?_⟩) (by assumption) ?_
        rotate_left
        · (intro w hSw; (try dsimp only at hSw); go_simp; try with_reducible rfl)
        try simp only [Act.put, List.setIfInBounds_toArray, List.set_cons_zero, List.set_cons_succ]
        refine wpAnyH_take (i := 3) (oi := ⟨some 18, _, _, _, _, _⟩) (v := ?_) rfl (by kernel_rfl) (by kernel_rfl) (by kernel_rfl) (fun _ _ _ h => h) (Or.inl ⟨by rfl, ?_⟩) (by assumption) ?_
        rotate_left
        · (intro w hSw; (try dsimp only at hSw); go_simp; try with_reducible rfl)
        try simp only [Act.put, List.setIfInBounds_toArray, List.set_cons_zero, List.set_cons_succ]
        refine wpAnyH_take (i := 4) (oi := ⟨some 19, _, _, _, _, _⟩) (v := ?_) rfl (by kernel_rfl) (by kernel_rfl) (by kernel_rfl) (fun _ _ _ h => h) (Or.inl ⟨by rfl, ?_⟩) (by assumption) ?_
        rotate_left
        · (intro w hSw; (try dsimp only at hSw); go_simp; try with_reducible rfl)
        try simp only [Act.put, List.setIfInBounds_toArray, List.set_cons_zero, List.set_cons_succ]
        refine wpAnyH_take (i := 5) (oi := ⟨some 20, _, _, _, _, _⟩) (v := ?_) rfl (by kernel_rfl) (by kernel_rfl) (by kernel_rfl) (fun _ _ _ h => h) (Or.inl ⟨by rfl, ?_⟩) (by assumption) ?_
        rotate_left
        · (intro w hSw; (try dsimp only at hSw); go_simp; try with_reducible rfl)
        try simp only [Act.put, List.setIfInBounds_toArray, List.set_cons_zero, List.set_cons_succ]
        refine wpAnyH_take (i := 8) (oi := ⟨some 23, _, _, _, _, _⟩) (v := ?_) rfl (by kernel_rfl) (by kernel_rfl) (by kernel_rfl) (fun _ _ _ h => h) (Or.inl ⟨by rfl, ?_⟩) (by assumption) ?_
        rotate_left
        · (intro w hSw; (try dsimp only at hSw); go_simp; try with_reducible rfl)
        try simp only [Act.put, List.setIfInBounds_toArray, List.set_cons_zero, List.set_cons_succ]
        refine next_one 6 (by kernel_rfl) rfl (by rfl) fun K' HK' => ?_
        go_simp
        refine (C2.out _ (by (repeat (first | assumption | exact Ext.refl _ | apply Ext.drew | apply Ext.drewN | apply Ext.alloc | refine Ext.trans ?_ (by assumption))); first | done | fail)).mono ?_
        rintro e w2 ⟨rfl, hw2⟩
        have hx1 : Ext wr.drew w2 := by rw [hw2]; exact Ext.refl _
        have hx2 : Ext wr w2 := (Ext.refl wr).drew.trans hx1
        clear hw2
        have hS2 := Ext.trans hHeld hx1
        refine held_go HK' hS2 (fun _ => ?_)
        clear HK'
        refine held_more (S' := fun w' => Ext w2 w') (fun _ h => Ext.trans hS2 h) _ _ _ _ ?_
        clear hHeld hS2
        have hHeld : Ext w2 w2 := Ext.refl _
        try simp only [Act.put, List.setIfInBounds_toArray, List.set_cons_zero, List.set_cons_succ]
        refine wpAnyH_take (i := 7) (oi := ⟨some 22, _, _, _, _, _⟩) (v := ?_) rfl (by kernel_rfl) (by kernel_rfl) (by kernel_rfl) (fun _ _ _ h => h) (Or.inl ⟨by rfl, ?_⟩) (by assumption) ?_
        rotate_left
        · (intro w hSw; (try dsimp only at hSw); go_simp; try with_reducible rfl)
        try simp only [Act.put, List.setIfInBounds_toArray, List.set_cons_zero, List.set_cons_succ]
        refine wpAnyH_take (i := 9) (oi := ⟨some 24, _, _, _, _, _⟩) (v := ?_) rfl (by kernel_rfl) (by kernel_rfl) (by kernel_rfl) (fun _ _ _ h => h) (Or.inl ⟨by rfl, ?_⟩) (by assumption) ?_
        rotate_left
        · (intro w hSw; (try dsimp only at hSw); go_simp; try with_reducible rfl)
        try simp only [Act.put, List.setIfInBounds_toArray, List.set_cons_zero, List.set_cons_succ]
        refine wpAnyH_take (i := 10) (oi := ⟨some 8, _, _, _, _, _⟩) (v := ?_) rfl (by kernel_rfl) (by kernel_rfl) (by kernel_rfl) (fun _ _ _ h => h) (Or.inl ⟨by rfl, ?_⟩) (by assumption) ?_
        rotate_left
        · (intro w hSw; (try dsimp only at hSw); go_simp; try with_reducible rfl)
        try simp only [Act.put, List.setIfInBounds_toArray, List.set_cons_zero, List.set_cons_succ]
        refine wpAnyH_done (by kernel_rfl) ?_ _
        go_wp2_with (first | (at_builtin; refine wpList_append_I rfl (.tmp 29) (.tmp 31) rfl w.heap.size (.slice Ao i co) i out rfl ((HRO.out.ext hx2).ext (by (repeat (first | assumption | exact Ext.refl _ | apply Ext.drew | apply Ext.drewN | apply Ext.alloc | refine Ext.trans ?_ (by assumption))); first | done | fail)) _ 1 1 [x + 65536 - y - q] rfl (lit1 _ _ _ (by have := HG.out; omega)) (by omega) (i + 1) rfl _ rfl w ((HX.out.trans hx2).trans (by (repeat (first | assumption | exact Ext.refl _ | apply Ext.drew | apply Ext.drewN | apply Ext.alloc | refine Ext.trans ?_ (by assumption))); first | done | fail)) (Nat.le_refl _) ((HX.out.trans hx2).trans (by (repeat (first | assumption | exact Ext.refl _ | apply Ext.drew | apply Ext.drewN | apply Ext.alloc | refine Ext.trans ?_ (by assumption))); first | done | fail)).size ?_; intro A5 c5 w5 ho5 hx5 _) | fail)
        go_roundw
        case rel => exact ⟨i + 1, 1, _, by omega, by go_num, by go_num, HN.out, ⟨_, _, rfl⟩, ho5, hx5⟩
        case measure => simp [intOf]; omega
    · obtain rfl : i = n := by omega
      obtain ⟨_, hv⟩ := hs.done (by decide) (by omega) (by omega) HLE.out
      have hd := hs.d
      clear hs
      go_wp2_with fail
      refine (FreshN.of_trim ho hd (by omega) hv hx).mono ?_
      rintro e w2 ⟨A2, n2, c2, rfl, hr2, ho2, hx2⟩
      go_wp2_with fail
      go_ret
      exact ⟨A2, n2, c2, rfl, hr2, ho2, hx2⟩
end Go.Proofs.Ytpmoaccaknfodaa
