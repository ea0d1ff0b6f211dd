/-
  The walk of decrypted.
-/
import Derived.Test.YtjjoghdlbnlicaaDoorBa
namespace Go.Proofs.YtjjoghdlbnlicaaDoor
open Go Go.RowKit

structure Dec (w : World) (g h : Nat) (key X : List (BitVec 8)) (wr : World) : Prop where
  e : Enc w g key X wr
  t : Blk wr h tb (bv IB)
  n : g + 1 + 1 < h
theorem Dec.ext {w wr w' : World} {g h : Nat} {key X : List (BitVec 8)} (d : Dec w g h key X wr) (hx : Ext wr w') : Dec w g h key X w' := ⟨d.e.ext hx, d.t.ext hx, d.n⟩
theorem Dec.set {w wr : World} {g h : Nat} {key X : List (BitVec 8)} (d : Dec w g h key X wr) (Y : List (BitVec 8)) : Dec w g h key Y (wr.setRow g (bv Y)) :=
  ⟨d.e.set Y, d.t.rowfar (by have := d.n; omega) _, d.n⟩
theorem Dec.cell {w wr : World} {g h : Nat} {key X : List (BitVec 8)} (d : Dec w g h key X wr) (j : Nat) (x : BitVec 8) : Dec w g h key (X.set j x) (wr.setCell ⟨g, j, none⟩ (.int .u8 (ub x))) :=
  ⟨⟨d.e.b.setB j x, d.e.k.far (p := ⟨g, j, none⟩) (show g + 1 ≠ g by omega) _, d.e.r.far (p := ⟨g, j, none⟩) (show g + 1 + 1 ≠ g by omega) _, d.e.x.setCell (p := ⟨g, j, none⟩) d.e.h _, d.e.h⟩, d.t.far (p := ⟨g, j, none⟩) (show h ≠ g by have := d.n; omega) _, d.n⟩
theorem dec_next (K : Nat → List (BitVec 8)) (b : List (BitVec 8)) (i : Nat) (h1 : 1 ≤ i) (h2 : i ≤ 10) (m : Bool) (h : decide (i < 10) = m) : ibL (shL 3 (unmf m (xorL (dec K b (10 - i)) (K i)))) = dec K b (10 - (i - 1)) := by
  subst h
  rw [show 10 - (i - 1) = (10 - i) + 1 by omega, dec, show 10 - (10 - i) = i by omega]
  rfl
theorem run_load_rge {P : Program} {w : World} (ty : TypeId) (b o : Nat) (l : List (BitVec 8)) (hc : Rge w b o l) (d : TypeDesc) (hu : P.underlying ty = some d) (hd : d.isRow = true) (hi : (P.info? ty).map (·.size) = some (bv l).size) :
    (Instr.loadAt ty (.pointer (some ⟨b, o, none⟩))).run P w = .ok (.agg (bv l)) w :=
  run_loadAt_mid w b o ty (l.map vb) d hc.r hu hd (by rw [hi, bv_size, List.length_map])

set_option maxHeartbeats 4000000 in
theorem decrypted_any (key b : List (BitVec 8)) (w : World) (hb : b.length = 16) (hk : key.length = 16) (hw : Lay3 w) :
    Calls Tryd.prog 25 #[.agg (bv b), .agg (bv (kA key))] w fun e w' => e = .returned (.agg (bv (decL (ks key) b))) ∧ Ext w w' := by
  have hz := zeroT
  go_enter Tryd.func25, Tryd.ntmps25
  have st : Enc w w.heap.size key b (((w.alloc (.cells (bv b) sq)).alloc (.cells (bv (kA key)) ka)).alloc (.cells z16 sq)) := ⟨⟨(by (repeat (first | (with_reducible apply Has.drew) | exact Has.new _ _ _ _ (by first | (simp; done) | fail) | (with_reducible apply Has.alloc))); first | done | fail)⟩, ⟨(by (repeat (first | (with_reducible apply Has.drew) | exact Has.new _ _ _ _ (by first | (simp; done) | fail) | (with_reducible apply Has.alloc))); first | done | fail)⟩, ⟨(by (repeat (first | (with_reducible apply Has.drew) | exact Has.new _ _ _ _ (by first | (simp; done) | fail) | (with_reducible apply Has.alloc))); first | done | fail)⟩, (by (repeat (first | assumption | exact Ext.refl _ | apply Ext.drew | apply Ext.drewN | apply Ext.alloc | refine Ext.trans ?_ (by assumption))); first | done | fail), Nat.le_refl _⟩
  go_wp2_with (first | (go_at_call 35; refine (originals_any _ (hw.ext st.x)).mono ?_; rintro e w1 ⟨rfl, hx1⟩; have hN : Blk (w1.alloc (.cells (bv (zb 256)) tb)) w1.heap.size tb (bv (zb 256)) := Blk.new _ _ _) | (with_reducible refine at_store 5 8 ?_; refine wpList_store_blk rfl tb (.tmp 5) (.tmp 8) rfl w1.heap.size IB (zb 256) tb hN (IB_len.trans (zb_len 256).symm) rfl rfl (szT _ IB_len) ?_) | fail)
  obtain ⟨w2, hw2⟩ : ∃ w2, w2 = (w1.alloc (.cells (bv (zb 256)) tb)).setRow w1.heap.size (bv IB) := ⟨_, rfl⟩
  have hst1 := st.ext hx1
  have hlt := hst1.r.lt
  have st2 : Dec w w.heap.size w1.heap.size key b w2 := by
    rw [hw2]
    exact ⟨⟨(hst1.b.ext (by (repeat (first | assumption | exact Ext.refl _ | apply Ext.drew | apply Ext.drewN | apply Ext.alloc | refine Ext.trans ?_ (by assumption))); first | done | fail)).rowfar (by have := hst1.b.lt; omega) _, (hst1.k.ext (by (repeat (first | assumption | exact Ext.refl _ | apply Ext.drew | apply Ext.drewN | apply Ext.alloc | refine Ext.trans ?_ (by assumption))); first | done | fail)).rowfar (by have := hst1.k.lt; omega) _, (hst1.r.ext (by (repeat (first | assumption | exact Ext.refl _ | apply Ext.drew | apply Ext.drewN | apply Ext.alloc | refine Ext.trans ?_ (by assumption))); first | done | fail)).rowfar (by omega) _, (hst1.x.trans (by (repeat (first | assumption | exact Ext.refl _ | apply Ext.drew | apply Ext.drewN | apply Ext.alloc | refine Ext.trans ?_ (by assumption))); first | done | fail)).setRow (hst1.x.size) _, Nat.le_refl _⟩, hN.row _, hlt⟩
  change Code.wp _ _ _ _ ((w1.alloc (.cells (bv (zb 256)) tb)).setRow w1.heap.size (bv IB))
  rw [← hw2]
  clear hw2 hst1 hlt hN st hx1 hz
  obtain ⟨g, hg⟩ : ∃ g, g = w.heap.size := ⟨_, rfl⟩
  rw [← hg] at st2 ⊢
  obtain ⟨h, hh⟩ : ∃ h, h = w1.heap.size := ⟨_, rfl⟩
  rw [← hh] at st2 ⊢
  have HK := Kp.mk hk
  have HW := Kp.mk hw
  have HB := Kp.mk hb
  clear hg hk hw hb hh
  go_loopw [6] (fun iv wr => ∃ i : Nat, i ≤ 10 ∧ iv = .int .i64 (i : Int) ∧ Dec w g h key (dec (ks key) b (10 - i)) wr) (fun i _ => (intOf i).toNat)
  case atStart => exact ⟨10, by omega, rfl, st2⟩
  case round =>
    clear st2
    obtain ⟨i, hi, rfl, st⟩ := hrel
    by_cases hlt : 1 ≤ i
    · have b1 : (1 : Int) ≤ (i : Int) := by omega
      have b3 : (0 : Int) ≤ (i : Int) := by omega
      have b4 : (i : Int) < 11 := by omega
      have hXl := dec_len (ks key) b HB.out (10 - i)
      have HN : Kp (∀ m, decide (i < 10) = m → ibL (shL 3 (unmf m (xorL (dec (ks key) b (10 - i)) (ks key i)))) = dec (ks key) b (10 - (i - 1))) := ⟨dec_next (ks key) b i hlt hi⟩
      generalize dec (ks key) b (10 - i) = X at *
      go_wp2_with fail
      have stD := st.ext (Ext.refl _).drew
      have hR1 := kA_rge HK.out stD.e.k i hi
      refine wp_region_held_drew (S := fun w' => Ext w w' ∧ Rge w' (g + 1) (i * 16) (ks key i)) (by kernel_rfl) ⟨stD.e.x, hR1⟩ (fun hHeld => ?_)
      refine wpAnyH_take (i := 1) (oi := ⟨some 14, _, _, _, _, _⟩) (v := ?_) rfl (by kernel_rfl) (by kernel_rfl) (by kernel_rfl) (fun _ _ _ h => h) (Or.inl ⟨by rfl, ?_⟩) (by assumption) ?_
      rotate_left
      · (intro w hSw; (try dsimp only at hSw); go_simp; try with_reducible rfl)
      try simp only [Act.put, List.setIfInBounds_toArray, List.set_cons_zero, List.set_cons_succ]
      refine wpAnyH_take (i := 2) (oi := ⟨some 15, _, _, _, _, _⟩) (v := ?_) rfl (by kernel_rfl) (by kernel_rfl) (by kernel_rfl) (fun _ _ _ h => h) (Or.inl ⟨by rfl, ?_⟩) (by assumption) ?_
      rotate_left
      · (intro w hSw; (try dsimp only at hSw); go_simp; try with_reducible rfl)
      try simp only [Act.put, List.setIfInBounds_toArray, List.set_cons_zero, List.set_cons_succ]
      refine wpAnyH_take (i := 3) (oi := ⟨some 16, _, _, _, _, _⟩) (v := .agg (bv (ks key i))) rfl (by kernel_rfl) (by kernel_rfl) (by kernel_rfl) (fun _ _ _ h => h) (Or.inl ⟨by rfl, fun w' hSw => exec_load sq (.tmp 15) rfl ⟨g + 1, i * 16, none⟩ rfl _ (run_load_rge sq _ _ _ hSw.2 _ Tryd.underlying50 rfl (szQ _ (ks_len key HK.out _)))⟩) (by assumption) ?_
      try simp only [Act.put, List.setIfInBounds_toArray, List.set_cons_zero, List.set_cons_succ]
      refine next_one 0 (by kernel_rfl) rfl (by rfl) fun K' HK' => ?_
      refine wp_load_rge sq (.tmp 2) rfl g 0 X stD.e.b.rge rfl _ Tryd.underlying50 rfl (szQ _ hXl) ?_
      refine held_go HK' ⟨stD.e.x, hR1⟩ (fun hHeld => ?_)
      clear HK'
      try simp only [Act.put, List.setIfInBounds_toArray, List.set_cons_zero, List.set_cons_succ]
      refine next_one 4 (by kernel_rfl) rfl (by rfl) fun K' HK' => ?_
      go_simp
      refine (added_any X (ks key i) _ hXl (ks_len key HK.out _)).mono ?_
      rintro e w6 ⟨rfl, hx6⟩
      have st6 := stD.ext hx6
      refine held_go HK' ⟨st6.e.x, hR1.ext hx6⟩ (fun hHeld => ?_)
      clear HK'
      try simp only [Act.put, List.setIfInBounds_toArray, List.set_cons_zero, List.set_cons_succ]
      refine next_one 5 (by kernel_rfl) rfl (by rfl) fun K' HK' => ?_
      refine wp_store_blk sq (.tmp 2) (.tmp 17) rfl g (xorL X (ks key i)) X sq st6.e.b (by rw [hXl, xorL_len]) rfl rfl (szQ _ (xorL_len _ _)) ?_
      have st7 := st6.set (xorL X (ks key i))
      refine held_go HK' ⟨st7.e.x, kA_rge HK.out st7.e.k i hi⟩ (fun hHeld => ?_)
      clear HK'
      try simp only [Act.put, List.setIfInBounds_toArray, List.set_cons_zero, List.set_cons_succ]
      refine wpAnyH_done (by kernel_rfl) ?_ _
      clear hHeld stD st st6 hR1 hx6
      obtain ⟨Y, hY⟩ : ∃ Y, xorL X (ks key i) = Y := ⟨_, rfl⟩
      have hYl : Y.length = 16 := by rw [← hY]; exact xorL_len _ _
      rw [hY] at st7 HN ⊢
      clear hY
      generalize World.setRow w6 g (bv Y) = w7 at *
      by_cases h9 : i < 10
      all_goals
        obtain ⟨m, hm⟩ : ∃ m, decide (i < 10) = m := ⟨_, rfl⟩
        have HN2 := Kp.mk (HN.out m hm)
        clear HN
      · have b2 : (i : Int) < 10 := by omega
        obtain rfl : m = true := by rw [← hm]; simp [h9]
        go_wp2_with (first | (go_at_call 37; refine (multiplied_any _ _ (by first | exact hYl | exact mulL_len _ | exact shL_len _ _)).mono ?_; rintro e w8 ⟨rfl, hx8⟩; replace st7 := st7.ext hx8; clear hx8) | (go_at_call 38; refine (shifted_at _ 3 3 _ (by first | exact hYl | exact mulL_len _ | exact shL_len _ _) (.inr ⟨rfl, rfl⟩)).mono ?_; rintro e w9 ⟨rfl, hx9⟩; replace st7 := st7.ext hx9; clear hx9) | (with_reducible refine at_load_to 20 2 ?_; refine wpList_load_rge rfl sq (.tmp 2) rfl g 0 _ st7.e.b.rge rfl _ Tryd.underlying50 rfl (szQ _ (by first | exact hYl | exact mulL_len _ | exact shL_len _ _)) ?_) | (with_reducible refine at_store 2 23 ?_; refine wpList_store_blk rfl sq (.tmp 2) (.tmp 23) rfl g (mulL (mulL (mulL Y))) _ sq st7.e.b (by first | rw [shL_len, hYl] | rw [mulL_len, hYl] | rw [shL_len, mulL_len]) rfl rfl (szQ _ (by first | exact hYl | exact mulL_len _ | exact shL_len _ _)) ?_; replace st7 := st7.set (mulL (mulL (mulL Y))); generalize World.setRow _ g (bv (mulL (mulL (mulL Y)))) = w10 at *) | (with_reducible refine at_load_to 24 2 ?_; refine wpList_load_rge rfl sq (.tmp 2) rfl g 0 _ st7.e.b.rge rfl _ Tryd.underlying50 rfl (szQ _ (by first | exact hYl | exact mulL_len _ | exact shL_len _ _)) ?_) | (with_reducible refine at_store 2 25 ?_; refine wpList_store_blk rfl sq (.tmp 2) (.tmp 25) rfl g (shL 3 (mulL (mulL (mulL Y)))) _ sq st7.e.b (by first | rw [shL_len, hYl] | rw [mulL_len, hYl] | rw [shL_len, mulL_len]) rfl rfl (szQ _ (by first | exact hYl | exact mulL_len _ | exact shL_len _ _)) ?_; replace st7 := st7.set (shL 3 (mulL (mulL (mulL Y)))); generalize World.setRow _ g (bv (shL 3 (mulL (mulL (mulL Y))))) = w11 at *) | fail)
        have hZ : ibL (shL 3 (mulL (mulL (mulL Y)))) = dec (ks key) b (10 - (i - 1)) := HN2.out
        have hZl : (shL 3 (mulL (mulL (mulL Y)))).length = 16 := shL_len _ _
        clear HN2 hm
        obtain ⟨Z, hZe⟩ : ∃ Z, (shL 3 (mulL (mulL (mulL Y)))) = Z := ⟨_, rfl⟩
        rw [hZe] at st7 hZ hZl ⊢
        clear hZe
        have hend : li 16 (fun j => ib (gb Z j)) = ibL Z := rfl
        have h0 := fl_zero 16 (fun j => ib (gb Z j)) Z hZl
        rw [← h0] at st7
        have HZ := Kp.mk hZ
        have HZL := Kp.mk hZl
        have HE := Kp.mk hend
        clear hZ hZl hend h0
        obtain ⟨wo, rfl⟩ : ∃ wo : World, wo = wr := ⟨_, rfl⟩
        go_loopw [26] (fun jv wr => ∃ j : Nat, j ≤ 16 ∧ jv = .int .i64 j ∧ Dec w g h key (fl 16 (fun j => ib (gb Z j)) Z j) wr) (fun j _ => 16 - (intOf j).toNat)
        case atStart => exact ⟨0, by omega, rfl, st7⟩
        case round =>
          clear st7
          obtain ⟨j, hj, rfl, st⟩ := hrel
          by_cases hlj : j < 16
          · have c1 : wr.cell? ⟨g, j, none⟩ = some (.int .u8 ((gb Z j).toNat : Int)) := (st.e.b.h.cell j).trans ((bv_at _ j (by rw [fl_len]; exact hlj)).trans (by rw [fl_gb _ _ _ _ _ hlj, if_neg (by omega)]; rfl))
            have l2 := (gb Z j).isLt
            have c2 : wr.cell? ⟨h, (gb Z j).toNat, none⟩ = some (.int .u8 (ub (ib (gb Z j)))) := (st.t.h.cell _).trans (bv_at _ _ (by rw [IB_len]; exact l2))
            have f1 := st.e.b.h.frozen j
            have b5 : (j : Int) < 16 := by omega
            have HFL : Kp ((fl 16 (fun j => ib (gb Z j)) Z j).set j (ib (gb Z j)) = fl 16 (fun j => ib (gb Z j)) Z (j + 1)) := ⟨fl_succ 16 (fun j => ib (gb Z j)) Z j hlj⟩
            have ST := Kp.mk st
            clear st
            generalize gb Z j = x at *
            go_wp2_with fail
            go_roundw
            case rel =>
              refine ⟨j + 1, by omega, by go_num, ?_⟩
              rw [← HFL.out]
              exact ST.out.cell j _
            case measure => simp [intOf]; omega
          · obtain rfl : j = 16 := by omega
            rw [fl_end, HE.out, HZ.out] at st
            go_wp2_with fail
            go_roundw
            case rel => exact ⟨i - 1, by omega, by rw [show ((i - 1 : Nat) : Int) = (i : Int) - 1 by omega], st⟩
            case measure => simp [intOf]; omega
      · have b2 : ¬ (i : Int) < 10 := by omega
        obtain rfl : m = false := by rw [← hm]; simp [h9]
        go_wp2_with (first | (go_at_call 38; refine (shifted_at _ 3 3 _ (by first | exact hYl | exact mulL_len _ | exact shL_len _ _) (.inr ⟨rfl, rfl⟩)).mono ?_; rintro e w9 ⟨rfl, hx9⟩; replace st7 := st7.ext hx9; clear hx9) | (with_reducible refine at_load_to 24 2 ?_; refine wpList_load_rge rfl sq (.tmp 2) rfl g 0 _ st7.e.b.rge rfl _ Tryd.underlying50 rfl (szQ _ (by first | exact hYl | exact mulL_len _ | exact shL_len _ _)) ?_) | (with_reducible refine at_store 2 25 ?_; refine wpList_store_blk rfl sq (.tmp 2) (.tmp 25) rfl g (shL 3 Y) _ sq st7.e.b (by first | rw [shL_len, hYl] | rw [mulL_len, hYl] | rw [shL_len, mulL_len]) rfl rfl (szQ _ (by first | exact hYl | exact mulL_len _ | exact shL_len _ _)) ?_; replace st7 := st7.set (shL 3 Y); generalize World.setRow _ g (bv (shL 3 Y)) = w11 at *) | fail)
        have hZ : ibL (shL 3 Y) = dec (ks key) b (10 - (i - 1)) := HN2.out
        have hZl : (shL 3 Y).length = 16 := shL_len _ _
        clear HN2 hm
        obtain ⟨Z, hZe⟩ : ∃ Z, (shL 3 Y) = Z := ⟨_, rfl⟩
        rw [hZe] at st7 hZ hZl ⊢
        clear hZe
        have hend : li 16 (fun j => ib (gb Z j)) = ibL Z := rfl
        have h0 := fl_zero 16 (fun j => ib (gb Z j)) Z hZl
        rw [← h0] at st7
        have HZ := Kp.mk hZ
        have HZL := Kp.mk hZl
        have HE := Kp.mk hend
        clear hZ hZl hend h0
        obtain ⟨wo, rfl⟩ : ∃ wo : World, wo = wr := ⟨_, rfl⟩
        go_loopw [26] (fun jv wr => ∃ j : Nat, j ≤ 16 ∧ jv = .int .i64 j ∧ Dec w g h key (fl 16 (fun j => ib (gb Z j)) Z j) wr) (fun j _ => 16 - (intOf j).toNat)
        case atStart => exact ⟨0, by omega, rfl, st7⟩
        case round =>
          clear st7
          obtain ⟨j, hj, rfl, st⟩ := hrel
          by_cases hlj : j < 16
          · have c1 : wr.cell? ⟨g, j, none⟩ = some (.int .u8 ((gb Z j).toNat : Int)) := (st.e.b.h.cell j).trans ((bv_at _ j (by rw [fl_len]; exact hlj)).trans (by rw [fl_gb _ _ _ _ _ hlj, if_neg (by omega)]; rfl))
            have l2 := (gb Z j).isLt
            have c2 : wr.cell? ⟨h, (gb Z j).toNat, none⟩ = some (.int .u8 (ub (ib (gb Z j)))) := (st.t.h.cell _).trans (bv_at _ _ (by rw [IB_len]; exact l2))
            have f1 := st.e.b.h.frozen j
            have b5 : (j : Int) < 16 := by omega
            have HFL : Kp ((fl 16 (fun j => ib (gb Z j)) Z j).set j (ib (gb Z j)) = fl 16 (fun j => ib (gb Z j)) Z (j + 1)) := ⟨fl_succ 16 (fun j => ib (gb Z j)) Z j hlj⟩
            have ST := Kp.mk st
            clear st
            generalize gb Z j = x at *
            go_wp2_with fail
            go_roundw
            case rel =>
              refine ⟨j + 1, by omega, by go_num, ?_⟩
              rw [← HFL.out]
              exact ST.out.cell j _
            case measure => simp [intOf]; omega
          · obtain rfl : j = 16 := by omega
            rw [fl_end, HE.out, HZ.out] at st
            go_wp2_with fail
            go_roundw
            case rel => exact ⟨i - 1, by omega, by rw [show ((i - 1 : Nat) : Int) = (i : Int) - 1 by omega], st⟩
            case measure => simp [intOf]; omega
    · obtain rfl : i = 0 := by omega
      have hXl := dec_len (ks key) b HB.out 10
      have hXd : decL (ks key) b = xorL (dec (ks key) b 10) (ks key 0) := rfl
      have hst : Dec w g h key (dec (ks key) b 10) wr := st
      have hk0 : Rge wr (g + 1) 0 (ks key 0) := by simpa using kA_rge HK.out hst.e.k 0 (by omega)
      have HXD := Kp.mk hXd
      clear st hXd
      generalize dec (ks key) b 10 = X at *
      go_wp2_with (first | (go_at_call 36; refine (added_any X (ks key 0) _ hXl (ks_len key HK.out 0)).mono ?_; rintro e w1 ⟨rfl, hx1⟩; replace hst := hst.ext hx1) | (with_reducible refine at_load_to 37 2 ?_; refine wpList_load_rge rfl sq (.tmp 2) rfl g 0 X hst.e.b.rge rfl _ Tryd.underlying50 rfl (szQ _ hXl) ?_) | (with_reducible refine at_load_to 39 38 ?_; refine wpList_load_rge rfl sq (.tmp 38) rfl (g + 1) 0 (ks key 0) hk0 rfl _ Tryd.underlying50 rfl (szQ _ (ks_len key HK.out 0)) ?_) | (with_reducible refine at_store 4 40 ?_; refine wpList_store_blk rfl sq (.tmp 4) (.tmp 40) rfl (g + 1 + 1) (xorL X (ks key 0)) (zb 16) sq hst.e.r ((xorL_len _ _).trans (zb_len 16).symm) rfl rfl (szQ _ (xorL_len _ _)) ?_) | fail)
      refine bodyPost_ret (v := .agg (bv (xorL X (ks key 0)))) ?_ rfl ⟨by rw [HXD.out], Ext.setRow hst.e.x (show w.heap.size ≤ g + 1 + 1 by have := hst.e.h; omega) _⟩
      exact results_cell_row rfl _ _ (g + 1 + 1) sq _ (0, 0) _ rfl (hst.e.r.row _).h Tryd.underlying50 rfl (szQ _ (xorL_len _ _))
end Go.Proofs.YtjjoghdlbnlicaaDoor
