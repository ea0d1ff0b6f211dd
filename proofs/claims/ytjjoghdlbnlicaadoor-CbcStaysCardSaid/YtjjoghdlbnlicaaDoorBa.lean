/-
  The walks of encrypted and decrypted.
-/
import Derived.Test.YtjjoghdlbnlicaaDoorAz
namespace Go.Proofs.YtjjoghdlbnlicaaDoor
open Go Go.RowKit

theorem kA_rge {w : World} {g : Nat} {key : List (BitVec 8)} (hk : key.length = 16) (h : Blk w g ka (bv (kA key))) (m : Nat) (hm : m ≤ 10) : Rge w g (m * 16) (ks key m) :=
  ⟨h.piece _ _ (fun j hj => by rw [ks_len key hk] at hj; rw [Nat.mul_comm]; exact kA_piece key m j hj hm) (by rw [kA_len, ks_len key hk]; omega)⟩
theorem enc_next (K : Nat → List (BitVec 8)) (b : List (BitVec 8)) (n : Nat) (m : Bool) (h : decide (n + 1 < 10) = m) : xorL (mf m (shL 1 (subL (enc K b n)))) (K (n + 1)) = enc K b (n + 1) := by
  subst h; rfl

abbrev z16 : Array Value := #[.int .u8 0, .int .u8 0, .int .u8 0, .int .u8 0, .int .u8 0, .int .u8 0, .int .u8 0, .int .u8 0, .int .u8 0, .int .u8 0, .int .u8 0, .int .u8 0, .int .u8 0, .int .u8 0, .int .u8 0, .int .u8 0]
/-- what encrypting, or decrypting, holds: the block, the keys, room for the answer -/
structure Enc (w : World) (g : Nat) (key X : List (BitVec 8)) (wr : World) : Prop where
  b : Blk wr g sq (bv X)
  k : Blk wr (g + 1) ka (bv (kA key))
  r : Blk wr (g + 1 + 1) sq (bv (zb 16))
  x : Ext w wr
  h : w.heap.size ≤ g
theorem Enc.ext {w wr w' : World} {g : Nat} {key X : List (BitVec 8)} (h : Enc w g key X wr) (hx : Ext wr w') : Enc w g key X w' := ⟨h.b.ext hx, h.k.ext hx, h.r.ext hx, h.x.trans hx, h.h⟩
theorem Enc.set {w wr : World} {g : Nat} {key X : List (BitVec 8)} (h : Enc w g key X wr) (Y : List (BitVec 8)) : Enc w g key Y (wr.setRow g (bv Y)) :=
  ⟨h.b.row _, h.k.rowfar (by omega) _, h.r.rowfar (by omega) _, h.x.setRow h.h _, h.h⟩
theorem mf_one (b : List (BitVec 8)) : mf true b = mulL b := rfl

set_option maxHeartbeats 4000000 in
theorem encrypted_any (key b : List (BitVec 8)) (w : World) (hb : b.length = 16) (hk : key.length = 16) (hw : Lay3 w) :
    Calls Tryd.prog 32 #[.agg (bv b), .agg (bv (kA key))] w fun e w' => e = .returned (.agg (bv (encL (ks key) b))) ∧ Ext w w' := by
  go_enter Tryd.func32, Tryd.ntmps32
  have st : Enc w w.heap.size key b (((w.alloc (.cells (bv b) sq)).alloc (.cells (bv (kA key)) ka)).alloc (.cells z16 sq)) := ⟨⟨(by (repeat (first | (with_reducible apply Has.drew) | exact Has.new _ _ _ _ (by first | (simp; done) | fail) | (with_reducible apply Has.alloc))); first | done | fail)⟩, ⟨(by (repeat (first | (with_reducible apply Has.drew) | exact Has.new _ _ _ _ (by first | (simp; done) | fail) | (with_reducible apply Has.alloc))); first | done | fail)⟩, ⟨(by (repeat (first | (with_reducible apply Has.drew) | exact Has.new _ _ _ _ (by first | (simp; done) | fail) | (with_reducible apply Has.alloc))); first | done | fail)⟩, (by (repeat (first | assumption | exact Ext.refl _ | apply Ext.drew | apply Ext.drewN | apply Ext.alloc | refine Ext.trans ?_ (by assumption))); first | done | fail), Nat.le_refl _⟩
  have hk0 : Rge (((w.alloc (.cells (bv b) sq)).alloc (.cells (bv (kA key)) ka)).alloc (.cells z16 sq)) (w.heap.size + 1) 0 (ks key 0) := by simpa using kA_rge hk st.k 0 (by omega)
  go_wp2_with (first | (go_at_call 36; refine (added_any b (ks key 0) _ hb (ks_len key hk 0)).mono ?_; rintro e w1 ⟨rfl, hx1⟩; have st1 := st.ext hx1) | (with_reducible refine at_load_to 6 2 ?_; refine wpList_load_rge rfl sq (.tmp 2) rfl w.heap.size 0 b st.b.rge rfl _ Tryd.underlying50 rfl (szQ _ hb) ?_) | (with_reducible refine at_load_to 8 7 ?_; refine wpList_load_rge rfl sq (.tmp 7) rfl (w.heap.size + 1) 0 (ks key 0) hk0 rfl _ Tryd.underlying50 rfl (szQ _ (ks_len key hk 0)) ?_) | (with_reducible refine at_store 2 9 ?_; refine wpList_store_blk rfl sq (.tmp 2) (.tmp 9) rfl w.heap.size (xorL b (ks key 0)) b sq st1.b (by rw [hb, xorL_len]) rfl rfl (szQ _ (xorL_len _ _)) ?_) | fail)
  have st2 := st1.set (xorL b (ks key 0))
  change Code.wp _ _ _ _ (World.setRow w1 w.heap.size (bv (xorL b (ks key 0))))
  clear st st1 hx1 hk0 hb
  generalize World.setRow w1 w.heap.size (bv (xorL b (ks key 0))) = w0 at *
  obtain ⟨g, hg⟩ : ∃ g, g = w.heap.size := ⟨_, rfl⟩
  rw [← hg] at st2 ⊢
  have HK := Kp.mk hk
  have HW := Kp.mk hw
  clear hg hk hw
  go_loopw [5] (fun iv wr => ∃ n : Nat, n ≤ 10 ∧ iv = .int .i64 ((n : Int) + 1) ∧ Enc w g key (enc (ks key) b n) wr) (fun i _ => 11 - (intOf i).toNat)
  case atStart => exact ⟨0, by omega, rfl, st2⟩
  case round =>
    clear st2
    obtain ⟨n, hn, rfl, st⟩ := hrel
    by_cases hlt : n < 10
    · have b1 : (n : Int) + 1 ≤ 10 := by omega
      have b3 : (0 : Int) ≤ (n : Int) + 1 := by omega
      have b4 : (n : Int) + 1 < 11 := by omega
      have hXl := enc_len (ks key) b n
      have HN : Kp (∀ m, decide (n + 1 < 10) = m → xorL (mf m (shL 1 (subL (enc (ks key) b n)))) (ks key (n + 1)) = enc (ks key) b (n + 1)) := ⟨enc_next (ks key) b n⟩
      generalize enc (ks key) b n = X at *
      by_cases h9 : n + 1 < 10
      · have b2 : (n : Int) + 1 < 10 := by omega
        go_wp2_with (first | (go_at_call 44; refine (substituted_any X _ hXl (HW.out.ext st.x)).mono ?_; rintro e w1 ⟨rfl, hx1⟩) | (go_at_call 38; refine (shifted_any (subL X) _ (subL_len _)).mono ?_; rintro e w2 ⟨rfl, hx2⟩; have st2 := (st.ext hx1).ext hx2) | (go_at_call 37; refine (multiplied_any (shL 1 (subL X)) _ (shL_len _ _)).mono ?_; rintro e w4 ⟨rfl, hx4⟩; have st4 := st3.ext hx4) | (with_reducible refine at_load_to 14 2 ?_; refine wpList_load_rge rfl sq (.tmp 2) rfl g 0 X st.b.rge rfl _ Tryd.underlying50 rfl (szQ _ hXl) ?_) | (with_reducible refine at_store 2 16 ?_; refine wpList_store_blk rfl sq (.tmp 2) (.tmp 16) rfl g (shL 1 (subL X)) X sq st2.b (by rw [hXl, shL_len]) rfl rfl (szQ _ (shL_len _ _)) ?_; have st3 := st2.set (shL 1 (subL X)); generalize World.setRow w2 g (bv (shL 1 (subL X))) = w3 at *) | (with_reducible refine at_load_to 19 2 ?_; refine wpList_load_rge rfl sq (.tmp 2) rfl g 0 (shL 1 (subL X)) st3.b.rge rfl _ Tryd.underlying50 rfl (szQ _ (shL_len _ _)) ?_) | (with_reducible refine at_store 2 20 ?_; refine wpList_store_blk rfl sq (.tmp 2) (.tmp 20) rfl g (mulL (shL 1 (subL X))) _ sq st4.b (by rw [mulL_len, shL_len]) rfl rfl (szQ _ (mulL_len _)) ?_; have st5 := st4.set (mulL (shL 1 (subL X))); generalize World.setRow w4 g (bv (mulL (shL 1 (subL X)))) = w5 at *) | fail)
        have stD := st5.ext (Ext.refl _).drew
        have hR1 := kA_rge HK.out stD.k (n + 1) (by omega)
        refine wp_region_held_drew (S := fun w' => Ext w w') (by kernel_rfl) st5.x.drew (fun hHeld => ?_)
        refine wpAnyH_take (i := 1) (oi := ⟨some 22, _, _, _, _, _⟩) (v := ?_) rfl (by kernel_rfl) (by kernel_rfl) (by kernel_rfl) (fun _ _ _ h => h) (Or.inl ⟨by rfl, ?_⟩) (by assumption) ?_
        rotate_left
        · (intro w hSw; (try dsimp only at hSw); go_simp; try with_reducible rfl)
        try simp only [Act.put, List.setIfInBounds_toArray, List.set_cons_zero, List.set_cons_succ]
        refine wpAnyH_take (i := 2) (oi := ⟨some 23, _, _, _, _, _⟩) (v := ?_) rfl (by kernel_rfl) (by kernel_rfl) (by kernel_rfl) (fun _ _ _ h => h) (Or.inl ⟨by rfl, ?_⟩) (by assumption) ?_
        rotate_left
        · (intro w hSw; (try dsimp only at hSw); go_simp; try with_reducible rfl)
        try simp only [Act.put, List.setIfInBounds_toArray, List.set_cons_zero, List.set_cons_succ]
        refine next_two 0 3 (by kernel_rfl) rfl rfl (by rfl) (by rfl) (fun K' HK' => ?_) (fun K' HK' => ?_)
        · refine wp_load_rge sq (.tmp 2) rfl g 0 (mulL (shL 1 (subL X))) stD.b.rge rfl _ Tryd.underlying50 rfl (szQ _ (mulL_len _)) ?_
          refine held_go HK' stD.x (fun hHeld => ?_)
          clear HK'
          try simp only [Act.put, List.setIfInBounds_toArray, List.set_cons_zero, List.set_cons_succ]
          refine next_one 3 (by kernel_rfl) rfl (by rfl) fun K' HK' => ?_
          refine wp_load_rge sq (.tmp 23) rfl (g + 1) ((n + 1) * 16) (ks key (n + 1)) hR1 rfl _ Tryd.underlying50 rfl (szQ _ (ks_len key HK.out _)) ?_
          refine held_go HK' stD.x (fun hHeld => ?_)
          clear HK'
          try simp only [Act.put, List.setIfInBounds_toArray, List.set_cons_zero, List.set_cons_succ]
          refine next_one 4 (by kernel_rfl) rfl (by rfl) fun K' HK' => ?_
          go_simp
          refine (added_any (mulL (shL 1 (subL X))) (ks key (n + 1)) _ (mulL_len _) (ks_len key HK.out _)).mono ?_
          rintro e w6 ⟨rfl, hx6⟩
          have st6 := stD.ext hx6
          refine held_go HK' st6.x (fun hHeld => ?_)
          clear HK'
          try simp only [Act.put, List.setIfInBounds_toArray, List.set_cons_zero, List.set_cons_succ]
          refine next_one 5 (by kernel_rfl) rfl (by rfl) fun K' HK' => ?_
          refine wp_store_blk sq (.tmp 2) (.tmp 25) rfl g (xorL (mulL (shL 1 (subL X))) (ks key (n + 1))) (mulL (shL 1 (subL X))) sq st6.b (by rw [(mulL_len _), xorL_len]) rfl rfl (szQ _ (xorL_len _ _)) ?_
          have st7 := st6.set (xorL (mulL (shL 1 (subL X))) (ks key (n + 1)))
          refine held_go HK' st7.x (fun hHeld => ?_)
          clear HK'
          try simp only [Act.put, List.setIfInBounds_toArray, List.set_cons_zero, List.set_cons_succ]
          refine wpAnyH_done (by kernel_rfl) ?_ _
          go_wp2_with fail
          go_roundw
          case rel =>
            refine ⟨n + 1, by omega, by go_num, ?_⟩
            rw [← HN.out true (by simp [h9])]
            exact st7
          case measure => simp [intOf]; omega
        · refine wp_load_rge sq (.tmp 23) rfl (g + 1) ((n + 1) * 16) (ks key (n + 1)) hR1 rfl _ Tryd.underlying50 rfl (szQ _ (ks_len key HK.out _)) ?_
          refine held_go HK' stD.x (fun hHeld => ?_)
          clear HK'
          try simp only [Act.put, List.setIfInBounds_toArray, List.set_cons_zero, List.set_cons_succ]
          refine next_one 0 (by kernel_rfl) rfl (by rfl) fun K' HK' => ?_
          refine wp_load_rge sq (.tmp 2) rfl g 0 (mulL (shL 1 (subL X))) stD.b.rge rfl _ Tryd.underlying50 rfl (szQ _ (mulL_len _)) ?_
          refine held_go HK' stD.x (fun hHeld => ?_)
          clear HK'
          try simp only [Act.put, List.setIfInBounds_toArray, List.set_cons_zero, List.set_cons_succ]
          refine next_one 4 (by kernel_rfl) rfl (by rfl) fun K' HK' => ?_
          go_simp
          refine (added_any (mulL (shL 1 (subL X))) (ks key (n + 1)) _ (mulL_len _) (ks_len key HK.out _)).mono ?_
          rintro e w6 ⟨rfl, hx6⟩
          have st6 := stD.ext hx6
          refine held_go HK' st6.x (fun hHeld => ?_)
          clear HK'
          try simp only [Act.put, List.setIfInBounds_toArray, List.set_cons_zero, List.set_cons_succ]
          refine next_one 5 (by kernel_rfl) rfl (by rfl) fun K' HK' => ?_
          refine wp_store_blk sq (.tmp 2) (.tmp 25) rfl g (xorL (mulL (shL 1 (subL X))) (ks key (n + 1))) (mulL (shL 1 (subL X))) sq st6.b (by rw [(mulL_len _), xorL_len]) rfl rfl (szQ _ (xorL_len _ _)) ?_
          have st7 := st6.set (xorL (mulL (shL 1 (subL X))) (ks key (n + 1)))
          refine held_go HK' st7.x (fun hHeld => ?_)
          clear HK'
          try simp only [Act.put, List.setIfInBounds_toArray, List.set_cons_zero, List.set_cons_succ]
          refine wpAnyH_done (by kernel_rfl) ?_ _
          go_wp2_with fail
          go_roundw
          case rel =>
            refine ⟨n + 1, by omega, by go_num, ?_⟩
            rw [← HN.out true (by simp [h9])]
            exact st7
          case measure => simp [intOf]; omega
      · have b2 : ¬ (n : Int) + 1 < 10 := by omega
        go_wp2_with (first | (go_at_call 44; refine (substituted_any X _ hXl (HW.out.ext st.x)).mono ?_; rintro e w1 ⟨rfl, hx1⟩) | (go_at_call 38; refine (shifted_any (subL X) _ (subL_len _)).mono ?_; rintro e w2 ⟨rfl, hx2⟩; have st2 := (st.ext hx1).ext hx2) | (with_reducible refine at_load_to 14 2 ?_; refine wpList_load_rge rfl sq (.tmp 2) rfl g 0 X st.b.rge rfl _ Tryd.underlying50 rfl (szQ _ hXl) ?_) | (with_reducible refine at_store 2 16 ?_; refine wpList_store_blk rfl sq (.tmp 2) (.tmp 16) rfl g (shL 1 (subL X)) X sq st2.b (by rw [hXl, shL_len]) rfl rfl (szQ _ (shL_len _ _)) ?_; have st3 := st2.set (shL 1 (subL X)); generalize World.setRow w2 g (bv (shL 1 (subL X))) = w3 at *) | fail)
        have stD := st3.ext (Ext.refl _).drew
        have hR1 := kA_rge HK.out stD.k (n + 1) (by omega)
        refine wp_region_held_drew (S := fun w' => Ext w w') (by kernel_rfl) st3.x.drew (fun hHeld => ?_)
        refine wpAnyH_take (i := 1) (oi := ⟨some 22, _, _, _, _, _⟩) (v := ?_) rfl (by kernel_rfl) (by kernel_rfl) (by kernel_rfl) (fun _ _ _ h => h) (Or.inl ⟨by rfl, ?_⟩) (by assumption) ?_
        rotate_left
        · (intro w hSw; (try dsimp only at hSw); go_simp; try with_reducible rfl)
        try simp only [Act.put, List.setIfInBounds_toArray, List.set_cons_zero, List.set_cons_succ]
        refine wpAnyH_take (i := 2) (oi := ⟨some 23, _, _, _, _, _⟩) (v := ?_) rfl (by kernel_rfl) (by kernel_rfl) (by kernel_rfl) (fun _ _ _ h => h) (Or.inl ⟨by rfl, ?_⟩) (by assumption) ?_
        rotate_left
        · (intro w hSw; (try dsimp only at hSw); go_simp; try with_reducible rfl)
        try simp only [Act.put, List.setIfInBounds_toArray, List.set_cons_zero, List.set_cons_succ]
        refine next_two 0 3 (by kernel_rfl) rfl rfl (by rfl) (by rfl) (fun K' HK' => ?_) (fun K' HK' => ?_)
        · refine wp_load_rge sq (.tmp 2) rfl g 0 (shL 1 (subL X)) stD.b.rge rfl _ Tryd.underlying50 rfl (szQ _ (shL_len _ _)) ?_
          refine held_go HK' stD.x (fun hHeld => ?_)
          clear HK'
          try simp only [Act.put, List.setIfInBounds_toArray, List.set_cons_zero, List.set_cons_succ]
          refine next_one 3 (by kernel_rfl) rfl (by rfl) fun K' HK' => ?_
          refine wp_load_rge sq (.tmp 23) rfl (g + 1) ((n + 1) * 16) (ks key (n + 1)) hR1 rfl _ Tryd.underlying50 rfl (szQ _ (ks_len key HK.out _)) ?_
          refine held_go HK' stD.x (fun hHeld => ?_)
          clear HK'
          try simp only [Act.put, List.setIfInBounds_toArray, List.set_cons_zero, List.set_cons_succ]
          refine next_one 4 (by kernel_rfl) rfl (by rfl) fun K' HK' => ?_
          go_simp
          refine (added_any (shL 1 (subL X)) (ks key (n + 1)) _ (shL_len _ _) (ks_len key HK.out _)).mono ?_
          rintro e w6 ⟨rfl, hx6⟩
          have st6 := stD.ext hx6
          refine held_go HK' st6.x (fun hHeld => ?_)
          clear HK'
          try simp only [Act.put, List.setIfInBounds_toArray, List.set_cons_zero, List.set_cons_succ]
          refine next_one 5 (by kernel_rfl) rfl (by rfl) fun K' HK' => ?_
          refine wp_store_blk sq (.tmp 2) (.tmp 25) rfl g (xorL (shL 1 (subL X)) (ks key (n + 1))) (shL 1 (subL X)) sq st6.b (by rw [(shL_len _ _), xorL_len]) rfl rfl (szQ _ (xorL_len _ _)) ?_
          have st7 := st6.set (xorL (shL 1 (subL X)) (ks key (n + 1)))
          refine held_go HK' st7.x (fun hHeld => ?_)
          clear HK'
          try simp only [Act.put, List.setIfInBounds_toArray, List.set_cons_zero, List.set_cons_succ]
          refine wpAnyH_done (by kernel_rfl) ?_ _
          go_wp2_with fail
          go_roundw
          case rel =>
            refine ⟨n + 1, by omega, by go_num, ?_⟩
            rw [← HN.out false (by simp [h9])]
            exact st7
          case measure => simp [intOf]; omega
        · refine wp_load_rge sq (.tmp 23) rfl (g + 1) ((n + 1) * 16) (ks key (n + 1)) hR1 rfl _ Tryd.underlying50 rfl (szQ _ (ks_len key HK.out _)) ?_
          refine held_go HK' stD.x (fun hHeld => ?_)
          clear HK'
          try simp only [Act.put, List.setIfInBounds_toArray, List.set_cons_zero, List.set_cons_succ]
          refine next_one 0 (by kernel_rfl) rfl (by rfl) fun K' HK' => ?_
          refine wp_load_rge sq (.tmp 2) rfl g 0 (shL 1 (subL X)) stD.b.rge rfl _ Tryd.underlying50 rfl (szQ _ (shL_len _ _)) ?_
          refine held_go HK' stD.x (fun hHeld => ?_)
          clear HK'
          try simp only [Act.put, List.setIfInBounds_toArray, List.set_cons_zero, List.set_cons_succ]
          refine next_one 4 (by kernel_rfl) rfl (by rfl) fun K' HK' => ?_
          go_simp
          refine (added_any (shL 1 (subL X)) (ks key (n + 1)) _ (shL_len _ _) (ks_len key HK.out _)).mono ?_
          rintro e w6 ⟨rfl, hx6⟩
          have st6 := stD.ext hx6
          refine held_go HK' st6.x (fun hHeld => ?_)
          clear HK'
          try simp only [Act.put, List.setIfInBounds_toArray, List.set_cons_zero, List.set_cons_succ]
          refine next_one 5 (by kernel_rfl) rfl (by rfl) fun K' HK' => ?_
          refine wp_store_blk sq (.tmp 2) (.tmp 25) rfl g (xorL (shL 1 (subL X)) (ks key (n + 1))) (shL 1 (subL X)) sq st6.b (by rw [(shL_len _ _), xorL_len]) rfl rfl (szQ _ (xorL_len _ _)) ?_
          have st7 := st6.set (xorL (shL 1 (subL X)) (ks key (n + 1)))
          refine held_go HK' st7.x (fun hHeld => ?_)
          clear HK'
          try simp only [Act.put, List.setIfInBounds_toArray, List.set_cons_zero, List.set_cons_succ]
          refine wpAnyH_done (by kernel_rfl) ?_ _
          go_wp2_with fail
          go_roundw
          case rel =>
            refine ⟨n + 1, by omega, by go_num, ?_⟩
            rw [← HN.out false (by simp [h9])]
            exact st7
          case measure => simp [intOf]; omega
    · obtain rfl : n = 10 := by omega
      have hXl := encL_len (ks key) b
      have hst : Enc w g key (encL (ks key) b) wr := st
      clear st
      go_wp2_with (first | (with_reducible refine at_load_to 26 2 ?_; refine wpList_load_rge rfl sq (.tmp 2) rfl g 0 (encL (ks key) b) hst.b.rge rfl _ Tryd.underlying50 rfl (szQ _ hXl) ?_) | (with_reducible refine at_store 4 26 ?_; refine wpList_store_blk rfl sq (.tmp 4) (.tmp 26) rfl (g + 1 + 1) (encL (ks key) b) (zb 16) sq hst.r (hXl.trans (zb_len 16).symm) rfl rfl (szQ _ hXl) ?_) | fail)
      refine bodyPost_ret (v := .agg (bv (encL (ks key) b))) ?_ rfl ⟨rfl, Ext.setRow hst.x (show w.heap.size ≤ g + 1 + 1 by have := hst.h; omega) _⟩
      exact results_cell_row rfl _ _ (g + 1 + 1) sq _ (0, 0) _ rfl (hst.r.row _).h Tryd.underlying50 rfl (szQ _ hXl)
end Go.Proofs.YtjjoghdlbnlicaaDoor
