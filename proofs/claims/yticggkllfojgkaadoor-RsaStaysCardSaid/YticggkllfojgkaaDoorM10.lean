/-
  Numbers that are handed on, by their values; what the rows' readings give.
  The reference's Add, Sub.
  The reference's Same (where it holds), May.
  The reference's Mul.
-/
import Derived.Test.YticggkllfojgkaaDoorM9
import Derived.Test.YticggkllfojgkaaDoorM2
import Derived.Laws.MakeOwn
namespace Go.Proofs.YticggkllfojgkaaDoor
open Go Go.ChangeShapes Go.WideShapes Go.ChangeAt Go.RowKit
set_option maxRecDepth 4000

/-- a slice of limbs that reads as a number -/
def Nv (w : World) (A : Option Addr) (n c v : Nat) : Prop := ∃ a, In1 w A n c a ∧ vl BB a = v
theorem Nv.ext {w w' : World} {A : Option Addr} {n c v : Nat} (h : Nv w A n c v) (hx : Ext w w') : Nv w' A n c v := by
  obtain ⟨a, ha, e⟩ := h
  exact ⟨a, ha.ext hx, e⟩
theorem Nv.nil (w : World) : Nv w none 0 0 0 := ⟨[], ⟨Rd.nil w, Dg.nil _, by omega⟩, rfl⟩
theorem nl_le {v k : Nat} (h : v < BB ^ k) : nl v ≤ k := by
  by_cases h0 : v = 0
  · subst h0; exact Nat.zero_le _
  · have hc := cn_dgs (B := BB) (by decide) v
    have h1 := cn_lo (by decide) hc (fun e => h0 ((dgs_nil (by decide) v).1 e))
    rw [vl_dgs (by decide)] at h1
    show (dgs BB v).length ≤ k
    rcases Nat.lt_or_ge k (dgs BB v).length with h2 | h2
    · have h3 := Nat.pow_le_pow_right (n := BB) (by decide) (show k ≤ (dgs BB v).length - 1 by omega)
      omega
    · exact h2
theorem short_of {v k : Nat} (h : v < BB ^ k) (hk : k ≤ 64) : ¬ lng v := by
  have := nl_le h
  unfold lng
  omega
theorem Nv.of {w : World} {B n c v : Nat} {A : Option Addr} (h : Rw ut vL w B (.slice A n c) n (dgs BB v)) (hs : ¬ lng v) : Nv w A n c v := by
  refine ⟨dgs BB v, ⟨h.rd, (cn_dgs (by decide) v).d, ?_⟩, vl_dgs (by decide) v⟩
  have h1 := h.len
  have h2 : nl v ≤ 64 := Nat.le_of_not_lt hs
  unfold nl at h2
  omega
theorem Nv.small {w : World} {A : Option Addr} {n c : Nat} {a : List Nat} (h : Rd vL w A n c a) (hd : Dg BB a) (hn : n ≤ 1000000) : Nv w A n c (vl BB a) := ⟨a, ⟨h, hd, hn⟩, rfl⟩
theorem vl_len {w : World} {A : Option Addr} {n c : Nat} {a : List Nat} (h : Rd vL w A n c a) (hd : Dg BB a) : vl BB a < BB ^ n := by
  have := vl_lt (by decide) hd
  rwa [h.len] at this
theorem lt_add {x y j k m : Nat} (hx : x < BB ^ j) (hy : y < BB ^ k) (hj : j < m) (hk : k < m) : x + y < BB ^ m := by
  obtain ⟨q, rfl⟩ : ∃ q, m = q + 1 := ⟨m - 1, by omega⟩
  have h1 : BB ^ j ≤ BB ^ q := Nat.pow_le_pow_right (by decide) (by omega)
  have h2 : BB ^ k ≤ BB ^ q := Nat.pow_le_pow_right (by decide) (by omega)
  have h3 : BB ^ q * 2 ≤ BB ^ q * BB := Nat.mul_le_mul_left _ (by decide)
  rw [Nat.pow_succ]
  omega
theorem lt_mul {x y j k m : Nat} (hx : x < BB ^ j) (hy : y < BB ^ k) (hm : j + k ≤ m) : x * y < BB ^ m := by
  have h1 : x * y < BB ^ j * BB ^ k := Nat.mul_lt_mul_of_lt_of_le hx (Nat.le_of_lt hy) (Nat.pow_pos (by decide))
  rw [← Nat.pow_add] at h1
  exact Nat.lt_of_lt_of_le h1 (Nat.pow_le_pow_right (by decide) hm)
theorem cmpI_same {a b : Nat} (h : a = b) : cmpI a b = 0 := by rw [h, cmpI_eq]
section
variable {w : World} {A B E : Option Addr} {n c m d k ec va vb ve : Nat}
theorem AddV (ha : Nv w A n c va) (hb : Nv w B m d vb) (h1 : ¬ lng va) (h2 : ¬ lng vb) : Calls Tryd.prog 59 #[.slice A n c, .slice B m d] w (Ok1 w (va + vb)) := by
  obtain ⟨a, ha, rfl⟩ := ha
  obtain ⟨b, hb, rfl⟩ := hb
  exact Add_ok ha hb h1 h2
theorem MulV (ha : Nv w A n c va) (hb : Nv w B m d vb) (h1 : ¬ lng va) (h2 : ¬ lng vb) : Calls Tryd.prog 56 #[.slice A n c, .slice B m d] w (Ok1 w (va * vb)) := by
  obtain ⟨a, ha, rfl⟩ := ha
  obtain ⟨b, hb, rfl⟩ := hb
  exact Mul_ok ha hb h1 h2
theorem SubV (ha : Nv w A n c va) (hb : Nv w B m d vb) (h1 : ¬ lng va) (h2 : ¬ lng vb) (h : vb ≤ va) : Calls Tryd.prog 75 #[.slice A n c, .slice B m d] w (Ok1 w (va - vb)) := by
  obtain ⟨a, ha, rfl⟩ := ha
  obtain ⟨b, hb, rfl⟩ := hb
  exact Sub_ok ha hb h1 h2 h
theorem SubVlow (ha : Nv w A n c va) (hb : Nv w B m d vb) (h1 : ¬ lng va) (h2 : ¬ lng vb) (h : va < vb) : Calls Tryd.prog 75 #[.slice A n c, .slice B m d] w (Bad1 w 1) := by
  obtain ⟨a, ha, rfl⟩ := ha
  obtain ⟨b, hb, rfl⟩ := hb
  exact Sub_low ha hb h1 h2 h
theorem ExpV (ha : Nv w A n c va) (he : Nv w E k ec ve) (hb : Nv w B m d vb) (h1 : ¬ lng va) (h2 : ¬ lng ve) (h3 : ¬ lng vb) (h : vb ≠ 0) : Calls Tryd.prog 47 #[.slice A n c, .slice E k ec, .slice B m d] w (Ok1 w (va ^ ve % vb)) := by
  obtain ⟨a, ha, rfl⟩ := ha
  obtain ⟨b, hb, rfl⟩ := hb
  obtain ⟨x, he, rfl⟩ := he
  exact Exp_ok ha he hb h1 h2 h3 h
theorem ExpV0 (ha : Nv w A n c va) (he : Nv w E k ec ve) (hb : Nv w B m d 0) (h1 : ¬ lng va) (h2 : ¬ lng ve) : Calls Tryd.prog 47 #[.slice A n c, .slice E k ec, .slice B m d] w (Bad1 w 1) := by
  obtain ⟨a, ha, rfl⟩ := ha
  obtain ⟨b, hb, h⟩ := hb
  obtain ⟨x, he, rfl⟩ := he
  exact Exp_zero ha he hb h1 h2 h
theorem InvV (ha : Nv w A n c va) (hb : Nv w B m d vb) (h1 : ¬ lng va) (h2 : ¬ lng vb) (h : 2 ≤ vb) : Calls Tryd.prog 58 #[.slice A n c, .slice B m d] w (InvR w va vb) := by
  obtain ⟨a, ha, rfl⟩ := ha
  obtain ⟨b, hb, rfl⟩ := hb
  exact Inv_ok ha hb h1 h2 h
theorem InvVlow (ha : Nv w A n c va) (hb : Nv w B m d vb) (h1 : ¬ lng va) (h2 : ¬ lng vb) (h : vb < 2) : Calls Tryd.prog 58 #[.slice A n c, .slice B m d] w (Bad1 w 1) := by
  obtain ⟨a, ha, rfl⟩ := ha
  obtain ⟨b, hb, rfl⟩ := hb
  exact Inv_low ha hb h1 h2 h
theorem CmpV (ha : Nv w A n c va) (hb : Nv w B m d vb) (z : Int) (hz : cmpI va vb = z) : Calls Tryd.prog 43 #[.slice A n c, .slice B m d] w fun e w' => e = .returned (.int .i64 z) ∧ Ext w w' := by
  obtain ⟨a, ha, rfl⟩ := ha
  obtain ⟨b, hb, rfl⟩ := hb
  subst hz
  exact CmpN_any ha.r hb.r ha.d hb.d (by have := ha.n; omega) (by have := hb.n; omega)
end
/-- a slice of limbs that came in -/
theorem open_nat {H : Type} {enc : TypeId × Value → H} {P : Program} {w : World} {held : Bool} {t e base' : Nat} {v : Value} {d : DataW H} {p : List MemPlace} (ht : P.underlying t = some (.slice e)) (he : P.underlying e = some (.int .u32)) (hce : P.cellsOf e = 1)
    (hv : Value.okWide P w .any base' t v) (h : DataW.Trod enc P w 0 (fun _ => true) held t v d p) : ∃ A n c l, v = .slice A n c ∧ Rd vL w A n c l ∧ Dg BB l ∧ c ≤ maxLen := by
  obtain ⟨a0, len, cap, rfl⟩ := okWide_slice ht hv
  obtain ⟨fuel, hf⟩ := h
  rcases open_ints ht he hce hf with ⟨hcs, _⟩ | ⟨a, len', cap', zs, hcs, _, hl, hm, hz, _, hcell, hwz⟩
  · simp [Value.cells] at hcs
    obtain ⟨rfl, rfl, rfl⟩ := hcs
    exact ⟨none, 0, 0, [], rfl, Rd.nil _, Dg.nil _, Nat.zero_le _⟩
  · simp [Value.cells] at hcs
    obtain ⟨rfl, rfl, rfl⟩ := hcs
    simp only [if_true] at hz
    refine ⟨some a, len, cap, (zs.map Int.toNat).take len, rfl, ⟨by rw [List.length_take, List.length_map]; omega, hl, (fun e => by cases e), fun hn => ?_⟩, fun x hx => ?_, hm⟩
    · obtain ⟨b, off, rfl, hc⟩ := ints_at hcell (by omega)
      refine ⟨b, off, rfl, fun j x hj => ?_⟩
      have hjn : j < len := by have := (List.getElem?_eq_some_iff.1 hj).1; rw [List.length_take] at this; omega
      rw [hc j (by omega)]
      rw [List.getElem?_take, if_pos hjn, List.getElem?_map, List.getElem?_eq_getElem (by omega)] at hj
      have hb := bounds_u32 (hwz zs[j] (List.getElem_mem (by omega)))
      cases hj
      simp only [List.getD_eq_getElem?_getD, List.getElem?_eq_getElem (show j < zs.length by omega), Option.getD_some, vL]
      congr 2
      omega
    · obtain ⟨y, hy, rfl⟩ := List.mem_map.1 (List.mem_of_mem_take hx)
      have hb := bounds_u32 (hwz y hy)
      show y.toNat < 4294967296
      omega
end Go.Proofs.YticggkllfojgkaaDoor
namespace Go.Proofs.YticggkllfojgkaaDoor
open Go Go.RowKit
set_option maxRecDepth 4000

theorem t_mod (x : Nat) : (x : Int).tmod 65536 = ((x % 65536 : Nat) : Int) := by
  rw [Int.tmod_eq_emod_of_nonneg (by omega)]; omega
set_option maxRecDepth 20000 in
set_option maxHeartbeats 1000000 in
theorem sub_any {a b : List Nat} {A B : Option Addr} {n c m d : Nat} {w : World} (ha : Rd vI w A n c a) (hb : Rd vI w B m d b) (da : Dg 65536 a) (db : Dg 65536 b) (hn : n ≤ 1000000000000) (hmn : m ≤ n) (hle : vl 65536 b ≤ vl 65536 a) :
    Calls Tryd.prog 94 #[.slice A n c, .slice B m d] w (FreshN w (vl 65536 a - vl 65536 b)) := by
  have hla := ha.len
  have hlb := hb.len
  have HA := Kp.mk ha
  have HB := Kp.mk hb
  have DA := Kp.mk da
  have DB := Kp.mk db
  have HLE := Kp.mk hle
  clear ha hb da db hle
  go_enter Tryd.func94, Tryd.ntmps94
  go_wp2_with fail
  go_loopw [5, 6, 7] (fun ov cv iv wr => ∃ i q : Nat, ∃ out : List Nat, i ≤ n ∧ iv = .int .i64 (i : Int) ∧ cv = .int .i64 (q : Int) ∧ SubS 65536 a b i out q ∧ (∃ A c, ov = .slice A i c) ∧ Rn wr w.heap.size ov i out ∧ Ext w wr) (fun _ _ i _ => n - (intOf i).toNat)
  case atStart => exact ⟨0, 0, [], by omega, rfl, rfl, SubS.start _ _ _, ⟨_, _, rfl⟩, Rw.nil _ _, Ext.refl _⟩
  case round =>
    obtain ⟨i, q, out, hi, rfl, rfl, hs, ⟨Ao, co, rfl⟩, ho, hx⟩ := hrel
    have hq := hs.cr
    by_cases hlt : i < n
    · obtain ⟨g, o, rfl⟩ := HA.out.some_ (by omega)
      have b0 : (i : Int) < (n : Int) := by omega
      have k1 : ∀ w', Ext wr w' → w'.cell? ⟨g, o + i, none⟩ = some (.int .i64 (dg a i : Int)) := fun w' h => (HA.out.ext (hx.trans h)).dig i hlt
      have c2 := fun (w' : World) (h : Ext wr w') => digit_any (HB.out.ext (hx.trans h)) i (i : Int) rfl
      have h1 := DA.out.at (by decide) i
      have h2 := DB.out.at (by decide) i
      have C2 := Kp.mk c2
      have b1 : ((dg a i : Nat) : Int) < 65536 := by omega
      have b2 : ((dg b i : Nat) : Int) < 65536 := by omega
      have b3 : (q : Int) ≤ 1 := by omega
      have HRO := Kp.mk ho
      have HX := Kp.mk hx
      by_cases hge : dg b i + q ≤ dg a i
      · have HN := Kp.mk (hs.keep DA.out (by decide) hge)
        have HG := Kp.mk hge
        clear hs ho hx c2 h1 h2 hq hge
        generalize dg a i = x at *
        generalize dg b i = y at *
        have e1 : IntKind.i64.wrap ((x : Int) - (y : Int)) = (x : Int) - (y : Int) := by rw [IntKind.wrap_i64]; omega
        obtain ⟨r, hr⟩ : ∃ r : Nat, x - y - q = r := ⟨_, rfl⟩
        have e2 : IntKind.i64.wrap ((x : Int) - (y : Int) - (q : Int)) = (r : Int) := by have := HG.out; rw [IntKind.wrap_i64]; omega
        rw [hr] at HN
        have b4 : (r : Int) < 65536 := by omega
        have b5 : decide ((r : Int) < 0) = false := decide_eq_false (by omega)
        clear hr
        go_wp2_with fail
        refine wp_region_held_drew (S := fun w' => Ext wr w') (by kernel_rfl) (Ext.refl wr).drew (fun hHeld => ?_)
        refine wpAnyH_take (i := 0) (oi := ⟨some 15, _, _, _, _, _⟩) (v := ?_) rfl (by kernel_rfl) (by kernel_rfl) (by kernel_rfl) (fun _ _ _ h => h) (Or.inl ⟨by rfl, ?_⟩) (by assumption) ?_
        rotate_left
        · (intro w hSw; (try dsimp only at hSw); go_simp; try with_reducible rfl)
        try simp only [Act.put, List.setIfInBounds_toArray, List.set_cons_zero, List.set_cons_succ]
        refine wpAnyH_take (i := 1) (oi := ⟨some 16, _, _, _, _, _⟩) (v := ?_) rfl (by kernel_rfl) (by kernel_rfl) (by kernel_rfl) (fun _ _ _ h => h) (Or.inl ⟨by rfl, ?_⟩) (by assumption) ?_
        rotate_left
        · (intro w hSw; (try dsimp only at hSw); go_simp; try with_reducible rfl)
        try simp only [Act.put, List.setIfInBounds_toArray, List.set_cons_zero, List.set_cons_succ]
        refine wpAnyH_take (i := 2) (oi := ⟨some 17, _, _, _, _, _⟩) (v := ?_) rfl (by kernel_rfl) (by kernel_rfl) (by kernel_rfl) (fun _ _ _ h => h) (Or.inl ⟨by rfl, ?_⟩) (by assumption) ?_
        rotate_left
        · (intro w hSw; (try dsimp only at hSw); go_simp; try with_reducible rfl)
        try simp only [Act.put, List.setIfInBounds_toArray, List.set_cons_zero, List.set_cons_succ]
        refine wpAnyH_take (i := 3) (oi := ⟨some 18, _, _, _, _, _⟩) (v := ?_) rfl (by kernel_rfl) (by kernel_rfl) (by kernel_rfl) (fun _ _ _ h => h) (Or.inl ⟨by rfl, ?_⟩) (by assumption) ?_
        rotate_left
        · (intro w hSw; (try dsimp only at hSw); go_simp; try with_reducible rfl)
        try simp only [Act.put, List.setIfInBounds_toArray, List.set_cons_zero, List.set_cons_succ]
        refine wpAnyH_take (i := 4) (oi := ⟨some 19, _, _, _, _, _⟩) (v := ?_) rfl (by kernel_rfl) (by kernel_rfl) (by kernel_rfl) (fun _ _ _ h => h) (Or.inl ⟨by rfl, ?_⟩) (by assumption) ?_
        rotate_left
        · (intro w hSw; (try dsimp only at hSw); go_simp; try with_reducible rfl)
        try simp only [Act.put, List.setIfInBounds_toArray, List.set_cons_zero, List.set_cons_succ]
        refine wpAnyH_take (i := 5) (oi := ⟨some 20, _, _, _, _, _⟩) (v := ?_) rfl (by kernel_rfl) (by kernel_rfl) (by kernel_rfl) (fun _ _ _ h => h) (Or.inl ⟨by rfl, ?_⟩) (by assumption) ?_
        rotate_left
        · (intro w hSw; (try dsimp only at hSw); go_simp; try with_reducible rfl)
        try simp only [Act.put, List.setIfInBounds_toArray, List.set_cons_zero, List.set_cons_succ]
        refine wpAnyH_take (i := 8) (oi := ⟨some 23, _, _, _, _, _⟩) (v := ?_) rfl (by kernel_rfl) (by kernel_rfl) (by kernel_rfl) (fun _ _ _ h => h) (Or.inl ⟨by rfl, ?_⟩) (by assumption) ?_
        rotate_left
        · (intro w hSw; (try dsimp only at hSw); go_simp; try with_reducible rfl)
        try simp only [Act.put, List.setIfInBounds_toArray, List.set_cons_zero, List.set_cons_succ]
        refine next_one 6 (by kernel_rfl) rfl (by rfl) fun K' HK' => ?_
        go_simp
        refine (C2.out _ (by (repeat (first | assumption | exact Ext.refl _ | apply Ext.drew | apply Ext.drewN | apply Ext.alloc | refine Ext.trans ?_ (by assumption))); first | done | fail)).mono ?_
        rintro e w2 ⟨rfl, hw2⟩
        have hx1 : Ext wr.drew w2 := by rw [hw2]; exact Ext.refl _
        have hx2 : Ext wr w2 := (Ext.refl wr).drew.trans hx1
        clear hw2
        have hS2 := Ext.trans hHeld hx1
        refine held_go HK' hS2 (fun _ => ?_)
        clear HK'
        refine held_more (S' := fun w' => Ext w2 w') (fun _ h => Ext.trans hS2 h) _ _ _ _ ?_
        clear hHeld hS2
        have hHeld : Ext w2 w2 := Ext.refl _
        try simp only [Act.put, List.setIfInBounds_toArray, List.set_cons_zero, List.set_cons_succ]
        refine wpAnyH_take (i := 7) (oi := ⟨some 22, _, _, _, _, _⟩) (v := ?_) rfl (by kernel_rfl) (by kernel_rfl) (by kernel_rfl) (fun _ _ _ h => h) (Or.inl ⟨by rfl, ?_⟩) (by assumption) ?_
        rotate_left
        · (intro w hSw; (try dsimp only at hSw); go_simp; try with_reducible rfl)
        try simp only [Act.put, List.setIfInBounds_toArray, List.set_cons_zero, List.set_cons_succ]
        refine wpAnyH_take (i := 9) (oi := ⟨some 24, _, _, _, _, _⟩) (v := ?_) rfl (by kernel_rfl) (by kernel_rfl) (by kernel_rfl) (fun _ _ _ h => h) (Or.inl ⟨by rfl, ?_⟩) (by assumption) ?_
        rotate_left
        · (intro w hSw; (try dsimp only at hSw); go_simp; try with_reducible rfl)
        try simp only [Act.put, List.setIfInBounds_toArray, List.set_cons_zero, List.set_cons_succ]
        refine wpAnyH_take (i := 10) (oi := ⟨some 8, _, _, _, _, _⟩) (v := ?_) rfl (by kernel_rfl) (by kernel_rfl) (by kernel_rfl) (fun _ _ _ h => h) (Or.inl ⟨by rfl, ?_⟩) (by assumption) ?_
        rotate_left
        · (intro w hSw; (try dsimp only at hSw); go_simp; try with_reducible rfl)
        try simp only [Act.put, List.setIfInBounds_toArray, List.set_cons_zero, List.set_cons_succ]
        refine wpAnyH_done (by kernel_rfl) ?_ _
        go_wp2_with (first | (at_builtin; refine wpList_append_I rfl (.tmp 29) (.tmp 31) rfl w.heap.size (.slice Ao i co) i out rfl ((HRO.out.ext hx2).ext (by (repeat (first | assumption | exact Ext.refl _ | apply Ext.drew | apply Ext.drewN | apply Ext.alloc | refine Ext.trans ?_ (by assumption))); first | done | fail)) _ 1 1 [r] rfl (lit1 _ _ _ rfl) (by omega) (i + 1) rfl _ rfl w ((HX.out.trans hx2).trans (by (repeat (first | assumption | exact Ext.refl _ | apply Ext.drew | apply Ext.drewN | apply Ext.alloc | refine Ext.trans ?_ (by assumption))); first | done | fail)) (Nat.le_refl _) ((HX.out.trans hx2).trans (by (repeat (first | assumption | exact Ext.refl _ | apply Ext.drew | apply Ext.drewN | apply Ext.alloc | refine Ext.trans ?_ (by assumption))); first | done | fail)).size ?_; intro A5 c5 w5 ho5 hx5 _) | fail)
        go_roundw
        case rel => exact ⟨i + 1, 0, _, by omega, by go_num, by go_num, HN.out, ⟨_, _, rfl⟩, ho5, hx5⟩
        case measure => simp [intOf]; omega
      · have HN := Kp.mk (hs.borrow DB.out (by decide) (by omega))
        have q1 : ((dg a i : Nat) : Int) - ((dg b i : Nat) : Int) - (q : Int) < 0 := by omega
        have HG := Kp.mk (show dg a i < dg b i + q by omega)
        clear hs ho hx c2 h1 h2 hq hge
        generalize dg a i = x at *
        generalize dg b i = y at *
        have e1 : IntKind.i64.wrap ((x : Int) - (y : Int)) = (x : Int) - (y : Int) := by rw [IntKind.wrap_i64]; omega
        have e2 : IntKind.i64.wrap ((x : Int) - (y : Int) - (q : Int)) = (x : Int) - (y : Int) - (q : Int) := by rw [IntKind.wrap_i64]; omega
        go_wp2_with fail
        refine wp_region_held_drew (S := fun w' => Ext wr w') (by kernel_rfl) (Ext.refl wr).drew (fun hHeld => ?_)
        refine wpAnyH_take (i := 0) (oi := ⟨some 15, _, _, _, _, _⟩) (v := ?_) rfl (by kernel_rfl) (by kernel_rfl) (by kernel_rfl) (fun _ _ _ h => h) (Or.inl ⟨by rfl, ?_⟩) (by assumption) ?_
        rotate_left
        · (intro w hSw; (try dsimp only at hSw); go_simp; try with_reducible rfl)
        try simp only [Act.put, List.setIfInBounds_toArray, List.set_cons_zero, List.set_cons_succ]
        refine wpAnyH_take (i := 1) (oi := ⟨some 16, _, _, _, _, _⟩) (v := ?_) rfl (by kernel_rfl) (by kernel_rfl) (by kernel_rfl) (fun _ _ _ h => h) (Or.inl ⟨by rfl, ?_⟩) (by assumption) ?_
        rotate_left
        · (intro w hSw; (try dsimp only at hSw); go_simp; try with_reducible rfl)
        try simp only [Act.put, List.setIfInBounds_toArray, List.set_cons_zero, List.set_cons_succ]
        refine wpAnyH_take (i := 2) (oi := ⟨some 17, _, _, _, _, _⟩) (v := ?_) rfl (by kernel_rfl) (by kernel_rfl) (by kernel_rfl) (fun _ _ _ h => h) (Or.inl ⟨by rfl, ?_⟩) (by assumption) ?_
        rotate_left
        · (intro w hSw; (try dsimp only at hSw); go_simp; try with_reducible rfl)
        try simp only [Act.put, List.setIfInBounds_toArray, List.set_cons_zero, List.set_cons_succ]
        refine wpAnyH_take (i := 3) (oi := ⟨some 18, _, _, _, _, _⟩) (v := ?_) rfl (by kernel_rfl) (by kernel_rfl) (by kernel_rfl) (fun _ _ _ h => h) (Or.inl ⟨by rfl, ?_⟩) (by assumption) ?_
        rotate_left
        · (intro w hSw; (try dsimp only at hSw); go_simp; try with_reducible rfl)
        try simp only [Act.put, List.setIfInBounds_toArray, List.set_cons_zero, List.set_cons_succ]
        refine wpAnyH_take (i := 4) (oi := ⟨some 19, _, _, _, _, _⟩) (v := ?_) rfl (by kernel_rfl) (by kernel_rfl) (by kernel_rfl) (fun _ _ _ h => h) (Or.inl ⟨by rfl, ?_⟩) (by assumption) ?_
        rotate_left
        · (intro w hSw; (try dsimp only at hSw); go_simp; try with_reducible rfl)
        try simp only [Act.put, List.setIfInBounds_toArray, List.set_cons_zero, List.set_cons_succ]
        refine wpAnyH_take (i := 5) (oi := ⟨some 20, _, _, _, _, _⟩) (v := ?_) rfl (by kernel_rfl) (by kernel_rfl) (by kernel_rfl) (fun _ _ _ h => h) (Or.inl ⟨by rfl, ?_⟩) (by assumption) ?_
        rotate_left
        · (intro w hSw; (try dsimp only at hSw); go_simp; try with_reducible rfl)
        try simp only [Act.put, List.setIfInBounds_toArray, List.set_cons_zero, List.set_cons_succ]
        refine wpAnyH_take (i := 8) (oi := ⟨some 23, _, _, _, _, _⟩) (v := ?_) rfl (by kernel_rfl) (by kernel_rfl) (by kernel_rfl) (fun _ _ _ h => h) (Or.inl ⟨by rfl, ?_⟩) (by assumption) ?_
        rotate_left
        · (intro w hSw; (try dsimp only at hSw); go_simp; try with_reducible rfl)
        try simp only [Act.put, List.setIfInBounds_toArray, List.set_cons_zero, List.set_cons_succ]
        refine next_one 6 (by kernel_rfl) rfl (by rfl) fun K' HK' => ?_
        go_simp
        refine (C2.out _ (by (repeat (first | assumption | exact Ext.refl _ | apply Ext.drew | apply Ext.drewN | apply Ext.alloc | refine Ext.trans ?_ (by assumption))); first | done | fail)).mono ?_
        rintro e w2 ⟨rfl, hw2⟩
        have hx1 : Ext wr.drew w2 := by rw [hw2]; exact Ext.refl _
        have hx2 : Ext wr w2 := (Ext.refl wr).drew.trans hx1
        clear hw2
        have hS2 := Ext.trans hHeld hx1
        refine held_go HK' hS2 (fun _ => ?_)
        clear HK'
        refine held_more (S' := fun w' => Ext w2 w') (fun _ h => Ext.trans hS2 h) _ _ _ _ ?_
        clear hHeld hS2
        have hHeld : Ext w2 w2 := Ext.refl _
        try simp only [Act.put, List.setIfInBounds_toArray, List.set_cons_zero, List.set_cons_succ]
        refine wpAnyH_take (i := 7) (oi := ⟨some 22, _, _, _, _, _⟩) (v := ?_) rfl (by kernel_rfl) (by kernel_rfl) (by kernel_rfl) (fun _ _ _ h => h) (Or.inl ⟨by rfl, ?_⟩) (by assumption) ?_
        rotate_left
        · (intro w hSw; (try dsimp only at hSw); go_simp; try with_reducible rfl)
        try simp only [Act.put, List.setIfInBounds_toArray, List.set_cons_zero, List.set_cons_succ]
        refine wpAnyH_take (i := 9) (oi := ⟨some 24, _, _, _, _, _⟩) (v := ?_) rfl (by kernel_rfl) (by kernel_rfl) (by kernel_rfl) (fun _ _ _ h => h) (Or.inl ⟨by rfl, ?_⟩) (by assumption) ?_
        rotate_left
        · (intro w hSw; (try dsimp only at hSw); go_simp; try with_reducible rfl)
        try simp only [Act.put, List.setIfInBounds_toArray, List.set_cons_zero, List.set_cons_succ]
        refine wpAnyH_take (i := 10) (oi := ⟨some 8, _, _, _, _, _⟩) (v := ?_) rfl (by kernel_rfl) (by kernel_rfl) (by kernel_rfl) (fun _ _ _ h => h) (Or.inl ⟨by rfl, ?_⟩) (by assumption) ?_
        rotate_left
        · (intro w hSw; (try dsimp only at hSw); go_simp; try with_reducible rfl)
        try simp only [Act.put, List.setIfInBounds_toArray, List.set_cons_zero, List.set_cons_succ]
        refine wpAnyH_done (by kernel_rfl) ?_ _
        go_wp2_with (first | (at_builtin; refine wpList_append_I rfl (.tmp 29) (.tmp 31) rfl w.heap.size (.slice Ao i co) i out rfl ((HRO.out.ext hx2).ext (by (repeat (first | assumption | exact Ext.refl _ | apply Ext.drew | apply Ext.drewN | apply Ext.alloc | refine Ext.trans ?_ (by assumption))); first | done | fail)) _ 1 1 [x + 65536 - y - q] rfl (lit1 _ _ _ (by have := HG.out; omega)) (by omega) (i + 1) rfl _ rfl w ((HX.out.trans hx2).trans (by (repeat (first | assumption | exact Ext.refl _ | apply Ext.drew | apply Ext.drewN | apply Ext.alloc | refine Ext.trans ?_ (by assumption))); first | done | fail)) (Nat.le_refl _) ((HX.out.trans hx2).trans (by (repeat (first | assumption | exact Ext.refl _ | apply Ext.drew | apply Ext.drewN | apply Ext.alloc | refine Ext.trans ?_ (by assumption))); first | done | fail)).size ?_; intro A5 c5 w5 ho5 hx5 _) | fail)
        go_roundw
        case rel => exact ⟨i + 1, 1, _, by omega, by go_num, by go_num, HN.out, ⟨_, _, rfl⟩, ho5, hx5⟩
        case measure => simp [intOf]; omega
    · obtain rfl : i = n := by omega
      obtain ⟨_, hv⟩ := hs.done (by decide) (by omega) (by omega) HLE.out
      have hd := hs.d
      clear hs
      go_wp2_with fail
      refine (FreshN.of_trim ho hd (by omega) hv hx).mono ?_
      rintro e w2 ⟨A2, n2, c2, rfl, hr2, ho2, hx2⟩
      go_wp2_with fail
      go_ret
      exact ⟨A2, n2, c2, rfl, hr2, ho2, hx2⟩
end Go.Proofs.YticggkllfojgkaaDoor
namespace Go.Proofs.YticggkllfojgkaaDoor
open Go Go.RowKit
set_option maxRecDepth 4000

end Go.Proofs.YticggkllfojgkaaDoor
namespace Go.Proofs.YticggkllfojgkaaDoor
open Go Go.RowKit
set_option maxRecDepth 4000

def zI (n : Nat) : Array Value := ((List.replicate n 0).map vI).toArray
/-- make(Num, n) -/
theorem run_makeI (n : Nat) (S : Int) (hS : S = (n : Int)) (hn : n ≤ 10000000000000) (w : World) :
    (Instr.makeSlice nm (.int .i64 S) (.int .i64 S)).run Tryd.prog w = .ok (.slice (some ⟨w.heap.size, 0, none⟩) n n) (w.alloc (.cells (zI n) it)) := by
  subst hS
  obtain ⟨i, hi, hz, hs, hb⟩ := info_parts inI
  have hr := run_make (P := Tryd.prog) w nm it i (.int .i64 0) Tryd.underlying52 hi hz .i64 .i64 (n : Int) (n : Int) (by omega) (by omega) (by rw [hb]; omega) (by omega)
  rw [hr, hs]
  simp only [Int.toNat_natCast, Nat.mul_one]
  rw [show (Value.int .i64 0).cells = #[Value.int .i64 0] from rfl]
  have e : madeCells #[Value.int .i64 0] n = zI n := by
    apply Array.ext_getElem?
    intro i
    by_cases h : i < n
    · simp [madeCells, zI, vI, h, Nat.mod_one]
    · simp [madeCells, zI, h]
  rw [e]
theorem makeI_own (w : World) (n : Nat) (hn : n ≤ 10000000000000) : Rn (w.alloc (.cells (zI n) it)) w.heap.size (.slice (some ⟨w.heap.size, 0, none⟩) n n) n (List.replicate n 0) :=
  Rw.has (Has.new w it _ _ rfl) (by simp) (Nat.le_refl _) (by unfold maxLen; omega)
set_option maxHeartbeats 1000000 in
theorem mul_any {a b : List Nat} {A B : Option Addr} {n c m d : Nat} {w : World} (ha : Rd vI w A n c a) (hb : Rd vI w B m d b) (da : Dg 65536 a) (db : Dg 65536 b) (hn : n ≤ 1000000000000) (hm : m ≤ 1000000000000) :
    Calls Tryd.prog 51 #[.slice A n c, .slice B m d] w (FreshN w (vl 65536 a * vl 65536 b)) := by
  have hla := ha.len
  have hlb := hb.len
  obtain ⟨N, hN⟩ : ∃ N, N = n + m := ⟨_, rfl⟩
  have hmk := run_makeI N ((n : Int) + (m : Int)) (by omega) (by omega)
  have hst := MulS.start (B := 65536) (by decide) a b
  rw [hla, hlb, ← hN] at hst
  have HST := Kp.mk hst
  have HA := Kp.mk ha
  have HB := Kp.mk hb
  have DA := Kp.mk da
  have DB := Kp.mk db
  have HN := Kp.mk hN
  clear ha hb da db hst hN
  have HM := Kp.mk (makeI_own w N (by have := HN.out; omega))
  have HXM := Kp.mk (show Ext w (w.alloc (.cells (zI N) it)) from (by (repeat (first | assumption | exact Ext.refl _ | apply Ext.drew | apply Ext.drewN | apply Ext.alloc | refine Ext.trans ?_ (by assumption))); first | done | fail))
  generalize zI N = ZZ at *
  go_enter Tryd.func51, Tryd.ntmps51
  go_wp2_with fail
  go_loopw [6] (fun iv wr => ∃ i : Nat, ∃ out : List Nat, i ≤ n ∧ iv = .int .i64 (i : Int) ∧ MulS 65536 a b i out ∧ Rn wr w.heap.size (.slice (some ⟨w.heap.size, 0, none⟩) N N) N out ∧ Ext w wr) (fun i _ => n - (intOf i).toNat)
  case atStart => exact ⟨0, _, by omega, rfl, HST.out, HM.out, HXM.out⟩
  case round =>
    obtain ⟨i, out, hi, rfl, hs, ho, hx⟩ := hrel
    by_cases hlt : i < n
    · have b0 : (i : Int) < (n : Int) := by omega
      have he := hs.enter (by decide)
      clear hs
      go_wp2_with fail
      go_loopw [7, 8] (fun cv kv wq => ∃ q k : Nat, ∃ out : List Nat, k ≤ m ∧ kv = .int .i64 (k : Int) ∧ cv = .int .i64 (q : Int) ∧ MulT 65536 a b i k out q ∧ Rn wq w.heap.size (.slice (some ⟨w.heap.size, 0, none⟩) N N) N out ∧ Ext w wq) (fun _ k _ => m - (intOf k).toNat)
      case atStart => exact ⟨0, 0, out, by omega, rfl, rfl, he, ho, hx⟩
      case round =>
        clear he ho hx
        obtain ⟨q, k, out, hk, rfl, rfl, hs, ho, hx⟩ := hrel
        have hNn := HN.out
        by_cases hlk : k < m
        · obtain ⟨g, o, rfl⟩ := HA.out.some_ (by omega)
          obtain ⟨g2, o2, rfl⟩ := HB.out.some_ (by omega)
          have d0 : (k : Int) < (m : Int) := by omega
          have k1 := (HA.out.ext hx).dig i hlt
          have k2 := (HB.out.ext hx).dig k hlk
          have k3 := ho.cell (i + k) _ (dg_in out (i + k) (by rw [ho.len]; omega))
          have k4 := ho.free (i + k)
          unfold vI at k1 k2 k3
          have h1 := DA.out.at (by decide) i
          have h2 := DB.out.at (by decide) k
          have h3 := hs.d.at (by decide) (i + k)
          have h4 := hs.cr
          have HNX := Kp.mk (hs.next DA.out DB.out (by decide) (by omega) (by omega))
          have HO := Kp.mk ho
          have HX := Kp.mk hx
          generalize dg a i = x at *
          generalize dg b k = y at *
          generalize dg out (i + k) = z at *
          have hp : x * y ≤ 65535 * 65535 := Nat.mul_le_mul (by omega) (by omega)
          obtain ⟨p, hpp⟩ : ∃ p, x * y = p := ⟨_, rfl⟩
          have e0 : (x : Int) * (y : Int) = (p : Int) := by rw [← hpp]; exact (Int.natCast_mul x y).symm
          rw [hpp] at hp HNX
          have e1 : IntKind.i64.wrap (p : Int) = (p : Int) := by rw [IntKind.wrap_i64]; omega
          obtain ⟨s, hss⟩ : ∃ s, q + p + z = s := ⟨_, rfl⟩
          have e2 : IntKind.i64.wrap ((q : Int) + (p : Int)) = (q : Int) + (p : Int) := by rw [IntKind.wrap_i64]; omega
          have e3 : IntKind.i64.wrap ((q : Int) + (p : Int) + (z : Int)) = (s : Int) := by rw [IntKind.wrap_i64]; omega
          have e4 : IntKind.i64.wrap ((i : Int) + (k : Int)) = (i : Int) + (k : Int) := by rw [IntKind.wrap_i64]; omega
          have e5 : ((i : Int) + (k : Int)).toNat = i + k := by omega
          have d1 : (0 : Int) ≤ (i : Int) + (k : Int) := by omega
          have d2 : (i : Int) + (k : Int) < (N : Int) := by omega
          have d3 : (s : Int) < 4611686018427387904 := by omega
          rw [hss] at HNX
          clear hpp hss hs ho hx h1 h2 h3 h4 hp hNn
          go_wp2_with fail
          go_region
          go_wp2_with fail
          go_roundw
          case rel =>
            refine ⟨s / 65536, k + 1, _, by omega, by go_num, by go_num, HNX.out, ?_, (HX.out.setCell (p := ⟨w.heap.size, i + k, none⟩) (Nat.le_refl _) _).drew⟩
            rw [show ((s : Int) % 65536) = ((s % 65536 : Nat) : Int) by omega]
            exact (HO.out.set (i + k) (s % 65536)).ext (Ext.refl _).drew
          case measure => simp [intOf]; omega
        · obtain rfl : k = m := by omega
          have hl : MulS 65536 a b (i + 1) (out.set (i + k) q) := by
            have h := hs
            rw [← hlb] at h
            have h2 := h.leave (by omega)
            rwa [hlb] at h2
          have k4 := ho.free (i + k)
          have HL := Kp.mk hl
          have HO := Kp.mk ho
          have HX := Kp.mk hx
          have e5 : ((i : Int) + (k : Int)).toNat = i + k := by omega
          have d1 : (0 : Int) ≤ (i : Int) + (k : Int) := by omega
          have d2 : (i : Int) + (k : Int) < (N : Int) := by omega
          have k3 := ho.cell (i + k) _ (dg_in out (i + k) (by rw [ho.len]; omega))
          clear hs ho hx hl hNn
          go_wp2_with fail
          go_roundw
          case rel => exact ⟨i + 1, _, by omega, by go_num, HL.out, HO.out.set (i + k) q, HX.out.setCell (p := ⟨w.heap.size, i + k, none⟩) (Nat.le_refl _) _⟩
          case measure => simp [intOf]; omega
    · obtain rfl : i = n := by omega
      have hv : vl 65536 out = vl 65536 a * vl 65536 b := by
        have h := hs
        rw [← hla] at h
        exact h.done
      have hd := hs.d
      clear hs
      go_wp2_with fail
      refine (FreshN.of_trim ho hd (by have := HN.out; omega) hv hx).mono ?_
      rintro e w2 ⟨A2, n2, c2, rfl, hr2, ho2, hx2⟩
      go_wp2_with fail
      go_ret
      exact ⟨A2, n2, c2, rfl, hr2, ho2, hx2⟩
end Go.Proofs.YticggkllfojgkaaDoor
