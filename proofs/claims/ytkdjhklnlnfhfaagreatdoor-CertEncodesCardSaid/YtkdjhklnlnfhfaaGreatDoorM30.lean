/-
  What a certificate's reader reads out of a certificate's own bytes: the key, the extensions, the whole. Plain.
  What a certificate's reader reads out of a certificate's own body: that say. Plain.
  Where a certificate's reader finds nothing amiss: what stood there. Plain.
  tlv: Whole. A certificate's reader: its state; notes.
-/
import Derived.Test.YtkdjhklnlnfhfaaGreatDoorM29
import Derived.Test.YtkdjhklnlnfhfaaGreatDoorM13
import Derived.Test.YtkdjhklnlnfhfaaGreatDoorM12
import Derived.Test.YtkdjhklnlnfhfaaGreatDoorM4
namespace Go.Proofs.YtkdjhklnlnfhfaaGreatDoor
open Go
set_option maxRecDepth 4000

section
variable {r : List (BitVec 8)} {st : List (List (BitVec 8))} {a : Bool} {P : Prm} {PK : Nat → Nat → Prop}
theorem numS_one (hP : PrmG P PK) {v : Nat} (h : (P.big v).length ≤ 129) : numS P ⟨bigE P.big v, st, a⟩ = (v, ⟨[], st, a⟩) := by
  have h1 := numS_at (r := []) (st := st) (a := a) hP h
  rwa [List.append_nil] at h1
theorem keyIn (hP : PrmG P PK) {n e : Nat} (h : PK n e) : enterS 48 ⟨keyI P.big n e, [], a⟩ = ⟨bigE P.big n ++ bigE P.big e, [[]], a⟩ :=
  enterS_one (by decide) (by have := keyJ_len hP.g h; omega) (by decide)
theorem keyS_at (hP : PrmG P PK) {n e : Nat} (h : PK n e) (hd : st.length < 23) : keyS P ⟨keyE P.big n e ++ r, st, a⟩ = ((n, e), ⟨r, st, a⟩) := by
  have h1 := keyW_len hP.g h
  have h2 := keyI_len hP.g h
  have e1 : enterS 48 ⟨keyE P.big n e ++ r, st, a⟩ = ⟨kndE keyO ++ elm 3 (0 :: keyI P.big n e), r :: st, a⟩ := enterS_at (by decide) (by omega) (by omega)
  have e2 : kindS oK ⟨kndE keyO ++ elm 3 (0 :: keyI P.big n e), r :: st, a⟩ = ⟨elm 3 (0 :: keyI P.big n e), r :: st, a⟩ := by rw [oK_eq]; exact kindS_at keyO_ok (by rw [List.length_cons]; omega)
  have e3 : bitsS P ⟨elm 3 (0 :: keyI P.big n e), r :: st, a⟩ = ((keyI P.big n e, 0), ⟨[], r :: st, a⟩) := by
    have h := bitsS_at (P := P) (l := keyI P.big n e) (k := 0) (r := []) (st := r :: st) (a := a) (hP.b0 _) (by omega)
    rwa [List.append_nil] at h
  unfold keyS
  simp only [e1, e2, e3, insideS, keyIn hP h, numS_at hP (hP.g.n n e h), numS_one hP (hP.g.e n e h)]
  rfl
theorem sub_ne (n : List (List Atr)) : 1 ≤ (subE n).length := by
  unfold subE
  rw [elm_len]
  have := hdn_lo (elm 164 (namB n)).length
  omega
theorem subF_at {n : List (List Atr)} (h : MayN P.txt n) (hd : st.length < 22) (l : List (List (List Atr))) : subF P (l, ⟨subE n ++ r, st, a⟩) = (l ++ [n], ⟨r, st, a⟩) := by
  have h1 := subI_len h
  have h2 := h.w.bd
  have e1 : enterS 48 ⟨subE n ++ r, st, a⟩ = ⟨elm 164 (namB n), r :: st, a⟩ := enterS_at (by decide) (by omega) (by omega)
  have h3 : (namB n).length ≤ 65535 := by
    have := elm_len 164 (namB n)
    omega
  have e2 : enterS 164 ⟨elm 164 (namB n), r :: st, a⟩ = ⟨namB n, [] :: r :: st, a⟩ := enterS_one (by decide) h3 (by rw [List.length_cons]; omega)
  have e3 : nameS P ⟨namB n, [] :: r :: st, a⟩ = (n, ⟨[], [] :: r :: st, a⟩) := by
    have h4 := nameS_at (r := []) (st := [] :: r :: st) (a := a) h
    rwa [List.append_nil] at h4
  unfold subF
  simp only [e1, e2, e3]
  rfl
/-- rounds over things one behind the other -/
theorem goS_all {α β : Type} {f : α × RS → α × RS} {g : α → β → α} {E : β → List (BitVec 8)} :
    ∀ (l : List β), (∀ c b r, b ∈ l → f (c, ⟨E b ++ r, st, false⟩) = (g c b, ⟨r, st, false⟩)) → (∀ b, b ∈ l → 1 ≤ (E b).length) → ∀ (c : α) (n : Nat), l.length ≤ n → goS f n (c, ⟨(l.map E).flatten, st, false⟩) = (l.foldl g c, ⟨[], st, false⟩)
  | [], _, _, c, n, _ => goS_end f n (by exact more_nil)
  | b :: l, _, _, c, 0, h => absurd h (Nat.not_succ_le_zero _)
  | b :: l, hf, hE, c, n + 1, h => by
    have h1 : 1 ≤ (E b).length := hE b (by simp)
    have hm : (⟨((b :: l).map E).flatten, st, false⟩ : RS).more = true := by
      unfold RS.more
      have : ((b :: l).map E).flatten ≠ [] := fun e => by
        rw [List.map_cons, List.flatten_cons] at e
        have := congrArg List.length e
        rw [List.length_append, List.length_nil] at this
        omega
      simp only [this, decide_false, Bool.not_false, Bool.and_self]
    unfold goS
    rw [if_pos hm]
    rw [List.map_cons, List.flatten_cons, hf c b _ (by simp)]
    exact goS_all l (fun c b r hb => hf c b r (List.mem_cons_of_mem _ hb)) (fun b hb => hE b (List.mem_cons_of_mem _ hb)) (g c b) n (by simpa using h)
theorem flat_lo {β : Type} {E : β → List (BitVec 8)} : ∀ (l : List β), (∀ b, b ∈ l → 1 ≤ (E b).length) → l.length ≤ (l.map E).flatten.length
  | [], _ => Nat.zero_le _
  | b :: l, h => by
    have h1 := h b (by simp)
    have h2 := flat_lo l fun b hb => h b (List.mem_cons_of_mem _ hb)
    rw [List.map_cons, List.flatten_cons, List.length_append, List.length_cons]
    omega
theorem fold_app {β : Type} : ∀ (l k : List β), l.foldl (fun c b => c ++ [b]) k = k ++ l
  | [], k => by simp
  | b :: l, k => by rw [List.foldl_cons, fold_app l]; simp
theorem withinS_at {m : BitVec 8} {l : List (List (List Atr))} (h : MayNs P.txt l) (hm : isW m = true) (hd : st.length < 21) (hr : l = [] → (⟨r, st, false⟩ : RS).at_ m = false) : withinS P m ⟨treE m l ++ r, st, false⟩ = (l, ⟨r, st, false⟩) := by
  unfold withinS
  by_cases hl : l = []
  · subst hl
    rw [show treE m [] = [] from rfl, List.nil_append, hr rfl]
    rfl
  · have h1 := treI_len h
    have e0 : treE m l = elm m (l.map subE).flatten := by unfold treE; rw [if_neg hl]
    have e1 : enterS m ⟨treE m l ++ r, st, false⟩ = ⟨(l.map subE).flatten, r :: st, false⟩ := by rw [e0]; exact enterS_at hm (by omega) (by omega)
    rw [e0, at_yes, if_pos rfl, ← e0, e1]
    have e2 := goS_all (f := subF P) (g := fun c b => c ++ [b]) (E := subE) (st := r :: st) l (fun c b r' hb => subF_at (h.all b hb) (by rw [List.length_cons]; omega) c) (fun b _ => sub_ne b) [] ((l.map subE).flatten.length + 1) (by have := flat_lo l (E := subE) fun b _ => sub_ne b; omega)
    rw [fold_app, List.nil_append] at e2
    show (let q := goS (subF P) ((l.map subE).flatten.length + 1) ([], ⟨(l.map subE).flatten, r :: st, false⟩); (q.1, leaveS q.2)) = _
    rw [e2]
    rfl
theorem pol_ne (p : List Nat) : 1 ≤ (polE p).length := by
  unfold polE
  rw [elm_len]
  have := hdn_lo (oidE p).length
  omega
theorem polF_at {p : List Nat} (h : OidP p) (hd : st.length < 24) (l : List (List Nat)) : polF (l, ⟨polE p ++ r, st, a⟩) = (l ++ [p], ⟨r, st, a⟩) := by
  have h1 := oidE_len h
  have e1 : enterS 48 ⟨polE p ++ r, st, a⟩ = ⟨oidE p, r :: st, a⟩ := enterS_at (by decide) (by omega) hd
  have e3 : oidS ⟨oidE p, r :: st, a⟩ = (p, ⟨[], r :: st, a⟩) := by
    have h4 := oidS_at (r := []) (st := r :: st) (a := a) h
    rwa [List.append_nil] at h4
  unfold polF
  simp only [e1, e3]
  rfl
theorem polsS_at {l : List (List Nat)} (h : MayO l) (hd : st.length < 23) : polsS ⟨polS l ++ r, st, false⟩ = (l, ⟨r, st, false⟩) := by
  have h1 := polI_len h
  have e1 : enterS 48 ⟨polS l ++ r, st, false⟩ = ⟨(l.map polE).flatten, r :: st, false⟩ := enterS_at (by decide) (by omega) (by omega)
  have e2 := goS_all (f := polF) (g := fun c b => c ++ [b]) (E := polE) (st := r :: st) l (fun c b r' hb => polF_at (h.all b hb) (by rw [List.length_cons]; omega) c) (fun b _ => pol_ne b) [] ((l.map polE).flatten.length + 1) (by have := flat_lo l (E := polE) fun b _ => pol_ne b; omega)
  rw [fold_app, List.nil_append] at e2
  unfold polsS
  simp only [e1, e2]
  rfl
theorem short_at : ∀ d : Fin 9, shortS ⟨[2, 1, BitVec.ofNat 8 d.val], r :: st, a⟩ = ((d.val : Int), ⟨[], r :: st, a⟩) := fun d => by
  have e : [2, 1, BitVec.ofNat 8 d.val] = elm 2 [BitVec.ofNat 8 d.val] ++ [] := rfl
  unfold shortS
  rw [e, takeS_at (by decide) (by simp)]
  have h : ∀ d : Fin 9, tcB [BitVec.ofNat 8 d.val] = true ∧ tcV [BitVec.ofNat 8 d.val] = (d.val : Int) := by decide +kernel
  obtain ⟨h1, h2⟩ := h d
  show optS 0 (if tcB [BitVec.ofNat 8 d.val] = true ∧ [BitVec.ofNat 8 d.val].length ≤ 8 then some (tcV [BitVec.ofNat 8 d.val]) else none) _ = _
  rw [if_pos ⟨h1, by simp⟩, h2]
  rfl
theorem depthS_at {d : Int} (h1 : -1 ≤ d) (h2 : d ≤ 8) (hd : st.length < 23) : depthS ⟨autS d ++ r, st, false⟩ = (d, ⟨r, st, false⟩) := by
  have h3 := autI_len d
  have e1 : enterS 48 ⟨autS d ++ r, st, false⟩ = ⟨autI d, r :: st, false⟩ := enterS_at (by decide) (by omega) (by omega)
  have e2 : takeS 1 ⟨autI d, r :: st, false⟩ = ([255], ⟨if 0 ≤ d then [2, 1, BitVec.ofNat 8 d.toNat] else [], r :: st, false⟩) := takeS_at (m := 1) (x := [255]) (by decide) (by decide)
  unfold depthS
  simp only [e1, e2]
  by_cases h0 : 0 ≤ d
  · rw [if_pos h0]
    have e3 := short_at (r := r) (st := st) (a := false) ⟨d.toNat, by omega⟩
    have e4 : (⟨[2, 1, BitVec.ofNat 8 d.toNat], r :: st, false⟩ : RS).more = true := rfl
    rw [e4, if_pos rfl]
    simp only at e3
    rw [e3, Int.toNat_of_nonneg h0]
    rfl
  · rw [if_neg h0]
    obtain rfl : d = -1 := by omega
    rfl
theorem uses_all : ∀ u : Fin 512, 0 < u.val → usesR 0 0 ((useB u.val).drop 1) = (u.val : Int) := by decide +kernel
theorem uses_ne (u : Nat) : useB u = gb (useB u) 0 :: (useB u).drop 1 := by
  unfold useB
  split
  · rfl
  · split <;> rfl
theorem uses_at (hP : PrmG P PK) {u : Int} (h1 : 0 < u) (h2 : u ≤ 511) : (usesR 0 0 (bitsS P ⟨elm 3 (useB u.toNat), st, a⟩).1.1, (bitsS P ⟨elm 3 (useB u.toNat), st, a⟩).2) = (u, ⟨[], st, a⟩) := by
  have h3 := useB_len u.toNat
  have h4 := uses_all ⟨u.toNat, by omega⟩ (by show 0 < u.toNat; omega)
  have h5 := hP.bu u.toNat (by omega) (by omega)
  have e := bitsS_at (P := P) (l := (useB u.toNat).drop 1) (k := gb (useB u.toNat) 0) (r := []) (st := st) (a := a) h5 (by rw [List.length_drop]; omega)
  rw [List.append_nil, ← uses_ne] at e
  rw [e]
  simp only at h4 ⊢
  rw [h4, Int.toNat_of_nonneg (by omega)]
theorem namesS_at {c : Rec} {p x : List (List (List Atr))} (hp : MayNs P.txt p) (hx : MayNs P.txt x) : namesS P c ⟨namS p x, [], false⟩ = ({ c with p := p, x := x }, ⟨[], [], false⟩) := by
  have h1 := namI_len hp hx
  have e1 : enterS 48 ⟨namS p x, [], false⟩ = ⟨treE 160 p ++ treE 161 x, [[]], false⟩ := enterS_one (by decide) (by omega) (by decide)
  have e2 : withinS P 160 ⟨treE 160 p ++ treE 161 x, [[]], false⟩ = (p, ⟨treE 161 x, [[]], false⟩) := withinS_at hp (by decide) (by decide) fun _ => by
    unfold treE
    split
    · exact at_nil
    · rename_i hx
      have h := at_no (m := 161) (k := 160) (x := (x.map subE).flatten) (r := []) (st := [[]]) (a := false) (by decide)
      rwa [List.append_nil] at h
  have e3 : withinS P 161 ⟨treE 161 x, [[]], false⟩ = (x, ⟨[], [[]], false⟩) := by
    have h := withinS_at (r := []) (st := [[]]) (m := 161) hx (by decide) (by decide) fun _ => at_nil
    rwa [List.append_nil] at h
  unfold namesS
  simp only [e1, e2, e3]
  rfl
/-- what an extension makes of a say -/
noncomputable def setE (P : Prm) (c : Rec) (p : Nat × Bool × List (BitVec 8)) : Rec := (saidS P (oidB (extO p.1)) c ⟨p.2.2, [], false⟩).1
theorem extF_at {p : Nat × Bool × List (BitVec 8)} (h : ExtW p) (c : Rec) (hs : (saidS P (oidB (extO p.1)) c ⟨p.2.2, [], false⟩).2 = ⟨[], [], false⟩) (hd : st.length < 24) :
    extF P (c, ⟨extE p ++ r, st, false⟩) = (setE P c p, ⟨r, st, false⟩) := by
  have h1 := extE_in (p := p) h.k
  have h2 := h.hi
  have h3 := oidB_len (extO_ok h.k)
  have e1 : enterS 48 ⟨extE p ++ r, st, false⟩ = ⟨oidE (extO p.1) ++ (grvB p.2.1 ++ elm 4 p.2.2), r :: st, false⟩ := enterS_at (by decide) (by omega) hd
  have e2 : takeS 6 ⟨oidE (extO p.1) ++ (grvB p.2.1 ++ elm 4 p.2.2), r :: st, false⟩ = (oidB (extO p.1), ⟨grvB p.2.1 ++ elm 4 p.2.2, r :: st, false⟩) := takeS_at (by decide) (by omega)
  have e3 : (if (⟨grvB p.2.1 ++ elm 4 p.2.2, r :: st, false⟩ : RS).at_ 1 = true then (takeS 1 ⟨grvB p.2.1 ++ elm 4 p.2.2, r :: st, false⟩).2 else ⟨grvB p.2.1 ++ elm 4 p.2.2, r :: st, false⟩) = ⟨elm 4 p.2.2, r :: st, false⟩ := by
    cases hg : p.2.1 with
    | false =>
      have h : (⟨elm 4 p.2.2 ++ [], r :: st, false⟩ : RS).at_ 1 = false := at_no (by decide)
      rw [List.append_nil] at h
      show (if (⟨elm 4 p.2.2, r :: st, false⟩ : RS).at_ 1 = true then _ else _) = _
      rw [h]
      rfl
    | true =>
      have e : takeS 1 ⟨elm 1 [255] ++ elm 4 p.2.2, r :: st, false⟩ = ([255], ⟨elm 4 p.2.2, r :: st, false⟩) := takeS_at (by decide) (by decide)
      show (if (⟨elm 1 [255] ++ elm 4 p.2.2, r :: st, false⟩ : RS).at_ 1 = true then (takeS 1 ⟨elm 1 [255] ++ elm 4 p.2.2, r :: st, false⟩).2 else _) = _
      rw [at_yes, if_pos rfl, e]
  have e4 : takeS 4 ⟨elm 4 p.2.2, r :: st, false⟩ = (p.2.2, ⟨[], r :: st, false⟩) := by
    have h := takeS_at (m := 4) (x := p.2.2) (r := []) (st := r :: st) (a := false) (by decide) (by omega)
    rwa [List.append_nil] at h
  unfold extF
  simp only [e1, e2, e3, e4, insideS, hs]
  rfl
theorem ext_ne (p : Nat × Bool × List (BitVec 8)) : 1 ≤ (extE p).length := by
  unfold extE
  rw [elm_len]
  have := hdn_lo (oidE (extO p.1) ++ (grvB p.2.1 ++ elm 4 p.2.2)).length
  omega
end
end Go.Proofs.YtkdjhklnlnfhfaaGreatDoor
namespace Go.Proofs.YtkdjhklnlnfhfaaGreatDoor
open Go
set_option maxRecDepth 4000

/-- a say as the reader tells it -/
def recC (c : Crt) : Rec := ⟨c.ser, c.iss, c.sub, tm6 c.fr, tm6 c.til, c.kn, c.ke, c.auth, c.dep, c.uses, c.perm, c.excl, c.pols⟩
section
variable {r : List (BitVec 8)} {st : List (List (BitVec 8))} {P : Prm} {PK : Nat → Nat → Prop}
theorem saidA {d : Int} (h1 : -1 ≤ d) (h2 : d ≤ 8) (c : Rec) : saidS P (oidB (extO 19)) c ⟨autS d, [], false⟩ = ({ c with auth := true, dep := d }, ⟨[], [], false⟩) := by
  have h := depthS_at (r := []) (st := []) h1 h2 (by decide)
  rw [List.append_nil] at h
  unfold saidS
  rw [← oX_eq.1, if_pos rfl, h]
theorem saidU (hP : PrmG P PK) {u : Int} (h1 : 0 < u) (h2 : u ≤ 511) (c : Rec) : saidS P (oidB (extO 15)) c ⟨elm 3 (useB u.toNat), [], false⟩ = ({ c with uses := u }, ⟨[], [], false⟩) := by
  have h := uses_at (st := []) (a := false) hP h1 h2
  obtain ⟨e1, e2⟩ := Prod.mk.inj h
  unfold saidS
  rw [← oX_eq.2.1, if_neg (by decide), if_pos rfl, e1, e2]
theorem saidN {p x : List (List (List Atr))} (hp : MayNs P.txt p) (hx : MayNs P.txt x) (c : Rec) : saidS P (oidB (extO 30)) c ⟨namS p x, [], false⟩ = ({ c with p := p, x := x }, ⟨[], [], false⟩) := by
  unfold saidS
  rw [← oX_eq.2.2.1, if_neg (by decide), if_neg (by decide), if_pos rfl]
  exact namesS_at hp hx
theorem saidP {l : List (List Nat)} (h : MayO l) (c : Rec) : saidS P (oidB (extO 32)) c ⟨polS l, [], false⟩ = ({ c with o := l }, ⟨[], [], false⟩) := by
  have h1 := polsS_at (r := []) (st := []) h (by decide)
  rw [List.append_nil] at h1
  unfold saidS
  rw [← oX_eq.2.2.2, if_neg (by decide), if_neg (by decide), if_neg (by decide), if_pos rfl, h1]
variable {c : Crt}
theorem said_all (hP : PrmG P PK) (h : MayC P.big P.txt PK c) : ∀ p ∈ exts c, ∀ k : Rec, (saidS P (oidB (extO p.1)) k ⟨p.2.2, [], false⟩).2 = ⟨[], [], false⟩ := by
  intro p hp k
  have h1 := h.u1
  unfold exts at hp
  rcases List.mem_append.1 hp with hp | hp
  · split at hp
    · rw [List.mem_singleton.1 hp, saidA h.d1 h.d2]
    · cases hp
  · rcases List.mem_append.1 hp with hp | hp
    · split at hp
      · cases hp
      · rw [List.mem_singleton.1 hp, saidU hP (by omega) h.u2]
    · rcases List.mem_append.1 hp with hp | hp
      · split at hp
        · cases hp
        · rw [List.mem_singleton.1 hp, saidN h.perm h.excl]
      · split at hp
        · cases hp
        · rw [List.mem_singleton.1 hp, saidP h.pols]
/-- ahead of the extensions -/
def recH (c : Crt) : Rec := ⟨c.ser, c.iss, c.sub, tm6 c.fr, tm6 c.til, c.kn, c.ke, false, -1, 0, [], [], []⟩
theorem fold_exts (hP : PrmG P PK) (h : MayC P.big P.txt PK c) : (exts c).foldl (setE P) (recH c) = recC c := by
  have h1 := h.u1
  have hA := fun k : Rec => congrArg Prod.fst (saidA (P := P) h.d1 h.d2 k)
  have hN := fun k : Rec => congrArg Prod.fst (saidN h.perm h.excl k)
  have hO := fun k : Rec => congrArg Prod.fst (saidP (P := P) h.pols k)
  have e1 : (if c.auth = true then [(19, true, autS c.dep)] else []).foldl (setE P) (recH c) = { recH c with auth := c.auth, dep := c.dep } := by
    cases ha : c.auth with
    | false => rw [if_neg (by decide), h.da ha]; rfl
    | true => rw [if_pos rfl]; exact hA _
  have e2 : ∀ k : Rec, k.uses = 0 → (if c.uses = 0 then [] else [(15, true, elm 3 (useB c.uses.toNat))]).foldl (setE P) k = { k with uses := c.uses } := fun k hk => by
    split
    · rename_i h0
      rw [h0, ← hk]; rfl
    · exact congrArg Prod.fst (saidU hP (by omega) h.u2 k)
  have e3 : ∀ k : Rec, k.p = [] → k.x = [] → (if c.perm = [] ∧ c.excl = [] then [] else [(30, true, namS c.perm c.excl)]).foldl (setE P) k = { k with p := c.perm, x := c.excl } := fun k hp hx => by
    split
    · rename_i h0
      rw [h0.1, h0.2]
      cases k
      simp only at hp hx
      rw [hp, hx]; rfl
    · exact hN k
  have e4 : ∀ k : Rec, k.o = [] → (if c.pols = [] then [] else [(32, false, polS c.pols)]).foldl (setE P) k = { k with o := c.pols } := fun k hk => by
    split
    · rename_i h0
      rw [h0, ← hk]; rfl
    · exact hO k
  unfold exts
  rw [List.foldl_append, e1, List.foldl_append, e2 _ rfl, List.foldl_append, e3 _ rfl rfl, e4 _ rfl]
  rfl
theorem extsS_at (hP : PrmG P PK) (h : MayC P.big P.txt PK c) (he : exts c ≠ []) (hd : st.length < 22) : extsS P (recH c) ⟨extL c, st, false⟩ = (recC c, ⟨[], st, false⟩) := by
  have h1 := extI_len h
  have h2 := extW_len h
  have e0 : extL c = elm 163 (elm 48 (extI c)) := by unfold extL; rw [if_neg he]
  have e1 : enterS 163 ⟨extL c, st, false⟩ = ⟨elm 48 (extI c), [] :: st, false⟩ := by rw [e0]; exact enterS_one (by decide) (by omega) (by omega)
  have e2 : enterS 48 ⟨elm 48 (extI c), [] :: st, false⟩ = ⟨extI c, [] :: [] :: st, false⟩ := enterS_one (by decide) (by omega) (by rw [List.length_cons]; omega)
  have e3 := goS_all (f := extF P) (g := setE P) (E := extE) (st := [] :: [] :: st) (exts c) (fun k b r hb => extF_at (exts_w h b hb) k (said_all hP h b hb k) (by rw [List.length_cons, List.length_cons]; omega)) (fun b _ => ext_ne b) (recH c) ((extI c).length + 1) (by have := flat_lo (exts c) (E := extE) fun b _ => ext_ne b; unfold extI; omega)
  rw [fold_exts hP h] at e3
  unfold extsS
  simp only [e1, e2]
  rw [show extI c = ((exts c).map extE).flatten from rfl] at e3 ⊢
  rw [e3]
  rfl
theorem headS_at (hP : PrmG P PK) (h : MayC P.big P.txt PK c) : headS P ⟨bodC P.big c, [], false⟩ = (recH c, ⟨extL c, [[]], false⟩) := by
  have h1 := bodI_len hP.g h
  have h2 := h.s2
  have h3 := valI_len c.fr c.til
  have e1 : enterS 48 ⟨bodC P.big c, [], false⟩ = ⟨bodI P.big c, [[]], false⟩ := enterS_one (by decide) (by omega) (by decide)
  unfold bodI at e1
  have e2 : wholeS 160 ⟨elm 160 [2, 1, 2] ++ (bigE P.big c.ser ++ (sgnE ++ (namB c.iss ++ (valE c.fr c.til ++ (namB c.sub ++ (keyE P.big c.kn c.ke ++ extL c)))))), [[]], false⟩ = (elm 160 [2, 1, 2], ⟨bigE P.big c.ser ++ (sgnE ++ (namB c.iss ++ (valE c.fr c.til ++ (namB c.sub ++ (keyE P.big c.kn c.ke ++ extL c))))), [[]], false⟩) := wholeS_at (by decide) (by decide)
  have e3 : kindS oS ⟨sgnE ++ (namB c.iss ++ (valE c.fr c.til ++ (namB c.sub ++ (keyE P.big c.kn c.ke ++ extL c)))), [[]], false⟩ = ⟨namB c.iss ++ (valE c.fr c.til ++ (namB c.sub ++ (keyE P.big c.kn c.ke ++ extL c))), [[]], false⟩ := by rw [oS_eq]; exact kindS_at sgnO_ok (by decide)
  have e4 : enterS 48 ⟨valE c.fr c.til ++ (namB c.sub ++ (keyE P.big c.kn c.ke ++ extL c)), [[]], false⟩ = ⟨momE c.fr ++ momE c.til, (namB c.sub ++ (keyE P.big c.kn c.ke ++ extL c)) :: [[]], false⟩ := enterS_at (by decide) (by omega) (by decide)
  have e5 : ∀ st : List (List (BitVec 8)), timeS ⟨momE c.til, st, false⟩ = (tm6 c.til, ⟨[], st, false⟩) := fun st => by
    have h := timeS_at (r := []) (st := st) (a := false) h.til
    rwa [List.append_nil] at h
  unfold headS
  simp only [e1, e2, numS_at hP (show (P.big c.ser).length ≤ 129 by omega), e3, nameS_at h.iss, e4, timeS_at h.fr, e5, leaveS_at, nameS_at h.sub, keyS_at hP h.key (show ([[]] : List (List (BitVec 8))).length < 23 by decide)]
  rfl
theorem bodyS_at (hP : PrmG P PK) (h : MayC P.big P.txt PK c) : bodyS P ⟨bodC P.big c, [], false⟩ = (recC c, ⟨[], [], false⟩) := by
  unfold bodyS
  simp only [headS_at hP h]
  by_cases he : exts c = []
  · have e : extL c = [] := by unfold extL; rw [if_pos he]
    have hf := fold_exts hP h
    rw [he] at hf
    rw [e, more_nil]
    simp only [if_neg (show ¬ false = true by decide), leaveS_at, endS_at]
    exact Prod.ext hf rfl
  · have e : extL c = elm 163 (elm 48 (extI c)) ++ [] := by rw [List.append_nil]; unfold extL; rw [if_neg he]
    have hm : (⟨extL c, [[]], false⟩ : RS).more = true := by rw [e]; exact more_at
    rw [hm, if_pos rfl, extsS_at hP h he (by decide)]
    rfl
end
end Go.Proofs.YtkdjhklnlnfhfaaGreatDoor
namespace Go.Proofs.YtkdjhklnlnfhfaaGreatDoor
open Go
set_option maxRecDepth 4000

theorem enterS_ok {m : BitVec 8} {s : RS} (h : (enterS m s).a = false) : s.a = false ∧ ∃ x r, El s.r m x r ∧ enterS m s = ⟨x, r :: s.s, false⟩ := by
  unfold enterS at h ⊢
  cases hc : cutP s.r with
  | none => rw [hc] at h; cases h
  | some p =>
    obtain ⟨x, r⟩ := p
    rw [hc] at h
    simp only at h ⊢
    by_cases hk : gb s.r 0 = m ∧ isW m = true ∧ s.s.length < 24
    · rw [if_pos hk] at h ⊢
      exact ⟨h, x, r, hk.1 ▸ cutP_some hc, by rw [show s.a = false from h]⟩
    · rw [if_neg hk] at h; cases h
theorem takeS_ok {m : BitVec 8} {s : RS} (h : (takeS m s).2.a = false) : s.a = false ∧ ∃ x r, El s.r m x r ∧ takeS m s = (x, ⟨r, s.s, false⟩) := by
  unfold takeS at h ⊢
  cases hc : cutP s.r with
  | none => rw [hc] at h; cases h
  | some p =>
    obtain ⟨x, r⟩ := p
    rw [hc] at h
    simp only at h ⊢
    by_cases hk : gb s.r 0 = m ∧ isP m = true
    · rw [if_pos hk] at h ⊢
      exact ⟨h, x, r, hk.1 ▸ cutP_some hc, by rw [show s.a = false from h]⟩
    · rw [if_neg hk] at h; cases h
theorem wholeS_ok {m : BitVec 8} {s : RS} (h : (wholeS m s).2.a = false) : s.a = false ∧ ∃ x r, El s.r m x r ∧ wholeS m s = (elm m x, ⟨r, s.s, false⟩) := by
  unfold wholeS at h ⊢
  cases hc : cutP s.r with
  | none => rw [hc] at h; cases h
  | some p =>
    obtain ⟨x, r⟩ := p
    rw [hc] at h
    simp only at h ⊢
    by_cases hk : gb s.r 0 = m
    · rw [if_pos hk] at h ⊢
      exact ⟨h, x, r, hk ▸ cutP_some hc, by rw [show s.a = false from h]⟩
    · rw [if_neg hk] at h; cases h
theorem leaveS_ok {s : RS} (h : (leaveS s).a = false) : s.a = false ∧ s.r = [] ∧ ∃ x t, s.s = x :: t ∧ leaveS s = ⟨x, t, false⟩ := by
  unfold leaveS at h ⊢
  by_cases hr : s.r = []
  · rw [if_pos hr] at h ⊢
    cases hs : s.s with
    | nil => rw [hs] at h; cases h
    | cons x t =>
      rw [hs] at h
      exact ⟨h, hr, x, t, rfl, by rw [show s.a = false from h]⟩
  · rw [if_neg hr] at h; cases h
theorem endS_ok {s : RS} (h : (endS s).a = false) : s.a = false ∧ s.r = [] ∧ s.s = [] := by
  unfold endS at h
  by_cases hr : s.r = [] ∧ s.s = []
  · rw [if_pos hr] at h; exact ⟨h, hr⟩
  · rw [if_neg hr] at h; cases h
theorem optS_ok {α : Type} {d : α} {o : Option α} {s : RS} (h : (optS d o s).2.a = false) : s.a = false ∧ ∃ v, o = some v ∧ optS d o s = (v, s) := by
  cases o with
  | none => cases h
  | some v => exact ⟨h, v, rfl, rfl⟩
theorem El.lt {b x r : List (BitVec 8)} {m : BitVec 8} (h : El b m x r) : r.length < b.length ∧ x.length < b.length := by
  have h1 := (el_parts h).2.2.1
  have h2 := hdn_lo x.length
  omega
theorem RS.Ok.enter {s : RS} (h : s.Ok) (m : BitVec 8) : (enterS m s).Ok := by
  unfold enterS
  cases hc : cutP s.r with
  | none => exact ⟨h.r, h.k, h.d⟩
  | some p =>
    obtain ⟨x, r⟩ := p
    have h1 := cutP_len hc
    have h2 := h.r
    simp only
    by_cases hk : gb s.r 0 = m ∧ isW m = true ∧ s.s.length < 24
    · rw [if_pos hk]
      exact ⟨by show x.length ≤ _; omega, fun y hy => by
        rcases List.mem_cons.1 hy with e | e
        · rw [e]; omega
        · exact h.k y e, by show (r :: s.s).length ≤ 24; rw [List.length_cons]; omega⟩
    · rw [if_neg hk]
      exact ⟨h.r, h.k, h.d⟩
theorem RS.Ok.take {s : RS} (h : s.Ok) (m : BitVec 8) : (takeS m s).2.Ok ∧ (takeS m s).1.length ≤ 1000000 := by
  unfold takeS
  cases hc : cutP s.r with
  | none => exact ⟨⟨h.r, h.k, h.d⟩, by simp⟩
  | some p =>
    obtain ⟨x, r⟩ := p
    have h1 := cutP_len hc
    have h2 := h.r
    simp only
    by_cases hk : gb s.r 0 = m ∧ isP m = true
    · rw [if_pos hk]
      exact ⟨⟨by show r.length ≤ _; omega, h.k, h.d⟩, by show x.length ≤ _; omega⟩
    · rw [if_neg hk]
      exact ⟨⟨h.r, h.k, h.d⟩, by simp⟩
theorem RS.Ok.whole {s : RS} (h : s.Ok) (m : BitVec 8) : (wholeS m s).2.Ok ∧ (wholeS m s).1.length ≤ 1000000 := by
  unfold wholeS
  cases hc : cutP s.r with
  | none => exact ⟨⟨h.r, h.k, h.d⟩, by simp⟩
  | some p =>
    obtain ⟨x, r⟩ := p
    have h1 := cutP_len hc
    have h2 := h.r
    have h3 := (el_parts (cutP_some hc)).2.2.1
    have h4 := elm_len m x
    simp only
    by_cases hk : gb s.r 0 = m
    · rw [if_pos hk]
      exact ⟨⟨by show r.length ≤ _; omega, h.k, h.d⟩, by show (elm m x).length ≤ _; omega⟩
    · rw [if_neg hk]
      exact ⟨⟨h.r, h.k, h.d⟩, by simp⟩
theorem RS.Ok.leave {s : RS} (h : s.Ok) : (leaveS s).Ok := by
  unfold leaveS
  by_cases hr : s.r = []
  · rw [if_pos hr]
    have hk := h.k
    have hd := h.d
    cases hs : s.s with
    | nil => exact ⟨h.r, h.k, h.d⟩
    | cons x t =>
      rw [hs] at hk hd
      rw [List.length_cons] at hd
      exact ⟨hk x (by simp), fun y hy => hk y (List.mem_cons_of_mem _ hy), by show t.length ≤ 24; omega⟩
  · rw [if_neg hr]
    exact ⟨h.r, h.k, h.d⟩
theorem RS.Ok.bad {s : RS} (h : s.Ok) : s.bad.Ok := ⟨h.r, h.k, h.d⟩
theorem RS.Ok.end_ {s : RS} (h : s.Ok) : (endS s).Ok := by
  unfold endS
  split
  · exact h
  · exact h.bad
theorem RS.Ok.opt {α : Type} {d : α} {o : Option α} {s : RS} (h : s.Ok) : (optS d o s).2.Ok := by
  cases o with
  | none => exact h.bad
  | some v => exact h
/-- an element was read, and no more -/
def Kee (s t : RS) : Prop := t.a = false → s.a = false ∧ t.s = s.s ∧ t.r.length < s.r.length
theorem takeS_kee (m : BitVec 8) (s : RS) : Kee s (takeS m s).2 := fun h => by
  obtain ⟨h1, x, r, he, e⟩ := takeS_ok h
  rw [e]
  exact ⟨h1, rfl, he.lt.1⟩
theorem wholeS_kee (m : BitVec 8) (s : RS) : Kee s (wholeS m s).2 := fun h => by
  obtain ⟨h1, x, r, he, e⟩ := wholeS_ok h
  rw [e]
  exact ⟨h1, rfl, he.lt.1⟩
theorem Kee.opt {α : Type} {d : α} {o : Option α} {s t : RS} (h : Kee s t) : Kee s (optS d o t).2 := fun h2 => by
  obtain ⟨h3, v, _, e⟩ := optS_ok h2
  rw [e]
  exact h h3
/-- entered, something read, left -/
theorem kee_in {m : BitVec 8} {s t : RS} (h : t.a = false → (enterS m s).a = false ∧ t.s = (enterS m s).s) : Kee s (leaveS t) := fun h2 => by
  obtain ⟨h3, _, x, k, hs, e⟩ := leaveS_ok h2
  obtain ⟨h4, h5⟩ := h h3
  obtain ⟨h6, y, r, he, e2⟩ := enterS_ok h4
  rw [e2, hs] at h5
  injection h5 with e3 e4
  rw [e, e3, e4]
  exact ⟨h6, rfl, he.lt.1⟩
variable (P : Prm)
theorem nameS_kee (s : RS) : Kee s (nameS P s).2 := (wholeS_kee 48 s).opt
theorem numS_kee (s : RS) : Kee s (numS P s).2 := (takeS_kee 2 s).opt
theorem oidS_kee (s : RS) : Kee s (oidS s).2 := (takeS_kee 6 s).opt
theorem bitsS_kee (s : RS) : Kee s (bitsS P s).2 := (takeS_kee 3 s).opt
theorem subF_kee (p : List (List (List Atr)) × RS) : Kee p.2 (subF P p).2 := kee_in fun h => by
  have h1 := kee_in (m := 164) (s := enterS 48 p.2) (t := (nameS P (enterS 164 (enterS 48 p.2))).2) (fun h => by
    obtain ⟨h1, h2, _⟩ := nameS_kee P _ h
    exact ⟨h1, h2⟩) h
  exact ⟨h1.1, h1.2.1⟩
theorem polF_kee (p : List (List Nat) × RS) : Kee p.2 (polF p).2 := kee_in fun h => by
  obtain ⟨h1, h2, _⟩ := oidS_kee _ h
  exact ⟨h1, h2⟩
theorem goS_mono {α : Type} {f : α × RS → α × RS} (hf : ∀ p, (f p).2.a = false → p.2.a = false) : ∀ (n : Nat) (p : α × RS), (goS f n p).2.a = false → p.2.a = false
  | 0, p, h => h
  | n + 1, p, h => by
    unfold goS at h
    split at h
    · exact hf p (goS_mono hf n (f p) h)
    · exact h
theorem depthS_mono {s : RS} (h : (depthS s).2.a = false) : s.a = false := by
  have h1 := (leaveS_ok h).1
  have h2 : (takeS 1 (enterS 48 s)).2.a = false := by
    by_cases hm : (takeS 1 (enterS 48 s)).2.more = true
    · rw [if_pos hm] at h1
      exact (takeS_ok (optS_ok h1).1).1
    · rw [if_neg hm] at h1
      exact h1
  exact (enterS_ok (takeS_ok h2).1).1
theorem withinS_mono {m : BitVec 8} {s : RS} (h : (withinS P m s).2.a = false) : s.a = false := by
  unfold withinS at h
  split at h
  · exact (enterS_ok (goS_mono (fun p hp => (subF_kee P p hp).1) _ _ (leaveS_ok h).1)).1
  · exact h
theorem polsS_mono {s : RS} (h : (polsS s).2.a = false) : s.a = false :=
  (enterS_ok (goS_mono (fun p hp => (polF_kee p hp).1) _ _ (leaveS_ok h).1)).1
theorem saidS_mono {o : List (BitVec 8)} {c : Rec} {s : RS} (h : (saidS P o c s).2.a = false) : s.a = false := by
  unfold saidS at h
  split at h
  · exact depthS_mono h
  · split at h
    · exact (bitsS_kee P s h).1
    · split at h
      · exact (enterS_ok (withinS_mono P (withinS_mono P (leaveS_ok h).1))).1
      · split at h
        · exact polsS_mono h
        · cases h
theorem extF_kee (p : Rec × RS) : Kee p.2 (extF P p).2 := kee_in fun h => by
  have h1 := saidS_mono P (endS_ok h).1
  obtain ⟨h2, x, r, he, e⟩ := takeS_ok h1
  have e2 : (takeS 4 (if (takeS 6 (enterS 48 p.2)).2.at_ 1 = true then (takeS 1 (takeS 6 (enterS 48 p.2)).2).2 else (takeS 6 (enterS 48 p.2)).2)).2.s = (if (takeS 6 (enterS 48 p.2)).2.at_ 1 = true then (takeS 1 (takeS 6 (enterS 48 p.2)).2).2 else (takeS 6 (enterS 48 p.2)).2).s := by rw [e]
  have h3 : (takeS 6 (enterS 48 p.2)).2.a = false ∧ (if (takeS 6 (enterS 48 p.2)).2.at_ 1 = true then (takeS 1 (takeS 6 (enterS 48 p.2)).2).2 else (takeS 6 (enterS 48 p.2)).2).s = (takeS 6 (enterS 48 p.2)).2.s := by
    split at h2
    · rename_i hm
      rw [if_pos hm]
      obtain ⟨h4, h5, _⟩ := takeS_kee 1 _ h2
      exact ⟨h4, h5⟩
    · rename_i hm
      rw [if_neg hm]
      exact ⟨h2, rfl⟩
  obtain ⟨h6, h7, _⟩ := takeS_kee 6 _ h3.1
  exact ⟨h6, e2.trans (h3.2.trans h7)⟩
theorem more_end {s : RS} (h : s.a = true) : s.more = false := by unfold RS.more; rw [h]; simp
theorem kindS_ok {l : List Nat} {s : RS} (h : (kindS (oidB l) s).a = false) : s.a = false ∧ ∃ r, s.r = kndE l ++ r ∧ kindS (oidB l) s = ⟨r, s.s, false⟩ := by
  unfold kindS at h ⊢
  simp only at h ⊢
  by_cases ho : (takeS 6 (enterS 48 s)).1 = oidB l
  · rw [if_pos ho] at h ⊢
    obtain ⟨h1, h2, x, k, h3, h4⟩ := leaveS_ok h
    by_cases hq : (takeS 5 (takeS 6 (enterS 48 s)).2).1 = []
    · rw [if_pos hq] at h1 h2 h3 h4 ⊢
      obtain ⟨h5, y, r, he, e⟩ := takeS_ok h1
      obtain ⟨h6, y2, r2, he2, e2⟩ := takeS_ok h5
      obtain ⟨h7, y3, r3, he3, e3⟩ := enterS_ok h6
      rw [e] at h2 h3 hq
      rw [e2] at ho he h3
      rw [e3] at he2 h3
      simp only at h2 h3 ho he he2 hq
      subst hq ho h2
      injection h3 with e4 e5
      refine ⟨h7, r3, ?_, ?_⟩
      · rw [he3.2.2, he2.2.2, he.2.2, List.append_nil]; rfl
      · rw [h4, e4, e5]
    · rw [if_neg hq] at h1; cases h1
  · rw [if_neg ho] at h
    have := (leaveS_ok h).1
    cases this
theorem bitsS_ok {s : RS} (h : (bitsS P s).2.a = false) : s.a = false ∧ ∃ k l r, El s.r 3 (k :: l) r ∧ bitsS P s = ((l, (k.toNat : Int)), ⟨r, s.s, false⟩) := by
  unfold bitsS at h ⊢
  simp only at h ⊢
  obtain ⟨h1, v, hv, e⟩ := optS_ok h
  obtain ⟨h2, x, r, he, e2⟩ := takeS_ok h1
  rw [e2] at hv
  simp only at hv
  split at hv
  · rename_i hc
    match x, hc with
    | k :: l, hc =>
      injection hv with hv
      refine ⟨h2, k, l, r, he, ?_⟩
      rw [e, e2, ← hv]
      rfl
  · cases hv
/-- a certificate's body and signature, as the reader goes -/
theorem splS_eq (hb : ∀ l, P.bits l 0 = true) (b : List (BitVec 8)) : splL b = if (splS P b).2.a = false ∧ (splS P b).1.2.2 = 0 then some ((splS P b).1.1, (splS P b).1.2.1) else none := by
  by_cases hc : (splS P b).2.a = false ∧ (splS P b).1.2.2 = 0
  · rw [if_pos hc]
    obtain ⟨h, hu⟩ := hc
    unfold splS at h hu ⊢
    simp only at h hu ⊢
    obtain ⟨h1, h2, h3⟩ := endS_ok h
    obtain ⟨h4, h5, x, t, h6, h7⟩ := leaveS_ok h1
    obtain ⟨h8, k, l, r, he, e⟩ := bitsS_ok P h4
    rw [oS_eq] at h8
    obtain ⟨h9, r2, he2, e2⟩ := kindS_ok h8
    obtain ⟨h10, y, r3, he3, e3⟩ := wholeS_ok h9
    obtain ⟨h11, y4, r4, he4, e4⟩ := enterS_ok h10
    rw [h7] at h2 h3
    simp only at h2 h3
    subst h2 h3
    rw [← oS_eq] at e2
    rw [e] at hu h6 h5 ⊢
    simp only at hu h6 h5 ⊢
    subst h5
    have hk : k = 0 := by apply BitVec.eq_of_toNat_eq; simpa using hu
    subst hk
    rw [e2] at he h6
    rw [e3] at he2 h6
    rw [e4] at he3 h6
    simp only at he he2 he3 h6
    obtain ⟨e5, _⟩ := List.cons.inj h6
    subst e5
    rw [e3]
    refine splL_iff.2 ⟨⟨y, he3.2.1, rfl⟩, ⟨by have := he.2.1; rwa [List.length_cons] at this, ?_⟩, ?_⟩
    · have h12 := he4.2.1
      rw [he3.2.2, he2, he.2.2, List.append_nil] at h12
      exact h12
    · have h13 : b = elm 48 y4 ++ [] := he4.2.2
      show b = encX (elm 48 y) l
      rw [h13, he3.2.2, he2, he.2.2, List.append_nil, List.append_nil]; rfl
  · rw [if_neg hc]
    cases hs : splL b with
    | none => rfl
    | some p =>
      obtain ⟨x, s⟩ := p
      obtain ⟨⟨y, hy, rfl⟩, ⟨hs1, hs2⟩, rfl⟩ := splL_iff.1 hs
      refine absurd ?_ hc
      have e1 : enterS 48 ⟨encX (elm 48 y) s, [], false⟩ = ⟨encI (elm 48 y) s, [[]], false⟩ := enterS_one (by decide) hs2 (by decide)
      have e2 : wholeS 48 ⟨encI (elm 48 y) s, [[]], false⟩ = (elm 48 y, ⟨sgnE ++ elm 3 (0 :: s), [[]], false⟩) := wholeS_at (by decide) hy
      have e3 : kindS oS ⟨sgnE ++ elm 3 (0 :: s), [[]], false⟩ = ⟨elm 3 (0 :: s), [[]], false⟩ := by rw [oS_eq]; exact kindS_at sgnO_ok (by decide)
      have e4 : bitsS P ⟨elm 3 (0 :: s), [[]], false⟩ = ((s, 0), ⟨[], [[]], false⟩) := by
        have h := bitsS_at (P := P) (l := s) (k := 0) (r := []) (st := [[]]) (a := false) (hb _) (by omega)
        rwa [List.append_nil] at h
      unfold splS
      simp only [e1, e2, e3, e4]
      exact ⟨rfl, trivial⟩
end Go.Proofs.YtkdjhklnlnfhfaaGreatDoor
namespace Go.Proofs.YtkdjhklnlnfhfaaGreatDoor
open Go Go.RowKit
set_option maxRecDepth 4000

section
variable {w : World} {p : Nat} {G : List Nat} {rest : List (BitVec 8)} {bs : List (List (BitVec 8))} {m : BitVec 8}
set_option maxHeartbeats 2000000 in
theorem Whole_err (h : Rr w p G rest bs) (hx : rest.length ≤ 1000000000000) (he : ¬ ∃ m x r, El rest m x r) : Calls Tryz.prog 108 #[.pointer (some ⟨p, 0, none⟩)] w fun e w' => ∃ k, e = .returned (.tuple #[.slice none 0 0, err k]) ∧ Ext w w' := by
  obtain ⟨ds, A, n, c, vb, ts, h, rfl⟩ := h
  have hl := h.rs.len
  have C : ∃ k, Calls Tryz.prog 156 #[.slice A n c] w (ElN w k) := by
    by_cases h0 : n = 0
    · subst h0
      exact ⟨13, elementOf_none⟩
    · exact ⟨2, elementOf_form h.rs (by omega) (by omega) he⟩
  obtain ⟨k, C⟩ := C
  have C := Kp.mk C
  have hc0 := fun (w' : World) (hx : Ext w w') => h.blk.cell hx 0
  have hc00 := hc0 w (Ext.refl w)
  clear h hl hx he
  go_enter Tryz.func108, Tryz.ntmps108
  go_wp2_with (first | (go_at_call 156; refine C.out.mono ?_; rintro e w2 ⟨rfl, hx2⟩; have HX2 := Kp.mk hx2; have HN2 := Kp.mk (Blk.new w2 elt #[.slice none 0 0, .slice none 0 0, .slice none 0 0]); clear hx2) | ((with_reducible refine at_store 4 12 ?_); refine wpList_store_row rfl elt _ _ rfl w2.heap.size #[.slice none 0 0, .slice none 0 0, .slice none 0 0] rfl rfl elt _ HN2.out.h szEl rfl (one_three _ _ _ _ _ _ _ _ _) ?_) | fail)
  go_ret2
  exact ⟨k, rfl, HX2.out.trans (Ext.setRow ((by (repeat (first | assumption | exact Ext.refl _ | apply Ext.drew | apply Ext.drewN | apply Ext.alloc | refine Ext.trans ?_ (by assumption))); first | done | fail) : Ext w2 (w2.alloc (.cells #[.slice none 0 0, .slice none 0 0, .slice none 0 0] elt))) (Nat.le_refl _) _)⟩
set_option maxHeartbeats 4000000 in
theorem Whole_ok {x r : List (BitVec 8)} (h : Rr w p G rest bs) (hx : rest.length ≤ 1000000000000) (he : El rest m x r) : Calls Tryz.prog 108 #[.pointer (some ⟨p, 0, none⟩)] w (TakR w p G (elm m x) r bs) := by
  obtain ⟨ds, A, n, c, vb, ts, h, rfl⟩ := h
  have hl := h.rs.len
  have C := Kp.mk (elementOf_ok h.rs h.ri (by omega) he)
  have hc0 := fun (w' : World) (hx : Ext w w') => h.blk.cell hx 0
  have hc00 := hc0 w (Ext.refl w)
  have hf0 := fun (w' : World) (hx : Ext w w') => h.blk.free hx 0
  have hxl := Kp.mk he.2.1
  have hel := Kp.mk (elm_hi m x)
  have H := Kp.mk h
  have HPL := Kp.mk h.blk.lt
  clear h hx he hl
  go_enter Tryz.func108, Tryz.ntmps108
  go_wp2_with (first | (go_at_call 156; refine C.out.mono ?_; rintro e w2 ⟨A1, n1, c1, A2, n2, c2, A3, n3, c3, rfl, q1, q2, q3, j1, j2, j3, hx2⟩; have HX2 := Kp.mk hx2; have HN2 := Kp.mk (Blk.new w2 elt #[.slice none 0 0, .slice none 0 0, .slice none 0 0]); have HN3 := Kp.mk ((Blk.new w2 elt #[.slice none 0 0, .slice none 0 0, .slice none 0 0]).row #[.slice A1 n1 c1, .slice A2 n2 c2, .slice A3 n3 c3]); have HY3 := Kp.mk (Ext.setRow ((by (repeat (first | assumption | exact Ext.refl _ | apply Ext.drew | apply Ext.drewN | apply Ext.alloc | refine Ext.trans ?_ (by assumption))); first | done | fail) : Ext w2 (w2.alloc (.cells #[.slice none 0 0, .slice none 0 0, .slice none 0 0] elt))) (Nat.le_refl _) #[.slice A1 n1 c1, .slice A2 n2 c2, .slice A3 n3 c3]); have Q1 := Kp.mk q1; have Q3 := Kp.mk q3; have J1 := Kp.mk j1; have J3 := Kp.mk j3; clear q1 q2 q3 j1 j2 j3 hx2) | ((with_reducible refine at_store 4 12 ?_); refine wpList_store_row rfl elt _ _ rfl w2.heap.size #[.slice A1 n1 c1, .slice A2 n2 c2, .slice A3 n3 c3] rfl rfl elt _ HN2.out.h szEl rfl (one_three _ _ _ _ _ _ _ _ _) ?_; generalize (w2.alloc (.cells #[.slice none 0 0, .slice none 0 0, .slice none 0 0] elt)).setRow w2.heap.size #[.slice A1 n1 c1, .slice A2 n2 c2, .slice A3 n3 c3] = w3 at *; have HX3 := Kp.mk (HX2.out.trans HY3.out); have hk2 := HN3.out.h.cell 2; have hc3 := hc0 w3 HX3.out; have hf3 := hf0 w3 HX3.out; have hne : w2.heap.size ≠ p := fun e => Nat.lt_irrefl _ (Nat.lt_of_lt_of_le HPL.out (e ▸ HX2.out.size)); have hk1 := (HN3.out.far (p := ⟨p, 0, none⟩) hne (.slice A3 n3 c3)).h.cell 0; have W4 := Kp.mk ((H.out.ext HX3.out).put (Q3.out.ext HY3.out) J3.out); have CL := Kp.mk (Clone_any ((Q1.out.ext HY3.out).mds ((Mds.refl [p] w3).setCell (p := ⟨p, 0, none⟩) (by simp) (.slice A3 n3 c3)) (J1.out.off (fun k hk h1 => H.out.apd k hk (by rw [List.mem_singleton.1 h1]; simp)))) (by have h1 := Q1.out.len; have h2 := hxl.out; have h3 := hel.out; omega)); clear hne) | (go_at_call 152; refine CL.out.mono ?_; rintro e w5 ⟨A5, c5, rfl, hs5, ho5, hx5⟩) | fail)
  go_ret2
  exact ⟨_, _, _, rfl, ho5.lower (Nat.le_trans HX3.out.size W4.out.2.m.size), ⟨_, _, _, _, _, _, W4.out.1.ext hx5, rfl⟩, (HX3.out.mds _).trans (W4.out.2.m.trans (hx5.mds _))⟩
end
abbrev crd : TypeId := 106
/-- a certificate's reader in its blocks -/
structure Cr (w : World) (q : Nat) (G : List Nat) (s : RS) : Prop where
  ex : ∃ p H, Blk w q crd #[.pointer (some ⟨p, 0, none⟩), .bool s.a] ∧ Rr w p H s.r s.s.reverse ∧ q ∉ H ∧ G = q :: H
  ok : s.Ok
section
variable {w w' : World} {q : Nat} {G H : List Nat} {s : RS}
theorem Cr.mds (h : Cr w q G s) (hm : Mds H w w') (ha : Ap G H) : Cr w' q G s := by
  obtain ⟨⟨p, H1, h1, h2, h3, rfl⟩, ho⟩ := h
  exact ⟨⟨p, H1, h1.mds hm (ha q (by simp)), h2.mds hm (fun k hk => ha k (by simp [hk])), h3, rfl⟩, ho⟩
theorem Cr.ext (h : Cr w q G s) (hx : Ext w w') : Cr w' q G s := h.mds (hx.mds []) (fun _ _ h => by cases h)
theorem Cr.hi (h : Cr w q G s) : Hi w G := by
  obtain ⟨⟨p, H1, h1, h2, h3, rfl⟩, ho⟩ := h
  intro k hk
  rcases List.mem_cons.1 hk with rfl | hk
  · exact h1.lt
  · exact h2.hi k hk
theorem Cr.mem (h : Cr w q G s) : q ∈ G := by
  obtain ⟨⟨p, H1, _, _, _, rfl⟩, _⟩ := h
  simp
/-- whether something was amiss, stored -/
theorem Cr.put (h : Cr w q G s) (b : Bool) : Cr (w.setCell ⟨q, 1, none⟩ (.bool b)) q G ⟨s.r, s.s, b⟩ ∧ Mds G w (w.setCell ⟨q, 1, none⟩ (.bool b)) := by
  obtain ⟨⟨p, H1, h1, h2, h3, rfl⟩, ho⟩ := h
  have hm : Mds [q] w (w.setCell ⟨q, 1, none⟩ (.bool b)) := (Mds.refl [q] w).setCell (p := ⟨q, 1, none⟩) (by simp) _
  exact ⟨⟨⟨p, H1, h1.set_ 1 _, h2.mds hm (fun k hk h4 => h3 (by rwa [List.mem_singleton.1 h4] at hk)), h3, rfl⟩, ⟨ho.r, ho.k, ho.d⟩⟩, hm.mono fun k hk => by rw [List.mem_singleton.1 hk]; simp⟩
/-- tlv's reader went on: another state, in other blocks -/
theorem Cr.turn {p : Nat} {H1 H2 : List Nat} {r : List (BitVec 8)} {st : List (List (BitVec 8))} {a : Bool} (h1 : Blk w q crd #[.pointer (some ⟨p, 0, none⟩), .bool a]) (h3 : q ∉ H1) (hr : Rr w' p H2 r st.reverse) (hm : Mvs H1 H2 w w') (ho : RS.Ok ⟨r, st, a⟩) :
    Cr w' q (q :: H2) ⟨r, st, a⟩ ∧ Mvs (q :: H1) (q :: H2) w w' := by
  refine ⟨⟨⟨p, H2, h1.mds hm.m h3, hr, fun hk => ?_, rfl⟩, ho⟩, hm.m.mono fun k hk => by simp [hk], fun k hk => ?_⟩
  · rcases hm.f q hk with e | e
    · exact h3 e
    · have := h1.lt; omega
  · rcases List.mem_cons.1 hk with e | e
    · exact .inl (by rw [e]; simp)
    · rcases hm.f k e with e2 | e2
      · exact .inl (by simp [e2])
      · exact .inr e2
/-- an error, and whether it leaves something amiss -/
def NE (E : Value) (s t : RS) : Prop := (E = .nilIface ∧ t.a = s.a) ∨ ∃ k, E = err k ∧ t.a = true
/-- what a reader's function answers that tells nothing -/
def StR (w : World) (q : Nat) (G : List Nat) (s : RS) (e : Ending) (w' : World) : Prop := e = .returned (.tuple #[]) ∧ ∃ G', Cr w' q G' s ∧ Mvs G G' w w'
def StM (w : World) (q : Nat) (G : List Nat) (s : RS) (e : Ending) (w' : World) : Prop := e = .returned (.tuple #[]) ∧ Cr w' q G s ∧ Mds G w w'
set_option maxHeartbeats 1000000 in
theorem crNote {E : Value} {t : RS} {a : Bool} (h : Cr w q G ⟨t.r, t.s, a⟩) (hE : (E = .nilIface ∧ t.a = a) ∨ ∃ k, E = err k ∧ t.a = true) : Calls Tryz.prog 105 #[.pointer (some ⟨q, 0, none⟩), E] w (StM w q G t) := by
  rcases hE with ⟨rfl, ha⟩ | ⟨k, rfl, ha⟩
  · have h1 : Cr w q G t := by cases t; simp only at ha; subst ha; exact h
    clear h
    have H := Kp.mk h1
    clear h1
    go_enter Tryz.func105, Tryz.ntmps105
    go_wp2_with fail
    refine bodyPost_ret (results_none rfl _ _ _) rfl ?_
    exact ⟨rfl, H.out, Mds.refl _ _⟩
  · have h1 := h.put true
    have h2 : (⟨t.r, t.s, true⟩ : RS) = t := by cases t; simp only at ha; subst ha; rfl
    rw [h2] at h1
    obtain ⟨⟨p, H1, hb, h5, h6, hg⟩, h7⟩ := h
    have hf := hb.h.frozen 1
    have hc := hb.h.cell 1
    have H := Kp.mk h1
    clear h1 h2 hb ha h5 h6 hg h7
    go_enter Tryz.func105, Tryz.ntmps105
    go_wp2_with fail
    refine bodyPost_ret (results_none rfl _ _ _) rfl ?_
    exact ⟨rfl, H.out.1, H.out.2⟩
end
end Go.Proofs.YtkdjhklnlnfhfaaGreatDoor
