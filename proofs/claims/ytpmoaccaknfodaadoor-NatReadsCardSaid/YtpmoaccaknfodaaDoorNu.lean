/-
  nat: multiply, product.
-/
import Derived.Test.YtpmoaccaknfodaaDoorNs
namespace Go.Proofs.YtpmoaccaknfodaaDoor
open Go Go.RowKit

theorem Lb.zeros {g : Nat} : ∀ (k : Nat) {w : World} {L : List Nat} (o : Nat), Lb w g L → ∃ L', Lb (w.setCells g o (List.replicate k (.int .u32 0))) g L' ∧ L'.length = L.length ∧ ∀ i, i < L.length → dg L' i = if o ≤ i ∧ i < o + k then 0 else dg L i
  | 0, w, L, o, h => ⟨L, h, rfl, fun i _ => by rw [if_neg (by omega)]⟩
  | k + 1, w, L, o, h => by
    obtain ⟨L', h1, h2, h3⟩ := Lb.zeros k (o + 1) (Lb.set h o 0)
    refine ⟨L', by rw [List.replicate_succ]; exact h1, by rw [h2, List.length_set], fun i hi => ?_⟩
    rw [h3 i (by rw [List.length_set]; exact hi)]
    by_cases ho : o < L.length
    · rw [dg_set _ _ _ _ ho]
      by_cases e1 : o + 1 ≤ i ∧ i < o + 1 + k
      · rw [if_pos e1, if_pos (by omega)]
      · rw [if_neg e1]
        by_cases e2 : i = o
        · rw [if_pos e2, if_pos (by omega)]
        · rw [if_neg e2, if_neg (by omega)]
    · rw [if_neg (by omega), if_neg (by omega), List.set_eq_of_length_le (by omega)]
theorem setCells_mds {g : Nat} : ∀ (vs : List Value) (w : World) (o : Nat), Mds [g] w (w.setCells g o vs)
  | [], w, _ => Mds.refl _ _
  | v :: r, w, o => ((Mds.refl [g] w).setCell (p := ⟨g, o, none⟩) (by simp) v).trans (setCells_mds r _ (o + 1))
theorem zero_u32 (w : World) : (zeroValue ut).run Tryd.prog w = .ok (.int .u32 0) w := by
  obtain ⟨i, hi, hz, _, _⟩ := info_parts inL
  simp [zeroValue, typeInfo, hi, hz]
/-- clear(a), a a block whole -/
theorem run_clear_L (ty : TypeId) {w : World} {g N c : Nat} {L : List Nat} (hB : Lb w g L) (hN : L.length = N) :
    ∃ w', (Builtin.clear_ #[nt] ty #[.slice (some ⟨g, 0, none⟩) N c]).run Tryd.prog w = .ok (.tuple #[]) w' ∧ Lb w' g (zl N) ∧ Mds [g] w w' := by
  rcases Nat.eq_zero_or_pos N with h0 | h0
  · subst h0
    have e : L = [] := List.eq_nil_of_length_eq_zero hN
    subst e
    exact ⟨w, by simp [Builtin.clear_, run_underlying Tryd.underlying25], hB, Mds.refl _ _⟩
  · have hr := Lib.run_clear_slice (P := Tryd.prog) w nt ut ty (.int .u32 0) Tryd.underlying25 zero_u32 rfl rfl g 0 N c h0
      (fun j hj => by rw [Nat.zero_add, Lb.cell hB j (by omega)]; rfl) (fun j _ => Lb.free hB (0 + j))
    obtain ⟨L', h1, h2, h3⟩ := Lb.zeros N 0 hB
    have e : L' = zl N := dg_ext (by rw [h2, zl_len, hN]) fun i hi => by rw [h3 i (by omega), if_pos (by omega), zl, dg_zeros]
    rw [e] at h1
    exact ⟨_, hr, h1, setCells_mds _ _ _⟩
/-- what a product in place leaves -/
def Mulled (w : World) (g : Nat) (a b : List Nat) (e : Ending) (w' : World) : Prop :=
  ∃ out, e = .returned (.tuple #[]) ∧ out.length = a.length + b.length ∧ Dg BB out ∧ vl BB out = vl BB a * vl BB b ∧ Lb w' g out ∧ Mds [g] w w'
theorem run_fromL (g n c k : Nat) (x : Int) (hx : x = (k : Int)) (hk : k < n) (hn : n ≤ c) (w : World) :
    (Instr.sliceAt nt (.slice (some ⟨g, 0, none⟩) n c) (some (.int .i64 x)) none none).run Tryd.prog w = .ok (.slice (some ⟨g, k, none⟩) (n - k) (c - k)) w := by
  rw [run_from (P := Tryd.prog) (some ⟨g, 0, none⟩) n c nt ut Tryd.underlying25 szL k x hx (by omega) w, if_neg (by omega)]
  have : (⟨g, 0, none⟩ : Addr).add k = ⟨g, k, none⟩ := by unfold Addr.add; split <;> simp_all
  rw [Option.map_some, this]
set_option maxHeartbeats 2000000 in
theorem multiply_any {a b L : List Nat} {g n c m d N cN : Nat} {A B : Option Addr} {w : World} (hL0 : Lb w g L) (hN : L.length = N) (hNm : N = n + m) (hc : N ≤ cN) (ha : Rd vL w A n c a) (hb : Rd vL w B m d b) (hoa : 0 < n → Out A [g]) (hob : 0 < m → Out B [g])
    (da : Dg BB a) (db : Dg BB b) (hlim : N ≤ 1000000000000) :
    Calls Tryd.prog 53 #[.slice (some ⟨g, 0, none⟩) N cN, .slice A n c, .slice B m d] w (Mulled w g a b) := by
  have hla := ha.len
  have hlb := hb.len
  have HA := Kp.mk ha
  have HB := Kp.mk hb
  have DA := Kp.mk da
  have DB := Kp.mk db
  obtain ⟨w0, hcl, hL1, hm1⟩ := run_clear_L (c := cN) 0 hL0 hN
  have hst := MulS.start (B := BB) (by decide) a b
  rw [hla, hlb, ← hNm] at hst
  have HST := Kp.mk hst
  have HL1 := Kp.mk hL1
  have HM1 := Kp.mk hm1
  have HNN := Kp.mk hNm
  have hmb : m ≤ 1000000000000 := by omega
  have hnb : n ≤ 1000000000000 := by omega
  clear ha hb da db hst hL1 hm1 hL0 hN hNm
  go_enter Tryd.func53, Tryd.ntmps53
  go_wp2_with fail

  go_loopw [15] (fun iv wr => ∃ i : Nat, ∃ out : List Nat, i ≤ n ∧ iv = .int .i64 (i : Int) ∧ MulS BB a b i out ∧ Lb wr g out ∧ Mds [g] w wr) (fun i _ => n - (intOf i).toNat)
  case atStart => exact ⟨0, _, by omega, rfl, HST.out, HL1.out, HM1.out⟩
  case round =>
    obtain ⟨i, out, hi, rfl, hs, ho, hx⟩ := hrel
    have hNn := HNN.out
    by_cases hlt : i < n
    · have b0 : (i : Int) < (n : Int) := by omega
      have he := hs.enter (by decide)
      have hs1 := run_fromL g N cN i (i : Int) rfl (by omega) (by omega)
      have hs2 := fun W => run_upto (P := Tryd.prog) (some ⟨g, i, none⟩) (N - i) (cN - i) nt ut Tryd.underlying25 szL m (m : Int) rfl (by omega) W
      obtain ⟨gA, oA, rfl⟩ := HA.out.some_ (by omega)
      have k1 := (HA.out.mds hx hoa).dig i hlt
      unfold vL at k1
      have h1 := DA.out.at32 i
      clear hs
      obtain ⟨x, hxx⟩ : ∃ x, x = dg a i := ⟨_, rfl⟩
      have HXX := Kp.mk hxx
      rw [← hxx] at k1 h1
      clear hxx hNn
      go_wp2_with fail
      go_loopw [9, 31] (fun cv kv wq => ∃ q k : Nat, ∃ out : List Nat, k ≤ m ∧ kv = .int .i64 (k : Int) ∧ cv = .int .u64 (q : Int) ∧ MulT BB a b i k out q ∧ Lb wq g out ∧ Mds [g] w wq) (fun _ k _ => m - (intOf k).toNat)
      case atStart => exact ⟨0, 0, out, by omega, rfl, rfl, he, ho, hx⟩
      case round =>
        clear he ho hx
        obtain ⟨q, k, out, hk, rfl, rfl, hs, ho, hx⟩ := hrel
        have hNn := HNN.out
        have hol := hs.len
        by_cases hlk : k < m
        · obtain ⟨g2, o2, rfl⟩ := HB.out.some_ (by omega)
          have d0 : (k : Int) < (m : Int) := by omega
          have k2 := (HB.out.mds hx hob).dig k hlk
          unfold vL at k2
          have k3 := Lb.cell ho (i + k) (by omega)
          have k4 := Lb.free ho (i + k)
          have h2 := DB.out.at32 k
          have h3 := hs.d.at32 (i + k)
          have h4 : q < 4294967296 := hs.cr
          have HNX := Kp.mk (hs.next DA.out DB.out (by decide) (by omega) (by omega))
          have HO := Kp.mk ho
          have HX := Kp.mk hx
          rw [← HXX.out] at HNX
          generalize dg b k = y at *
          generalize dg out (i + k) = z at *
          have hp : x * y ≤ 4294967295 * 4294967295 := Nat.mul_le_mul (by omega) (by omega)
          obtain ⟨p, hpp⟩ : ∃ p, x * y = p := ⟨_, rfl⟩
          have e0 : (x : Int) * (y : Int) = (p : Int) := by rw [← hpp]; exact (Int.natCast_mul x y).symm
          rw [hpp] at hp HNX
          have e1 : IntKind.u64.wrap (p : Int) = (p : Int) := by rw [IntKind.wrap_u64]; omega
          have ey : IntKind.u64.wrap (y : Int) = (y : Int) := by rw [IntKind.wrap_u64]; omega
          have ez : IntKind.u64.wrap (z : Int) = (z : Int) := by rw [IntKind.wrap_u64]; omega
          obtain ⟨s, hss⟩ : ∃ s, q + p + z = s := ⟨_, rfl⟩
          have e2 : IntKind.u64.wrap ((p : Int) + (z : Int)) = (p : Int) + (z : Int) := by rw [IntKind.wrap_u64]; omega
          have e3 : IntKind.u64.wrap ((p : Int) + (z : Int) + (q : Int)) = (s : Int) := by rw [IntKind.wrap_u64]; omega
          have d3 : (s : Int) < 18446744073709551616 := by omega
          rw [hss] at HNX
          clear hpp hss hs ho hx h1 h2 h3 h4 hp hNn hol
          go_wp2_with fail
          go_region
          go_wp2_with fail
          go_roundw
          case rel =>
            refine ⟨s / 4294967296, k + 1, _, by omega, by go_num, by go_num, HNX.out, ?_, (HX.out.setCell (p := ⟨g, i + k, none⟩) (by simp) _).drew⟩
            rw [show ((s : Int) % 4294967296) = ((s % 4294967296 : Nat) : Int) by omega]
            exact (Lb.set HO.out (i + k) (s % 4294967296)).ext (Ext.refl _).drew
          case measure => simp [intOf]; omega
        · obtain rfl : k = m := by omega
          have hl : MulS BB a b (i + 1) (out.set (i + k) q) := by
            have h := hs
            rw [← hlb] at h
            have h2 := h.leave (by omega)
            rwa [hlb] at h2
          have k4 := Lb.free ho (i + k)
          have HL := Kp.mk hl
          have HO := Kp.mk ho
          have HX := Kp.mk hx
          have h4 : q < 4294967296 := hs.cr
          have e4 : IntKind.u32.wrap (q : Int) = (q : Int) := by rw [IntKind.wrap_u32]; omega
          have k3 := Lb.cell ho (i + k) (by omega)
          have d2 : (i : Int) + (k : Int) < (N : Int) := by omega
          clear hs ho hx hl hNn hol
          go_wp2_with fail
          go_roundw
          case rel => exact ⟨i + 1, _, by omega, by go_num, HL.out, Lb.set HO.out (i + k) q, HX.out.setCell (p := ⟨g, i + k, none⟩) (by simp) _⟩
          case measure => simp [intOf]; omega
    · obtain rfl : i = n := by omega
      have hv : vl BB out = vl BB a * vl BB b := by
        have h := hs
        rw [← hla] at h
        exact h.done
      have HF := Kp.mk (show Mulled w g a b (.returned (.tuple #[])) wr from ⟨out, rfl, hs.len, hs.d, hv, ho, hx⟩)
      clear hs ho hx hv hNn
      go_wp2_with fail
      go_end0
      exact HF.out
end Go.Proofs.YtpmoaccaknfodaaDoor
