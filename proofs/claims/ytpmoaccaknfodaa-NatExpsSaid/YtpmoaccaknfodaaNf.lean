/-
  The reference's Mul.
-/
import Derived.Test.YtpmoaccaknfodaaNb
import Derived.Laws.MakeOwn
namespace Go.Proofs.Ytpmoaccaknfodaa
open Go Go.RowKit

def zI (n : Nat) : Array Value := ((List.replicate n 0).map vI).toArray
/-- make(Num, n) -/
theorem run_makeI (n : Nat) (S : Int) (hS : S = (n : Int)) (hn : n ≤ 10000000000000) (w : World) :
    (Instr.makeSlice nm (.int .i64 S) (.int .i64 S)).run Try.prog w = .ok (.slice (some ⟨w.heap.size, 0, none⟩) n n) (w.alloc (.cells (zI n) it)) := by
  subst hS
  obtain ⟨i, hi, hz, hs, hb⟩ := info_parts inI
  have hr := run_make (P := Try.prog) w nm it i (.int .i64 0) Try.underlying29 hi hz .i64 .i64 (n : Int) (n : Int) (by omega) (by omega) (by rw [hb]; omega) (by omega)
  rw [hr, hs]
  simp only [Int.toNat_natCast, Nat.mul_one]
  rw [show (Value.int .i64 0).cells = #[Value.int .i64 0] from rfl]
  have e : madeCells #[Value.int .i64 0] n = zI n := by
    apply Array.ext_getElem?
    intro i
    by_cases h : i < n
    · simp [madeCells, zI, vI, h, Nat.mod_one]
    · simp [madeCells, zI, h]
  rw [e]
theorem makeI_own (w : World) (n : Nat) (hn : n ≤ 10000000000000) : Rn (w.alloc (.cells (zI n) it)) w.heap.size (.slice (some ⟨w.heap.size, 0, none⟩) n n) n (List.replicate n 0) :=
  Rw.has (Has.new w it _ _ rfl) (by simp) (Nat.le_refl _) (by unfold maxLen; omega)
set_option maxHeartbeats 1000000 in
theorem mul_any {a b : List Nat} {A B : Option Addr} {n c m d : Nat} {w : World} (ha : Rd vI w A n c a) (hb : Rd vI w B m d b) (da : Dg 65536 a) (db : Dg 65536 b) (hn : n ≤ 1000000000000) (hm : m ≤ 1000000000000) :
    Calls Try.prog 24 #[.slice A n c, .slice B m d] w (FreshN w (vl 65536 a * vl 65536 b)) := by
  have hla := ha.len
  have hlb := hb.len
  obtain ⟨N, hN⟩ : ∃ N, N = n + m := ⟨_, rfl⟩
  have hmk := run_makeI N ((n : Int) + (m : Int)) (by omega) (by omega)
  have hst := MulS.start (B := 65536) (by decide) a b
  rw [hla, hlb, ← hN] at hst
  have HST := Kp.mk hst
  have HA := Kp.mk ha
  have HB := Kp.mk hb
  have DA := Kp.mk da
  have DB := Kp.mk db
  have HN := Kp.mk hN
  clear ha hb da db hst hN
  have HM := Kp.mk (makeI_own w N (by have := HN.out; omega))
  have HXM := Kp.mk (show Ext w (w.alloc (.cells (zI N) it)) from (by (repeat (first | assumption | exact Ext.refl _ | apply Ext.drew | apply Ext.drewN | apply Ext.alloc | refine Ext.trans ?_ (by assumption))); first | done | fail))
  generalize zI N = ZZ at *
  go_enter Try.func24, Try.ntmps24
  go_wp2_with fail
  go_loopw [6] (fun iv wr => ∃ i : Nat, ∃ out : List Nat, i ≤ n ∧ iv = .int .i64 (i : Int) ∧ MulS 65536 a b i out ∧ Rn wr w.heap.size (.slice (some ⟨w.heap.size, 0, none⟩) N N) N out ∧ Ext w wr) (fun i _ => n - (intOf i).toNat)
  case atStart => exact ⟨0, _, by omega, rfl, HST.out, HM.out, HXM.out⟩
  case round =>
    obtain ⟨i, out, hi, rfl, hs, ho, hx⟩ := hrel
    by_cases hlt : i < n
    · have b0 : (i : Int) < (n : Int) := by omega
      have he := hs.enter (by decide)
      clear hs
      go_wp2_with fail
      go_loopw [7, 8] (fun cv kv wq => ∃ q k : Nat, ∃ out : List Nat, k ≤ m ∧ kv = .int .i64 (k : Int) ∧ cv = .int .i64 (q : Int) ∧ MulT 65536 a b i k out q ∧ Rn wq w.heap.size (.slice (some ⟨w.heap.size, 0, none⟩) N N) N out ∧ Ext w wq) (fun _ k _ => m - (intOf k).toNat)
      case atStart => exact ⟨0, 0, out, by omega, rfl, rfl, he, ho, hx⟩
      case round =>
        clear he ho hx
        obtain ⟨q, k, out, hk, rfl, rfl, hs, ho, hx⟩ := hrel
        have hNn := HN.out
        by_cases hlk : k < m
        · obtain ⟨g, o, rfl⟩ := HA.out.some_ (by omega)
          obtain ⟨g2, o2, rfl⟩ := HB.out.some_ (by omega)
          have d0 : (k : Int) < (m : Int) := by omega
          have k1 := (HA.out.ext hx).dig i hlt
          have k2 := (HB.out.ext hx).dig k hlk
          have k3 := ho.cell (i + k) _ (dg_in out (i + k) (by rw [ho.len]; omega))
          have k4 := ho.free (i + k)
          unfold vI at k1 k2 k3
          have h1 := DA.out.at (by decide) i
          have h2 := DB.out.at (by decide) k
          have h3 := hs.d.at (by decide) (i + k)
          have h4 := hs.cr
          have HNX := Kp.mk (hs.next DA.out DB.out (by decide) (by omega) (by omega))
          have HO := Kp.mk ho
          have HX := Kp.mk hx
          generalize dg a i = x at *
          generalize dg b k = y at *
          generalize dg out (i + k) = z at *
          have hp : x * y ≤ 65535 * 65535 := Nat.mul_le_mul (by omega) (by omega)
          obtain ⟨p, hpp⟩ : ∃ p, x * y = p := ⟨_, rfl⟩
          have e0 : (x : Int) * (y : Int) = (p : Int) := by rw [← hpp]; exact (Int.natCast_mul x y).symm
          rw [hpp] at hp HNX
          have e1 : IntKind.i64.wrap (p : Int) = (p : Int) := by rw [IntKind.wrap_i64]; omega
          obtain ⟨s, hss⟩ : ∃ s, q + p + z = s := ⟨_, rfl⟩
          have e2 : IntKind.i64.wrap ((q : Int) + (p : Int)) = (q : Int) + (p : Int) := by rw [IntKind.wrap_i64]; omega
          have e3 : IntKind.i64.wrap ((q : Int) + (p : Int) + (z : Int)) = (s : Int) := by rw [IntKind.wrap_i64]; omega
          have e4 : IntKind.i64.wrap ((i : Int) + (k : Int)) = (i : Int) + (k : Int) := by rw [IntKind.wrap_i64]; omega
          have e5 : ((i : Int) + (k : Int)).toNat = i + k := by omega
          have d1 : (0 : Int) ≤ (i : Int) + (k : Int) := by omega
          have d2 : (i : Int) + (k : Int) < (N : Int) := by omega
          have d3 : (s : Int) < 4611686018427387904 := by omega
          rw [hss] at HNX
          clear hpp hss hs ho hx h1 h2 h3 h4 hp hNn
          go_wp2_with fail
          go_region
          go_wp2_with fail
          go_roundw
          case rel =>
            refine ⟨s / 65536, k + 1, _, by omega, by go_num, by go_num, HNX.out, ?_, (HX.out.setCell (p := ⟨w.heap.size, i + k, none⟩) (Nat.le_refl _) _).drew⟩
            rw [show ((s : Int) % 65536) = ((s % 65536 : Nat) : Int) by omega]
            exact (HO.out.set (i + k) (s % 65536)).ext (Ext.refl _).drew
          case measure => simp [intOf]; omega
        · obtain rfl : k = m := by omega
          have hl : MulS 65536 a b (i + 1) (out.set (i + k) q) := by
            have h := hs
            rw [← hlb] at h
            have h2 := h.leave (by omega)
            rwa [hlb] at h2
          have k4 := ho.free (i + k)
          have HL := Kp.mk hl
          have HO := Kp.mk ho
          have HX := Kp.mk hx
          have e5 : ((i : Int) + (k : Int)).toNat = i + k := by omega
          have d1 : (0 : Int) ≤ (i : Int) + (k : Int) := by omega
          have d2 : (i : Int) + (k : Int) < (N : Int) := by omega
          have k3 := ho.cell (i + k) _ (dg_in out (i + k) (by rw [ho.len]; omega))
          clear hs ho hx hl hNn
          go_wp2_with fail
          go_roundw
          case rel => exact ⟨i + 1, _, by omega, by go_num, HL.out, HO.out.set (i + k) q, HX.out.setCell (p := ⟨w.heap.size, i + k, none⟩) (Nat.le_refl _) _⟩
          case measure => simp [intOf]; omega
    · obtain rfl : i = n := by omega
      have hv : vl 65536 out = vl 65536 a * vl 65536 b := by
        have h := hs
        rw [← hla] at h
        exact h.done
      have hd := hs.d
      clear hs
      go_wp2_with fail
      refine (FreshN.of_trim ho hd (by have := HN.out; omega) hv hx).mono ?_
      rintro e w2 ⟨A2, n2, c2, rfl, hr2, ho2, hx2⟩
      go_wp2_with fail
      go_ret
      exact ⟨A2, n2, c2, rfl, hr2, ho2, hx2⟩
end Go.Proofs.Ytpmoaccaknfodaa
