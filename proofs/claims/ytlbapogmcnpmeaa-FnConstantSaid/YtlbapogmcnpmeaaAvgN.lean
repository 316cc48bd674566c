/- The drift and the count of a list of singles in the model: DriftOf, CountEqual. -/
import Derived.Test.YtlbapogmcnpmeaaAvgM
import Derived.Test.YtlbapogmcnpmeaaAvgD
namespace Go.Proofs.Ytlbapogmcnpmeaa.Avg
open Go.ChangeShapes Go.WideShapes Go.ChangeAt Go.RowKit Go.Deep Go.Proofs.Ytlbapogmcnpmeaa Go.Proofs.Ytlbapogmcnpmeaa.Flt Go.Proofs.Ytlbapogmcnpmeaa.Mth Go.Proofs.Ytlbapogmcnpmeaa.Sgl
open Ieee (single double)
set_option linter.unusedVariables false
theorem conv_dbl (r : Nat) (w : World) : (convert 23 23 (.float .f64 r)).run Try.prog w = .ok (.float .f64 r) w := by
  have hu : Try.prog.underlying 23 = some (.float .f64) := Try.underlying23
  simp [convert, run_underlying hu, Conv.floatToFloat]
theorem run_int_dbl (k : Int) (w : World) : (convert 3 23 (.int .i64 k)).run Try.prog w = .ok (.float .f64 (floatOfInt .f64 k)) w :=
  run_convert_int_float (P := Try.prog) w 3 23 .i64 .f64 k (by rw [Try.underlying3]; rfl) Try.underlying23
/-- what CountEqual answers -/
def cnt (X : Nat → Nat) (x : Nat) : Nat → Nat
  | 0 => 0
  | k + 1 => cnt X x k + if eqB (X k) x = true then 1 else 0
theorem cnt_le (X : Nat → Nat) (x : Nat) : ∀ k, cnt X x k ≤ k
  | 0 => Nat.le_refl _
  | k + 1 => by have := cnt_le X x k; unfold cnt; split <;> omega
def cntN (n : Nat) (X : Nat → Nat) (x : Nat) : Nat := if n ≤ 64 then cnt X x n else 0
theorem spec_count (a : Option Addr) (len cap : Nat) (X : Nat → Nat) (x : Nat) (w : World) (hl : len ≤ 1048576) (h : LstF w a len X) :
    Calls Try.prog 37 #[.slice a len cap, .float .f32 x] w fun e w' => e = .returned (.int .i64 (cntN len X x : Int)) ∧ w' = w := by
  have H := Lib.hid h
  clear h
  by_cases h64 : 64 < len
  · have Hs := Lib.hid (show cntN len X x = 0 by unfold cntN; rw [if_neg (by omega)])
    go_enter Try.func37, Try.ntmps37
    go_wp2_with fail
    refine wp_loop_rounds 1 ?_
    rw [rounds_succ]
    go_wp2_with fail
    go_ret
    exact ⟨by rw [Hs.out]; rfl, rfl⟩
  · have Hs := Lib.hid (show cntN len X x = cnt X x len by unfold cntN; rw [if_pos (by omega)])
    have h65 : (len : Int) ≤ 64 := by omega
    go_enter Try.func37, Try.ntmps37
    go_wp2_with fail
    go_loopw [5, 6] (fun c i wr => ∃ k : Nat, i = .int .i64 k ∧ c = .int .i64 (cnt X x k : Int) ∧ k ≤ len ∧ wr = w)
      (fun _ i _ => len - (intOf i).toNat)
    case atStart => exact ⟨0, rfl, rfl, Nat.zero_le _, by first | rfl | trivial⟩
    case round =>
      obtain ⟨k, rfl, rfl, hk, hwr⟩ := hrel
      subst hwr
      by_cases hkl : k < len
      · obtain ⟨b, off, ha, hlt, hc⟩ := LstF.cells H.out (by omega)
        subst ha
        have a0 := hc k hkl
        have hkl' : (k : Int) < len := by omega
        have hcn := cnt_le X x k
        obtain ⟨c0, hc0⟩ : ∃ c, cnt X x k = c := ⟨_, rfl⟩
        rw [hc0] at hcn ⊢
        obtain ⟨b1, hb1⟩ : ∃ c, eqB (X k) x = c := ⟨_, rfl⟩
        have Hn := Lib.hid (show cnt X x (k + 1) = c0 + if b1 = true then 1 else 0 by
          show cnt X x k + _ = _
          rw [hc0, hb1])
        unfold eqB at hb1
        have hw1 : IntKind.i64.wrap ((c0 : Int) + 1) = ((c0 + 1 : Nat) : Int) := by rw [IntKind.wrap_i64]; omega
        clear hc hc0
        cases b1
        · go_wp2_with fail
          go_roundw
          case rel => exact ⟨k + 1, by go_num, by rw [Hn.out]; rfl, by omega, by first | rfl | trivial⟩
          case measure => simp [intOf]; omega
        · go_wp2_with fail
          go_roundw
          case rel => exact ⟨k + 1, by go_num, by rw [Hn.out]; rfl, by omega, by first | rfl | trivial⟩
          case measure => simp [intOf]; omega
      · obtain rfl : k = len := by omega
        have hkl' : ¬ (k : Int) < k := by omega
        go_wp2_with fail
        go_ret
        exact ⟨by rw [Hs.out]; rfl, rfl⟩
/-- what DriftOf answers -/
def driftB (n : Nat) (X : Nat → Nat) : Bool := goodB n X && decide (2 ≤ n)
def driftN (n : Nat) (X : Nat → Nat) : Nat := if driftB n X = true then drF n X else 0
set_option maxHeartbeats 400000 in
theorem spec_drift (a : Option Addr) (len cap : Nat) (X : Nat → Nat) (w : World) (hl : len ≤ 1048576) (h : LstF w a len X) :
    Calls Try.prog 33 #[.slice a len cap] w fun e w' => e = .returned (.tuple #[.float .f64 (driftN len X), .bool (driftB len X)]) ∧ ∃ n, w' = w.drewN n := by
  have H := Lib.hid h
  clear h
  cases hg : driftB len X
  · have Hs := Lib.hid (show 0 = driftN len X by unfold driftN; rw [if_neg (by rw [hg]; exact Bool.false_ne_true)])
    cases hq : goodB len X
    · go_enter Try.func33, Try.ntmps33
      go_wp2_with fail
      refine (good_any _ _ _ X _ hl H.out).mono ?_
      rintro e w1 ⟨rfl, n, rfl⟩
      rw [hq]
      go_wp2_with fail
      go_ret2
      exact ⟨by rw [← Hs.out]; rfl, n, rfl⟩
    · have h1 : (len : Int) < 2 := by
        unfold driftB at hg
        rw [hq, Bool.true_and] at hg
        have := of_decide_eq_false hg
        omega
      go_enter Try.func33, Try.ntmps33
      go_wp2_with fail
      refine (good_any _ _ _ X _ hl H.out).mono ?_
      rintro e w1 ⟨rfl, n, rfl⟩
      rw [hq]
      go_wp2_with fail
      go_ret2
      exact ⟨by rw [← Hs.out]; rfl, n, rfl⟩
  · have Hs := Lib.hid (show driftN len X = drF len X by unfold driftN; rw [if_pos hg])
    obtain ⟨hq, h2⟩ : goodB len X = true ∧ 2 ≤ len := by
      unfold driftB at hg
      rw [Bool.and_eq_true, decide_eq_true_iff] at hg
      exact hg
    obtain ⟨h64, hfin⟩ := good_iff.1 hq
    have Hfin := Lib.hid hfin
    have e0 : ¬ (len : Int) < 2 := by omega
    have kc := conv_dbl
    have ki := run_int_dbl
    clear hfin hg
    go_enter Try.func33, Try.ntmps33
    go_wp2_with fail
    refine (good_any _ _ _ X _ hl H.out).mono ?_
    rintro e w1 ⟨rfl, n, rfl⟩
    rw [hq]
    clear hq
    go_wp2_with fail
    go_loopw [5, 6] (fun s i wr => ∃ k : Nat, i = .int .i64 k ∧ s = .float .f64 (drS len X k) ∧ k ≤ len ∧ wr = w.drewN n)
      (fun _ i _ => len - (intOf i).toNat)
    case atStart => exact ⟨0, rfl, rfl, Nat.zero_le _, rfl⟩
    case round =>
      obtain ⟨k, rfl, rfl, hk, hwr⟩ := hrel
      subst hwr
      by_cases hkl : k < len
      · obtain ⟨b, off, ha, hlt, hc⟩ := LstF.cells H.out (by omega)
        subst ha
        have a0 := hc k hkl
        obtain ⟨p1, p2, _⟩ := dr_step h64 Hfin.out hkl
        have k1 := run_widF (Hfin.out k hkl)
        have k2 := fun w => run_float_arith (P := Try.prog) w .mul 23 .f64 _ _ _ p1
        have k3 := fun w => run_float_arith (P := Try.prog) w .add 23 .f64 _ _ _ p2
        have w0 : IntKind.i64.wrap ((2 : Int) * (k : Int)) = 2 * (k : Int) := by rw [IntKind.wrap_i64]; omega
        have w1 : IntKind.i64.wrap ((len : Int) - 1) = (len : Int) - 1 := by rw [IntKind.wrap_i64]; omega
        have w2 : IntKind.i64.wrap ((2 : Int) * (k : Int) - ((len : Int) - 1)) = drC len k := by rw [IntKind.wrap_i64]; unfold drC; omega
        clear hc p1 p2
        generalize drS len X k = s0 at *
        obtain ⟨s1, hs1⟩ : ∃ s1, drS len X (k + 1) = s1 := ⟨_, rfl⟩
        rw [hs1] at k3
        generalize mulD (floatOfInt .f64 (drC len k)) (widen (X k)) = p at *
        go_wp2_with fail
        go_roundw
        case rel => exact ⟨k + 1, by go_num, by rw [hs1], by omega, by first | rfl | trivial⟩
        case measure => simp [intOf]; omega
      · obtain rfl : k = len := by omega
        obtain ⟨p1, p2, _⟩ := dr_end h2 h64 Hfin.out
        have k2 := fun w => run_float_arith (P := Try.prog) w .mul 23 .f64 _ _ _ p1
        have k3 := fun w => run_float_arith (P := Try.prog) w .quo 23 .f64 _ _ _ p2
        have hm1 : k * k ≤ 64 * 64 := Nat.mul_le_mul h64 h64
        have hm2 : 2 * 2 ≤ k * k := Nat.mul_le_mul h2 h2
        have hm3 : k * (k * k - 1) ≤ 64 * (64 * 64) := Nat.mul_le_mul h64 (by omega)
        have e1 : wrap64 (wrap64 ((k : Int) * (k : Int)) - 1) = ((k * k - 1 : Nat) : Int) := by
          unfold wrap64; rw [← Int.natCast_mul]; omega
        have hW := Lib.hid (show wrap64 ((k : Int) * wrap64 (wrap64 ((k : Int) * (k : Int)) - 1)) = (drD k : Int) by
          rw [e1, ← Int.natCast_mul]
          unfold wrap64 drD
          omega)
        clear e1
        clear p1 p2 hm1 hm2 hm3
        generalize drT k X = t at *
        obtain ⟨r, hr⟩ : ∃ r, drF k X = r := ⟨_, rfl⟩
        rw [hr] at k3
        have Hr := Lib.hid hr
        clear hr
        go_wp2_with fail
        rw [hW.out, k3]
        go_wp2_with fail
        go_ret2
        exact ⟨by rw [Hs.out, Hr.out]; rfl, n, rfl⟩
end Go.Proofs.Ytlbapogmcnpmeaa.Avg
