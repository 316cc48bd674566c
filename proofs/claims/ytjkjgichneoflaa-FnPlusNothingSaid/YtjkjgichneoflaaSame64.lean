/- Contracts of the laws' same64. -/
import Derived.Test.YtjkjgichneoflaaQuoZ
namespace Go.Proofs.Ytjkjgichneoflaa.Mth
open Go.ChangeShapes Go.WideShapes Go.ChangeAt Go.RowKit Go.Proofs.Ytjkjgichneoflaa Go.Proofs.Ytjkjgichneoflaa.Flt Go.Proofs.Ytjkjgichneoflaa.Mth
set_option linter.unusedVariables false
set_option maxHeartbeats 400000 in
theorem same64_any (a b : Nat) (w : World) (ha : a < 18446744073709551616) (hb : b < 18446744073709551616) :
    Calls Try.prog 32 #[.float .f64 a, .float .f64 b] w fun e w' => e = .returned (.bool (sameW Ieee.double a b)) ∧ w' = w := by
  have sa := ne64 a a
  rw [eqW_self, Bool.not_not] at sa
  have sb := ne64 b b
  rw [eqW_self, Bool.not_not] at sb
  cases na : isNaN Ieee.double a <;> cases nb : isNaN Ieee.double b
  · rw [na] at sa
    rw [nb] at sb
    have ho : (FloatKind.f64.format.order a b == some .eq) = decide (sv Ieee.double a = sv Ieee.double b) := by rw [eq64]; unfold eqW; rw [na, nb]; rfl
    by_cases h : sv Ieee.double a = sv Ieee.double b
    · rw [decide_eq_true h] at ho
      by_cases h0 : rung Ieee.double a = 0
      · have h1 : rung Ieee.double b = 0 := (sv_eq_zero _).1 (by rw [← h]; exact (sv_eq_zero _).2 h0)
        have ca := zeros64 ha h0
        have cb := zeros64 hb h1
        have qa := quo_zero a ca
        have qb := quo_zero b cb
        clear h h0 h1 na nb sa sb ho
        rcases ca with rfl | rfl <;> rcases cb with rfl | rfl
        · have o1 : (FloatKind.f64.format.order 0 0 != some .eq) = false := by decide
          have o2 : (FloatKind.f64.format.order 0 0 == some .eq) = true := by decide
          have o3 : (FloatKind.f64.format.order 9218868437227405312 9218868437227405312 == some .eq) = true := by decide
          have Hf := Lib.hid (show true = sameW Ieee.double 0 0 by decide)
          go_enter Try.func32, Try.ntmps32
          go_wp2
          go_ret
          exact ⟨ret_bool Hf.out, rfl⟩
        · have o1 : (FloatKind.f64.format.order 0 0 != some .eq) = false := by decide
          have o4 : (FloatKind.f64.format.order 9223372036854775808 9223372036854775808 != some .eq) = false := by decide
          have o2 : (FloatKind.f64.format.order 0 9223372036854775808 == some .eq) = true := by decide
          have o3 : (FloatKind.f64.format.order 9218868437227405312 18442240474082181120 == some .eq) = false := by decide
          have Hf := Lib.hid (show false = sameW Ieee.double 0 9223372036854775808 by decide)
          go_enter Try.func32, Try.ntmps32
          go_wp2
          go_ret
          exact ⟨ret_bool Hf.out, rfl⟩
        · have o1 : (FloatKind.f64.format.order 0 0 != some .eq) = false := by decide
          have o4 : (FloatKind.f64.format.order 9223372036854775808 9223372036854775808 != some .eq) = false := by decide
          have o5 : (FloatKind.f64.format.order 9223372036854775808 0 != some .eq) = false := by decide
          have o2 : (FloatKind.f64.format.order 9223372036854775808 0 == some .eq) = true := by decide
          have o3 : (FloatKind.f64.format.order 18442240474082181120 9218868437227405312 == some .eq) = false := by decide
          have Hf := Lib.hid (show false = sameW Ieee.double 9223372036854775808 0 by decide)
          go_enter Try.func32, Try.ntmps32
          go_wp2
          go_ret
          exact ⟨ret_bool Hf.out, rfl⟩
        · have o1 : (FloatKind.f64.format.order 9223372036854775808 0 != some .eq) = false := by decide
          have o4 : (FloatKind.f64.format.order 9223372036854775808 9223372036854775808 != some .eq) = false := by decide
          have o2 : (FloatKind.f64.format.order 9223372036854775808 9223372036854775808 == some .eq) = true := by decide
          have o3 : (FloatKind.f64.format.order 18442240474082181120 18442240474082181120 == some .eq) = true := by decide
          have Hf := Lib.hid (show true = sameW Ieee.double 9223372036854775808 9223372036854775808 by decide)
          go_enter Try.func32, Try.ntmps32
          go_wp2
          go_ret
          exact ⟨ret_bool Hf.out, rfl⟩
      · have hab : a = b := sv_inj _ (by rw [width_double]; exact ha) (by rw [width_double]; exact hb) h0 h
        subst hab
        have hz : (FloatKind.f64.format.order a 0 != some .eq) = true := by
          rw [ne64, eqW_zero _ na, decide_eq_false h0]; rfl
        have Hf := Lib.hid (show true = sameW Ieee.double a a by rw [sameW_refl])
        clear h h0 na nb
        go_enter Try.func32, Try.ntmps32
        go_wp2
        go_ret
        exact ⟨ret_bool Hf.out, rfl⟩
    · rw [decide_eq_false h] at ho
      have Hf := Lib.hid (show false = sameW Ieee.double a b by
        unfold sameW; rw [na, nb]; symm
        exact beq_eq_false_iff_ne.2 (fun e => h (by rw [e])))
      clear h na nb
      go_enter Try.func32, Try.ntmps32
      go_wp2
      go_ret
      exact ⟨ret_bool Hf.out, rfl⟩
  all_goals
    rw [na] at sa
    rw [nb] at sb
    have Hf := Lib.hid (show (isNaN Ieee.double a && isNaN Ieee.double b) = sameW Ieee.double a b by unfold sameW; rw [na, nb]; rfl)
    rw [na, nb] at Hf
    clear na nb
    go_enter Try.func32, Try.ntmps32
    go_wp2
    go_ret
    exact ⟨ret_bool Hf.out, rfl⟩
end Go.Proofs.Ytjkjgichneoflaa.Mth
