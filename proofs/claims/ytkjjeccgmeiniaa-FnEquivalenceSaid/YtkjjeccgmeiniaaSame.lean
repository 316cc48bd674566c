/- Contracts of the laws' helpers that say whether two floats are the same. -/
import Derived.Test.YtkjjeccgmeiniaaQuoZ
import Derived.Outline
namespace Go.Proofs.Ytkjjeccgmeiniaa.Flt
end Go.Proofs.Ytkjjeccgmeiniaa.Flt
namespace Go.Proofs.Ytkjjeccgmeiniaa.Mth
open Go.ChangeShapes Go.WideShapes Go.ChangeAt Go.RowKit Go.Proofs.Ytkjjeccgmeiniaa Go.Proofs.Ytkjjeccgmeiniaa.Flt
set_option maxHeartbeats 400000 in
theorem sameFloat_any (a b : Nat) (w : World) (ha : a < 18446744073709551616) (hb : b < 18446744073709551616) :
    Calls Try.prog 22 #[.float .f64 a, .float .f64 b] w fun e w' => e = .returned (.bool (sameW Ieee.double a b)) ∧ w' = w := by
  have sa := ne64 a a
  have sb := ne64 b b
  rw [eqW_self, Bool.not_not] at sa sb
  have ha' : a < 2 ^ Ieee.double.width := by rw [width_double]; exact ha
  have hb' : b < 2 ^ Ieee.double.width := by rw [width_double]; exact hb
  cases na : isNaN Ieee.double a <;> cases nb : isNaN Ieee.double b
  · rw [na] at sa
    rw [nb] at sb
    have za := eq64 a 0
    have zb := eq64 b 0
    rw [eqW_zero _ na] at za
    rw [eqW_zero _ nb] at zb
    by_cases h0 : rung Ieee.double a = 0 ∧ rung Ieee.double b = 0
    · obtain ⟨h0, h1⟩ := h0
      rw [decide_eq_true h0] at za
      rw [decide_eq_true h1] at zb
      have ca := zeros64 ha h0
      have cb := zeros64 hb h1
      have qa := quo_zero a ca
      have qb := quo_zero b cb
      clear h0 h1 na nb ha' hb' ha hb
      rcases ca with rfl | rfl <;> rcases cb with rfl | rfl
      · have o1 : (FloatKind.f64.format.order 9218868437227405312 0 == some .gt) = true := by decide
        have Hf := Lib.hid (show true = sameW Ieee.double 0 0 by decide)
        go_enter Try.func22, Try.ntmps22
        go_wp2
        go_ret
        exact ⟨ret_bool Hf.out, rfl⟩
      · have o1 : (FloatKind.f64.format.order 9218868437227405312 0 == some .gt) = true := by decide
        have o2 : (FloatKind.f64.format.order 18442240474082181120 0 == some .gt) = false := by decide
        have Hf := Lib.hid (show false = sameW Ieee.double 0 9223372036854775808 by decide)
        go_enter Try.func22, Try.ntmps22
        go_wp2
        go_ret
        exact ⟨ret_bool Hf.out, rfl⟩
      · have o1 : (FloatKind.f64.format.order 9218868437227405312 0 == some .gt) = true := by decide
        have o2 : (FloatKind.f64.format.order 18442240474082181120 0 == some .gt) = false := by decide
        have Hf := Lib.hid (show false = sameW Ieee.double 9223372036854775808 0 by decide)
        go_enter Try.func22, Try.ntmps22
        go_wp2
        go_ret
        exact ⟨ret_bool Hf.out, rfl⟩
      · have o2 : (FloatKind.f64.format.order 18442240474082181120 0 == some .gt) = false := by decide
        have Hf := Lib.hid (show true = sameW Ieee.double 9223372036854775808 9223372036854775808 by decide)
        go_enter Try.func22, Try.ntmps22
        go_wp2
        go_ret
        exact ⟨ret_bool Hf.out, rfl⟩
    · have eab := eq64 a b
      have Hf := Lib.hid (show eqW Ieee.double a b = sameW Ieee.double a b by
        rw [sameW_of_eq _ na nb]; unfold eqW; rw [na, nb]
        by_cases h : sv Ieee.double a = sv Ieee.double b
        · have : a = b := by
            by_cases h2 : rung Ieee.double a = 0
            · have h1 : rung Ieee.double b = 0 := (sv_eq_zero _).1 (by rw [← h]; exact (sv_eq_zero _).2 h2)
              exact absurd ⟨h2, h1⟩ h0
            · exact sv_inj _ ha' hb' h2 h
          subst this; simp
        · rw [decide_eq_false h]; symm; exact beq_eq_false_iff_ne.2 (fun e => h (by rw [e])))
      by_cases h1 : rung Ieee.double a = 0 <;> by_cases h2 : rung Ieee.double b = 0
      · exact absurd ⟨h1, h2⟩ h0
      all_goals
        first | rw [decide_eq_true h1] at za | rw [decide_eq_false h1] at za
        first | rw [decide_eq_true h2] at zb | rw [decide_eq_false h2] at zb
        clear h0 h1 h2 na nb ha hb ha' hb'
        go_enter Try.func22, Try.ntmps22
        go_wp2
        go_ret
        exact ⟨ret_bool Hf.out, rfl⟩
  all_goals
    have Hf := Lib.hid (show (isNaN Ieee.double a && isNaN Ieee.double b) = sameW Ieee.double a b by unfold sameW; rw [na, nb]; rfl)
    rw [na, nb] at Hf
    rw [na] at sa
    rw [nb] at sb
    clear na nb ha hb ha' hb'
    go_enter Try.func22, Try.ntmps22
    go_wp2
    go_ret
    exact ⟨ret_bool Hf.out, rfl⟩
end Go.Proofs.Ytkjjeccgmeiniaa.Mth
