/- Contracts on complex numbers: whether one is finite; the ratio. -/
import Derived.Test.YtegcgbddoeoipaaCpx
namespace Go.Proofs.Ytegcgbddoeoipaa.Cpx
open Go.ChangeShapes Go.WideShapes Go.ChangeAt Go.RowKit Go.Proofs.Ytegcgbddoeoipaa Go.Proofs.Ytegcgbddoeoipaa.Flt Go.Proofs.Ytegcgbddoeoipaa.Mth
set_option linter.unusedVariables false
theorem run_ceq {P : Program} (t : TypeId) (a b c d : Nat) (w : World) : (binOp .eql t (.complex .f64 a b) (.complex .f64 c d)).run P w = .ok (.bool (eqW Ieee.double a c && eqW Ieee.double b d)) w := by
  simp [binOp, Op.complexOp, Op.Complex.cmp, Op.floatCmp, asBool, eq64]
theorem run_cne {P : Program} (t : TypeId) (a b c d : Nat) (w : World) : (binOp .neq t (.complex .f64 a b) (.complex .f64 c d)).run P w = .ok (.bool !(eqW Ieee.double a c && eqW Ieee.double b d)) w := by
  simp [binOp, Op.complexOp, Op.Complex.cmp, Op.floatCmp, asBool, eq64]
theorem finI_any (x y : Nat) (w : World) (hx : x < 18446744073709551616) (hy : y < 18446744073709551616) :
    Calls Try.prog 18 #[.complex .f64 x y] w fun e w' => e = .returned (.bool (isFinD x && isFinD y)) ∧ w' = w := by
  cases h1 : isFinD x
  · go_enter Try.func18, Try.ntmps18
    go_wp2_with (go_at_call 42; (with_reducible refine (fin_any x _ hx).mono ?_); rintro e w' ⟨rfl, rfl⟩; rw [h1])
    go_ret
    exact ⟨rfl, rfl⟩
  · go_enter Try.func18, Try.ntmps18
    go_wp2_with (first
      | (go_at_call 42; (with_reducible refine (fin_any x _ hx).mono ?_); rintro e w' ⟨rfl, rfl⟩; rw [h1])
      | (go_at_call 42; (with_reducible refine (fin_any y _ hy).mono ?_); rintro e w' ⟨rfl, rfl⟩))
    go_ret
    exact ⟨rfl, rfl⟩
theorem fine_any (x : Nat) (w : World) :
    Calls Try.prog 45 #[.float .f64 x] w fun e w' => e = .returned (.bool (isFinD x)) ∧ ∃ n, w' = w.drewN n := by
  cases h : isFinD x
  · obtain ⟨r, n, w1, h1, k⟩ := run_float_any (P := Try.prog) .sub hSub 42 .f64 x x w
    have hn : isNaN Ieee.double r = true := by
      rw [sub_nofin h] at h1
      rcases h1 with h1 | h1
      · cases h1
      · exact h1.2
    have ho := eq64 r 0
    rw [eqW_nan _ (by rw [hn]; rfl)] at ho
    clear h h1 hn
    go_enter Try.func45, Try.ntmps45
    go_wp2_with fail
    go_ret
    exact ⟨rfl, n, rfl⟩
  · have k := fun w => run_float_arith (P := Try.prog) w .sub 42 .f64 _ _ _ (sub_self h)
    have ho : (FloatKind.f64.format.order 0 0 == some .eq) = true := by decide
    clear h
    go_enter Try.func45, Try.ntmps45
    go_wp2_with fail
    go_ret
    exact ⟨rfl, 0, rfl⟩
theorem finS_any (x y : Nat) (w : World) :
    Calls Try.prog 23 #[.complex .f64 x y] w fun e w' => e = .returned (.bool (isFinD x && isFinD y)) ∧ ∃ n, w' = w.drewN n := by
  cases h1 : isFinD x
  · go_enter Try.func23, Try.ntmps23
    go_wp2_with (go_at_call 45; (with_reducible refine (fine_any x _).mono ?_); rintro e w' ⟨rfl, n, rfl⟩; rw [h1])
    go_ret
    exact ⟨rfl, _, rfl⟩
  · go_enter Try.func23, Try.ntmps23
    go_wp2_with fail
    refine (fine_any x _).mono ?_
    rintro e w' ⟨rfl, n, rfl⟩
    rw [h1]
    go_wp2_with fail
    refine (fine_any y _).mono ?_
    rintro e w' ⟨rfl, m, rfl⟩
    go_wp2_with fail
    go_ret
    exact ⟨rfl, _, rfl⟩
def okR (a b c d : Nat) : Bool := isFinD a && isFinD b && (isFinD c && isFinD d) && !(eqW Ieee.double c 0 && eqW Ieee.double d 0)
theorem has_any (a b c d : Nat) (w : World) (ha : a < 18446744073709551616) (hb : b < 18446744073709551616) (hc : c < 18446744073709551616) (hd' : d < 18446744073709551616) :
    Calls Try.prog 44 #[.complex .f64 a b, .complex .f64 c d] w fun e w' => e = .returned (.bool (okR a b c d)) ∧ w' = w := by
  have cA := fun W => finI_any a b W ha hb
  have cB := fun W => finI_any c d W hc hd'
  have k := fun W => run_cne (P := Try.prog) 36 c d 0 0 W
  unfold okR
  clear ha hb hc hd'
  generalize (isFinD a && isFinD b) = p at *
  generalize (isFinD c && isFinD d) = q at *
  generalize (eqW Ieee.double c 0 && eqW Ieee.double d 0) = z at *
  cases p <;> cases q
  all_goals
    go_enter Try.func44, Try.ntmps44
    go_wp2_with (first
      | (go_at_call 18; (with_reducible refine (cA _).mono ?_); rintro e w' ⟨rfl, rfl⟩)
      | (go_at_call 18; (with_reducible refine (cB _).mono ?_); rintro e w' ⟨rfl, rfl⟩))
    go_ret
    exact ⟨rfl, rfl⟩
end Go.Proofs.Ytegcgbddoeoipaa.Cpx
