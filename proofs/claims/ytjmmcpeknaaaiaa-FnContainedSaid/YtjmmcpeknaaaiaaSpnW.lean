/- Spans in the program and the model: finite ends, the width, what is held. -/
import Derived.Test.YtjmmcpeknaaaiaaSpnI
import Derived.Test.YtjmmcpeknaaaiaaSpnS
import Derived.Test.YtjmmcpeknaaaiaaFltV
namespace Go.Proofs.Ytjmmcpeknaaaiaa.Spn
open Go.ChangeShapes Go.WideShapes Go.ChangeAt Go.RowKit Go.Deep Go.Proofs.Ytjmmcpeknaaaiaa Go.Proofs.Ytjmmcpeknaaaiaa.Flt Go.Proofs.Ytjmmcpeknaaaiaa.Mth
open Ieee (single double)
set_option linter.unusedVariables false
set_option linter.unusedSimpArgs false
set_option maxRecDepth 20000
theorem run_wid {x : Nat} (h : isNaN single x = false) (w : World) : (convert 24 28 (.float .f32 x)).run Try.prog w = .ok (.float .f64 (widen x)) w :=
  run_widen (P := Try.prog) 24 28 x (by rw [Try.underlying24]; rfl) Try.underlying28 h w
theorem fine_any (a : Nat) (w : World) :
    Calls Try.prog 105 #[.float .f64 a] w fun e w' => e = .returned (.bool (isFinD a)) ∧ ∃ n, w' = w.drewN n := by
  obtain ⟨r, n, wr, hr, kr⟩ := run_float_any (P := Try.prog) .sub (.inr (.inl rfl)) 28 .f64 a a w
  have heq := eq64 r 0
  have hf : eqW Ieee.double r 0 = isFinD a := by
    cases h : isFinD a
    · rw [sub_nofin h] at hr
      rcases hr with hr | ⟨_, hr⟩
      · cases hr
      · exact eqW_nan _ (by rw [show isNaN Ieee.double r = true from hr]; rfl)
    · rw [sub_self h] at hr
      rcases hr with hr | ⟨hr, _⟩
      · cases hr; decide
      · cases hr
  rw [hf] at heq
  clear hf hr wr
  go_enter Try.func105, Try.ntmps105
  go_wp2
  go_ret
  exact ⟨rfl, n, rfl⟩
theorem finite_any (x y : Nat) (w : World) (hx : isNaN single x = false) (hy : isNaN single y = false) :
    Calls Try.prog 77 #[.agg #[.float .f32 x, .float .f32 y]] w fun e w' => e = .returned (.bool (fnS x && fnS y)) ∧ w' = w.alloc (.cells #[.float .f32 x, .float .f32 y] 74) := by
  have kx := run_wid hx
  have ky := run_wid hy
  have fx := fun w => fin_any (widen x) w (widen_wl x)
  have fy := fun w => fin_any (widen y) w (widen_wl y)
  rw [show isFinD (widen x) = fnS x from isFin_widen x] at fx
  rw [show isFinD (widen y) = fnS y from isFin_widen y] at fy
  clear hx hy
  generalize widen x = p at *
  generalize widen y = q at *
  cases hb : fnS x
  · rw [hb] at fx
    clear hb
    go_enter Try.func77, Try.ntmps77
    go_wp2_with fail
    refine (fx _).mono ?_
    rintro e w' ⟨rfl, hw'⟩
    subst w'
    go_wp2_with fail
    go_ret
    exact ⟨rfl, rfl⟩
  · rw [hb] at fx
    generalize fnS y = c at *
    clear hb
    go_enter Try.func77, Try.ntmps77
    go_wp2_with fail
    refine (fx _).mono ?_
    rintro e w' ⟨rfl, hw'⟩
    subst w'
    go_wp2_with fail
    refine (fy _).mono ?_
    rintro e w' ⟨rfl, hw'⟩
    subst w'
    go_wp2_with fail
    go_ret
    exact ⟨rfl, rfl⟩
/-- what WidthOf answers -/
def widB (x y : Nat) : Bool := leB x y && (fnS x && fnS y)
def widW (x y : Nat) : Nat := if widB x y = true then (floatBits .sub .f64 (widen y) (widen x)).getD 0 else 13830554455654793216
theorem wid_sub {x y : Nat} (h : widB x y = true) : floatBits .sub .f64 (widen y) (widen x) = some (widW x y) := by
  have h' := h
  unfold widB at h'
  rw [Bool.and_eq_true, Bool.and_eq_true] at h'
  obtain ⟨r, hr, _⟩ := sub_valD (wid_rung h'.2.2) (wid_rung h'.2.1)
  unfold widW
  rw [if_pos h, hr]; rfl
theorem impl_width (x y : Nat) (w : World) :
    Calls Try.prog 34 #[pv x y] w fun e w' => e = .returned (.float .f64 (widW x y)) ∧ Below w.heap.size w w' := by
  have h := fun w => inside_any x y w
  have hno : widB x y = false → widW x y = 13830554455654793216 := fun hb => by unfold widW; rw [hb]; rfl
  have hsub := fun hb : widB x y = true => fun w => run_float_arith (P := Try.prog) w .sub 28 .f64 _ _ _ (wid_sub hb)
  cases hl : leB x y
  · rw [hl] at h
    have hb : widB x y = false := by unfold widB; rw [hl]; rfl
    rw [hno hb]
    clear hno hsub hb hl
    unfold ivv pv at h
    unfold pv
    go_enter Try.func34, Try.ntmps34
    go_wp2_with fail
    refine (h _).mono ?_
    rintro e w' ⟨rfl, rfl⟩
    go_wp2_with fail
    go_ret
    exact ⟨rfl, by go_grown⟩
  · rw [hl] at h
    obtain ⟨nx, ny, _⟩ := le_iff.1 hl
    have hf := fun w => finite_any x y w nx ny
    have kx := run_wid nx
    have ky := run_wid ny
    have hB : widB x y = (fnS x && fnS y) := by unfold widB; rw [hl]; rfl
    rw [hB] at hno hsub
    clear hB hl nx ny
    unfold ivv pv at h
    unfold pv
    cases hb : (fnS x && fnS y)
    · rw [hno hb]
      rw [hb] at hf
      clear hno hsub hb
      go_enter Try.func34, Try.ntmps34
      go_wp2_with fail
      refine (h _).mono ?_
      rintro e w' ⟨rfl, rfl⟩
      go_wp2_with fail
      refine (hf _).mono ?_
      rintro e w' ⟨rfl, rfl⟩
      go_wp2_with fail
      go_ret
      exact ⟨rfl, by go_grown⟩
    · have ks := hsub hb
      rw [hb] at hf
      clear hno hsub hb
      generalize widen x = p at *
      generalize widen y = q at *
      generalize widW x y = d at *
      go_enter Try.func34, Try.ntmps34
      go_wp2_with fail
      refine (h _).mono ?_
      rintro e w' ⟨rfl, rfl⟩
      go_wp2_with fail
      refine (hf _).mono ?_
      rintro e w' ⟨rfl, rfl⟩
      go_wp2_with fail
      go_ret
      exact ⟨rfl, by go_grown⟩
end Go.Proofs.Ytjmmcpeknaaaiaa.Spn
