/- What a span holds, in the model and in the program; the width in the model. -/
import Derived.Test.YtjmmcpeknaaaiaaSpnW
namespace Go.Proofs.Ytjmmcpeknaaaiaa.Spn
open Go.ChangeShapes Go.WideShapes Go.ChangeAt Go.RowKit Go.Deep Go.Proofs.Ytjmmcpeknaaaiaa Go.Proofs.Ytjmmcpeknaaaiaa.Flt Go.Proofs.Ytjmmcpeknaaaiaa.Mth
open Ieee (single double)
set_option linter.unusedVariables false
set_option linter.unusedSimpArgs false
set_option maxRecDepth 20000
theorem impl_holds (x y v : Nat) (w : World) :
    Calls Try.prog 35 #[pv x y, .float .f64 v] w fun e w' => e = .returned (.bool (hdB x y v)) ∧ Below w.heap.size w w' := by
  have h := fun w => impl_ok x y w
  cases hl : leB x y
  · rw [show hdB x y v = false by unfold hdB; rw [hl]; rfl]
    rw [hl] at h
    clear hl
    unfold pv at h ⊢
    go_enter Try.func35, Try.ntmps35
    go_wp2_with fail
    refine (h _).mono ?_
    rintro e w' ⟨rfl, rfl⟩
    go_wp2_with fail
    go_ret
    exact ⟨rfl, by go_grown⟩
  · obtain ⟨nx, ny, _⟩ := le_iff.1 hl
    have kx := run_wid nx
    have ky := run_wid ny
    rw [show hdB x y v = (geD v (widen x) && leD v (widen y)) by unfold hdB; rw [hl]; rfl]
    rw [hl] at h
    clear hl nx ny
    unfold pv at h ⊢
    generalize widen x = p at *
    generalize widen y = q at *
    cases hg : geD v p
    · unfold geD at hg
      go_enter Try.func35, Try.ntmps35
      go_wp2_with fail
      refine (h _).mono ?_
      rintro e w' ⟨rfl, rfl⟩
      go_wp2_with fail
      go_ret
      exact ⟨rfl, by go_grown⟩
    · unfold geD at hg
      obtain ⟨b, hb⟩ : ∃ b, leD v q = b := ⟨_, rfl⟩
      rw [hb]
      unfold leD at hb
      go_enter Try.func35, Try.ntmps35
      go_wp2_with fail
      refine (h _).mono ?_
      rintro e w' ⟨rfl, rfl⟩
      go_wp2_with fail
      go_ret
      exact ⟨ret_bool (by simp [*]), by go_grown⟩
theorem spec_holds (x y v : Nat) (w : World) :
    Calls Try.prog 46 #[pv x y, .float .f64 v] w fun e w' => e = .returned (.bool (hdB x y v)) ∧ Below w.heap.size w w' := by
  have h := fun w => spec_ok x y w
  cases hl : leB x y
  · rw [show hdB x y v = false by unfold hdB; rw [hl]; rfl]
    rw [hl] at h
    clear hl
    unfold pv at h ⊢
    go_enter Try.func46, Try.ntmps46
    go_wp2_with fail
    refine (h _).mono ?_
    rintro e w' ⟨rfl, rfl⟩
    go_wp2_with fail
    go_ret
    exact ⟨rfl, by go_grown⟩
  · obtain ⟨nx, ny, _⟩ := le_iff.1 hl
    have kx := run_wid nx
    have ky := run_wid ny
    rw [show hdB x y v = (geD v (widen x) && leD v (widen y)) by unfold hdB; rw [hl]; rfl]
    rw [hl] at h
    clear hl nx ny
    unfold pv at h ⊢
    generalize widen x = p at *
    generalize widen y = q at *
    cases hg : geD v p
    · unfold geD at hg
      go_enter Try.func46, Try.ntmps46
      go_wp2_with fail
      refine (h _).mono ?_
      rintro e w' ⟨rfl, rfl⟩
      go_wp2_with fail
      go_ret
      exact ⟨rfl, by go_grown⟩
    · unfold geD at hg
      obtain ⟨b, hb⟩ : ∃ b, leD v q = b := ⟨_, rfl⟩
      rw [hb]
      unfold leD at hb
      go_enter Try.func46, Try.ntmps46
      go_wp2_with fail
      refine (h _).mono ?_
      rintro e w' ⟨rfl, rfl⟩
      go_wp2_with fail
      go_ret
      exact ⟨ret_bool (by simp [*]), by go_grown⟩
theorem l07fine (x y : Nat) (w : World) :
    Calls Try.prog 82 #[pv x y] w fun e w' => e = .returned (.bool (widB x y)) ∧ Below w.heap.size w w' := by
  have h := fun w => spec_ok x y w
  cases hl : leB x y
  · rw [show widB x y = false by unfold widB; rw [hl]; rfl]
    rw [hl] at h
    clear hl
    unfold pv at h ⊢
    go_enter Try.func82, Try.ntmps82
    go_wp2_with fail
    refine (h _).mono ?_
    rintro e w' ⟨rfl, rfl⟩
    go_wp2_with fail
    go_ret
    exact ⟨rfl, by go_grown⟩
  · obtain ⟨nx, ny, _⟩ := le_iff.1 hl
    have kx := run_wid nx
    have ky := run_wid ny
    have fx := fun w => fine_any (widen x) w
    have fy := fun w => fine_any (widen y) w
    rw [show isFinD (widen x) = fnS x from isFin_widen x] at fx
    rw [show isFinD (widen y) = fnS y from isFin_widen y] at fy
    rw [show widB x y = (fnS x && fnS y) by unfold widB; rw [hl]; rfl]
    rw [hl] at h
    clear hl nx ny
    unfold pv at h ⊢
    generalize widen x = p at *
    generalize widen y = q at *
    cases hb : fnS x
    · rw [hb] at fx
      clear hb
      go_enter Try.func82, Try.ntmps82
      go_wp2_with fail
      refine (h _).mono ?_
      rintro e w' ⟨rfl, rfl⟩
      go_wp2_with fail
      refine (fx _).mono ?_
      rintro e w1 ⟨rfl, n, hw1⟩
      subst w1
      go_wp2_with fail
      go_ret
      exact ⟨rfl, below_drewN (by go_grown) _⟩
    · rw [hb] at fx
      generalize fnS y = c at *
      clear hb
      go_enter Try.func82, Try.ntmps82
      go_wp2_with fail
      refine (h _).mono ?_
      rintro e w' ⟨rfl, rfl⟩
      go_wp2_with fail
      refine (fx _).mono ?_
      rintro e w1 ⟨rfl, n, hw1⟩
      subst w1
      go_wp2_with fail
      refine (fy _).mono ?_
      rintro e w1 ⟨rfl, m, hw1⟩
      subst w1
      go_wp2_with fail
      go_ret
      exact ⟨rfl, below_drewN (by go_grown) _⟩
theorem spec_width (x y : Nat) (w : World) :
    Calls Try.prog 53 #[pv x y] w fun e w' => e = .returned (.float .f64 (widW x y)) ∧ Below w.heap.size w w' := by
  have h := fun w => l07fine x y w
  have hno : widB x y = false → widW x y = 13830554455654793216 := fun hb => by unfold widW; rw [hb]; rfl
  have hsub := fun hb : widB x y = true => fun w => run_float_arith (P := Try.prog) w .sub 28 .f64 _ _ _ (wid_sub hb)
  have hnan : widB x y = true → isNaN single x = false ∧ isNaN single y = false := fun hb => by
    unfold widB at hb
    rw [Bool.and_eq_true] at hb
    obtain ⟨n1, n2, _⟩ := le_iff.1 hb.1
    exact ⟨n1, n2⟩
  cases hb : widB x y
  · rw [hno hb]
    rw [hb] at h
    clear hno hsub hb hnan
    unfold pv at h ⊢
    go_enter Try.func53, Try.ntmps53
    go_wp2_with fail
    refine (h _).mono ?_
    rintro e w1 ⟨rfl, hb1⟩
    have H1 := Lib.hid (Below.trans (show Below w.heap.size w _ by go_grown) (hb1.mono (by simp)))
    clear hb1
    go_wp2_with fail
    go_ret
    exact ⟨rfl, H1.out⟩
  · have ks := hsub hb
    have kx := run_wid (hnan hb).1
    have ky := run_wid (hnan hb).2
    rw [hb] at h
    clear hno hsub hb hnan
    unfold pv at h ⊢
    generalize widen x = p at *
    generalize widen y = q at *
    generalize widW x y = d at *
    go_enter Try.func53, Try.ntmps53
    go_wp2_with fail
    refine (h _).mono ?_
    rintro e w1 ⟨rfl, hb1⟩
    have H1 := Lib.hid (Below.trans (show Below w.heap.size w _ by go_grown) (hb1.mono (by simp)))
    have d0 : w1.cell? ⟨w.heap.size, 0, none⟩ = some (.float .f32 x) := by rw [hb1.cell (by simp)]; go_cell
    have d1 : w1.cell? ⟨w.heap.size, 1, none⟩ = some (.float .f32 y) := by rw [hb1.cell (by simp)]; go_cell
    clear hb1
    go_wp2_with fail
    go_ret
    exact ⟨rfl, H1.out⟩
end Go.Proofs.Ytjmmcpeknaaaiaa.Spn
