/- Contracts of the model's and the program's checks of one range. -/
import Derived.Test.YtmnpmbliikalhaaRng
import Derived.Test.YtmnpmbliikalhaaMathC
import Derived.Test.YtmnpmbliikalhaaFltV
import Derived.BigQuiet
namespace Go.Proofs.Ytmnpmbliikalhaa.Rng
open Go.ChangeShapes Go.WideShapes Go.ChangeAt Go.RowKit Go.Proofs.Ytmnpmbliikalhaa Go.Proofs.Ytmnpmbliikalhaa.Flt Go.Proofs.Ytmnpmbliikalhaa.Mth
set_option linter.unusedVariables false
def gtB (x y : Nat) : Bool := FloatKind.f32.format.order x y == some .gt
def ltB (x y : Nat) : Bool := FloatKind.f32.format.order x y == some .lt
def geB (x y : Nat) : Bool := FloatKind.f32.format.order x y == some .gt || FloatKind.f32.format.order x y == some .eq
def leB (x y : Nat) : Bool := FloatKind.f32.format.order x y == some .lt || FloatKind.f32.format.order x y == some .eq
def finB (x : Nat) : Bool := decide (rung Ieee.single x < Ieee.single.infRung)
theorem isFin_wid {x r : Nat} (h : Wid x r) : isFinD r = finB x := by
  unfold finB
  cases nx : isNaN Ieee.single x
  · rw [h.2.2 nx, isFin_widen]
  · rw [isFin_nan (by rw [h.2.1, nx])]
    have := of_decide_eq_true nx
    exact (decide_eq_false (by omega)).symm
/-- one range is valid by itself -/
def isRB (f d u : Nat) : Bool := geB d 0 && gtB u d && geB f u && geB f 228737632 && finB f
/-- one range may stand behind another -/
def isAB (bf bu f d : Nat) : Bool := gtB f bf && leB d bu
theorem fineS_any (a : Nat) (w : World) :
    Calls Try.prog 53 #[.float .f64 a] w fun e w' => e = .returned (.bool (isFinD a)) ∧ ∃ n, w' = w.drewN n := by
  obtain ⟨r, n, wr, hr, kr⟩ := run_float_any (P := Try.prog) .sub (.inr (.inl rfl)) 35 .f64 a a w
  have heq := eq64 r 0
  have hf : eqW Ieee.double r 0 = isFinD a := by
    cases h : isFinD a
    · rw [sub_nofin h] at hr
      rcases hr with hr | ⟨_, hr⟩
      · cases hr
      · exact eqW_nan _ (by rw [show isNaN Ieee.double r = true from hr]; rfl)
    · rw [sub_self h] at hr
      rcases hr with hr | ⟨hr, _⟩
      · cases hr; decide
      · cases hr
  rw [hf] at heq
  clear hf hr wr
  go_enter Try.func53, Try.ntmps53
  go_wp2
  go_ret
  exact ⟨rfl, n, rfl⟩
theorem isR_any (f d u : Nat) (w : World) :
    Calls Try.prog 62 #[.agg #[.float .f32 f, .float .f32 d, .float .f32 u]] w fun e w' => e = .returned (.bool (isRB f d u)) ∧ Below w.heap.size w w' := by
  have k1 := fun w => run_widX (P := Try.prog) 25 35 f (by rw [Try.underlying25]; rfl) Try.underlying35 w
  have HB := Lib.hid ((Below.refl w.heap.size w).alloc (Nat.le_refl _) (.cells #[.float .f32 f, .float .f32 d, .float .f32 u] 37))
  obtain ⟨c1, e1⟩ : ∃ c, geB d 0 = c := ⟨_, rfl⟩
  obtain ⟨c2, e2⟩ : ∃ c, gtB u d = c := ⟨_, rfl⟩
  obtain ⟨c3, e3⟩ : ∃ c, geB f u = c := ⟨_, rfl⟩
  obtain ⟨c4, e4⟩ : ∃ c, geB f 228737632 = c := ⟨_, rfl⟩
  have Hf := Lib.hid (show (c1 && c2 && c3 && c4 && finB f) = isRB f d u by unfold isRB; rw [e1, e2, e3, e4])
  unfold geB at e1 e3 e4
  unfold gtB at e2
  rcases (show c1 = false ∨ (c1 = true ∧ c2 = false) ∨ (c1 = true ∧ c2 = true ∧ c3 = false) ∨ (c1 = true ∧ c2 = true ∧ c3 = true ∧ c4 = false) ∨ (c1 = true ∧ c2 = true ∧ c3 = true ∧ c4 = true) by cases c1 <;> cases c2 <;> cases c3 <;> cases c4 <;> simp) with rfl | ⟨rfl, rfl⟩ | ⟨rfl, rfl, rfl⟩ | ⟨rfl, rfl, rfl, rfl⟩ | ⟨rfl, rfl, rfl, rfl⟩
  iterate 4
    · go_enter Try.func62, Try.ntmps62
      go_wp2
      go_ret
      exact ⟨ret_bool (by rw [← Hf.out]; rfl), HB.out⟩
  · go_enter Try.func62, Try.ntmps62
    go_wp2_with fail
    refine (fin_any _ _ (widX_wid f _).1).mono ?_
    rintro e w' ⟨rfl, rfl⟩
    go_wp2_with fail
    go_ret
    exact ⟨ret_bool (by rw [← Hf.out, isFin_wid (widX_wid f _)]; rfl), below_drewN HB.out _⟩
theorem isA_any (bf bd bu f d u : Nat) (w : World) :
    Calls Try.prog 63 #[.agg #[.float .f32 bf, .float .f32 bd, .float .f32 bu], .agg #[.float .f32 f, .float .f32 d, .float .f32 u]] w fun e w' => e = .returned (.bool (isAB bf bu f d)) ∧ Below w.heap.size w w' := by
  have HB := Lib.hid (((Below.refl w.heap.size w).alloc (Nat.le_refl _) (.cells #[.float .f32 bf, .float .f32 bd, .float .f32 bu] 37)).alloc (by rw [sz_alloc]; omega) (.cells #[.float .f32 f, .float .f32 d, .float .f32 u] 37))
  obtain ⟨c1, e1⟩ : ∃ c, gtB f bf = c := ⟨_, rfl⟩
  obtain ⟨c2, e2⟩ : ∃ c, leB d bu = c := ⟨_, rfl⟩
  have Hf := Lib.hid (show (c1 && c2) = isAB bf bu f d by unfold isAB; rw [e1, e2])
  unfold gtB at e1
  unfold leB at e2
  cases c1
  · go_enter Try.func63, Try.ntmps63
    go_wp2
    go_ret
    exact ⟨ret_bool (by rw [← Hf.out]; rfl), HB.out⟩
  · go_enter Try.func63, Try.ntmps63
    go_wp2
    go_ret
    exact ⟨ret_bool (by rw [← Hf.out]; rfl), HB.out⟩
end Go.Proofs.Ytmnpmbliikalhaa.Rng
