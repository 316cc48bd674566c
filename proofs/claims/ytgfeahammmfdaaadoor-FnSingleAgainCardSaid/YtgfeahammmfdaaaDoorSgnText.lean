/- Contracts of SignText, in the model and in the program. -/
import Derived.Test.YtgfeahammmfdaaaDoorSame
import Derived.Test.YtgfeahammmfdaaaDoorMath
namespace Go.Proofs.YtgfeahammmfdaaaDoor.fnExactSignText
open Go.ChangeShapes Go.WideShapes Go.ChangeAt Go.RowKit Go.Proofs.YtgfeahammmfdaaaDoor Go.Proofs.YtgfeahammmfdaaaDoor.Flt Go.Proofs.YtgfeahammmfdaaaDoor.Mth
set_option linter.unusedVariables false
def signOf (x : Nat) : ByteArray := if isNaN Ieee.single x then ⟨#[]⟩ else if sgn Ieee.single x then ⟨#[45]⟩ else ⟨#[43]⟩
theorem impl_any (x : Nat) (w : World) (wx : (Lit.float .f32 x).wf = true) :
    Calls Tryd.prog 34 #[.float .f32 x] w fun e w' => e = .returned (.string (signOf x)) ∧ ∃ n, w' = w.drewN n := by
  have us : (Tryd.prog.underlying 30).isSome = true := by rw [Tryd.underlying30]; rfl
  obtain ⟨r, n, hr, kr⟩ := run_widen_any (P := Tryd.prog) 30 46 x us Tryd.underlying46 w
  obtain ⟨hlt, h1, h2⟩ := hr
  cases hn : isNaN Ieee.single x
  · cases hs : sgn Ieee.single x
    · have Hf := Lib.hid (show (⟨#[43]⟩ : ByteArray) = signOf x by unfold signOf; rw [hn, hs]; rfl)
      have hs2 : sgn Ieee.double r = false := by rw [h2 hn, sgn_widen, hs]
      rw [hn] at h1
      clear h2 hn hs us wx
      go_enter Tryd.func34, Tryd.ntmps34
      go_wp2_with (first | (go_at_call 57; refine (isNaN_any _ _).mono ?_; rintro e w' ⟨rfl, rfl⟩) | (go_at_call 65; refine (signbit_any _ _ (by assumption)).mono ?_; rintro e w' ⟨rfl, rfl⟩))
      go_ret
      exact ⟨ret_string Hf.out, n, rfl⟩
    · have Hf := Lib.hid (show (⟨#[45]⟩ : ByteArray) = signOf x by unfold signOf; rw [hn, hs]; rfl)
      have hs2 : sgn Ieee.double r = true := by rw [h2 hn, sgn_widen, hs]
      rw [hn] at h1
      clear h2 hn hs us wx
      go_enter Tryd.func34, Tryd.ntmps34
      go_wp2_with (first | (go_at_call 57; refine (isNaN_any _ _).mono ?_; rintro e w' ⟨rfl, rfl⟩) | (go_at_call 65; refine (signbit_any _ _ (by assumption)).mono ?_; rintro e w' ⟨rfl, rfl⟩))
      go_ret
      exact ⟨ret_string Hf.out, n, rfl⟩
  · have Hf := Lib.hid (show (⟨#[]⟩ : ByteArray) = signOf x by unfold signOf; rw [hn]; rfl)
    rw [hn] at h1
    clear h2 hn us wx
    go_enter Tryd.func34, Tryd.ntmps34
    go_wp2_with (first | (go_at_call 57; refine (isNaN_any _ _).mono ?_; rintro e w' ⟨rfl, rfl⟩) | (go_at_call 65; refine (signbit_any _ _ (by assumption)).mono ?_; rintro e w' ⟨rfl, rfl⟩))
    go_ret
    exact ⟨ret_string Hf.out, n, rfl⟩
theorem quo32 (s : Nat) (h : s = 0 ∨ s = 2147483648) (w : World) : (binOp .quo 30 (.float .f32 1065353216) (.float .f32 s)).run Tryd.prog w = .ok (.float .f32 (2139095040 + s)) w := by
  rcases h with rfl | rfl
  · exact run_float_arith w .quo _ _ _ _ _ (by decide)
  · exact run_float_arith w .quo _ _ _ _ _ (by decide)
theorem spec_any (x : Nat) (w : World) (wx : (Lit.float .f32 x).wf = true) :
    Calls Tryd.prog 55 #[.float .f32 x] w fun e w' => e = .returned (.string (signOf x)) ∧ w' = w := by
  have hne := ne32 x x
  rw [eqW_self, Bool.not_not] at hne
  have hlt := lt32 x 0
  have heq := eq32 x 0
  cases hn : isNaN Ieee.single x
  · rw [hn] at hne
    rw [eqW_zero _ hn] at heq
    by_cases h0 : rung Ieee.single x = 0
    · have hc := zeros32 (lt_single wx) h0
      have q := quo32 x hc
      clear hne hlt heq hn h0 wx
      rcases hc with rfl | rfl
      · have o1 : (FloatKind.f32.format.order 0 0 != some .eq) = false := by decide
        have o2 : (FloatKind.f32.format.order 0 0 == some .lt) = false := by decide
        have o3 : (FloatKind.f32.format.order 0 0 == some .eq) = true := by decide
        have o4 : (FloatKind.f32.format.order 2139095040 0 == some .lt) = false := by decide
        have Hf := Lib.hid (show (⟨#[43]⟩ : ByteArray) = signOf 0 by decide)
        go_enter Tryd.func55, Tryd.ntmps55
        go_wp2
        go_ret
        exact ⟨ret_string Hf.out, rfl⟩
      · have o1 : (FloatKind.f32.format.order 2147483648 2147483648 != some .eq) = false := by decide
        have o2 : (FloatKind.f32.format.order 2147483648 0 == some .lt) = false := by decide
        have o3 : (FloatKind.f32.format.order 2147483648 0 == some .eq) = true := by decide
        have o4 : (FloatKind.f32.format.order 4286578688 0 == some .lt) = true := by decide
        have Hf := Lib.hid (show (⟨#[45]⟩ : ByteArray) = signOf 2147483648 by decide)
        go_enter Tryd.func55, Tryd.ntmps55
        go_wp2
        go_ret
        exact ⟨ret_string Hf.out, rfl⟩
    · rw [decide_eq_false h0] at heq
      have hl : ltW Ieee.single x 0 = sgn Ieee.single x := by
        unfold ltW; rw [hn, nan_zero, sv_zero, sgn_neg_sv _ h0]; rfl
      rw [hl] at hlt
      cases hs : sgn Ieee.single x
      · rw [hs] at hlt
        have Hf := Lib.hid (show (⟨#[43]⟩ : ByteArray) = signOf x by unfold signOf; rw [hn, hs]; rfl)
        clear hl h0 hn hs wx
        go_enter Tryd.func55, Tryd.ntmps55
        go_wp2
        go_ret
        exact ⟨ret_string Hf.out, rfl⟩
      · rw [hs] at hlt
        have Hf := Lib.hid (show (⟨#[45]⟩ : ByteArray) = signOf x by unfold signOf; rw [hn, hs]; rfl)
        clear hl h0 hn hs wx
        go_enter Tryd.func55, Tryd.ntmps55
        go_wp2
        go_ret
        exact ⟨ret_string Hf.out, rfl⟩
  · rw [hn] at hne
    have Hf := Lib.hid (show (⟨#[]⟩ : ByteArray) = signOf x by unfold signOf; rw [hn]; rfl)
    clear hlt heq hn wx
    go_enter Tryd.func55, Tryd.ntmps55
    go_wp2
    go_ret
    exact ⟨ret_string Hf.out, rfl⟩
end Go.Proofs.YtgfeahammmfdaaaDoor.fnExactSignText
