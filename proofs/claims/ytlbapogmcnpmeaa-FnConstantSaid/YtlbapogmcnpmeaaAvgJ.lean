/- What the sums, the means and the drift of any list are: words, and finite. -/
import Derived.Test.YtlbapogmcnpmeaaAvgI
namespace Go.Proofs.Ytlbapogmcnpmeaa.Avg
open Go.ChangeShapes Go.WideShapes Go.ChangeAt Go.RowKit Go.Deep Go.Proofs.Ytlbapogmcnpmeaa Go.Proofs.Ytlbapogmcnpmeaa.Flt Go.Proofs.Ytlbapogmcnpmeaa.Mth Go.Proofs.Ytlbapogmcnpmeaa.Sgl
open Ieee (single double)
set_option linter.unusedVariables false
theorem sumN_wl (n : Nat) (X : Nat → Nat) : sumN n X < 18446744073709551616 := by
  unfold sumN
  split
  · rename_i h; obtain ⟨h64, hf⟩ := good_iff.1 h; exact (sum_bd h64 hf).w
  · omega
theorem pairN_wl (n : Nat) (X : Nat → Nat) : pairN n X < 18446744073709551616 := by
  unfold pairN
  split
  · rename_i h; obtain ⟨h64, hf⟩ := good_iff.1 h; exact (hal_bd n X h64 hf).w
  · omega
theorem driftN_wl (n : Nat) (X : Nat → Nat) : driftN n X < 18446744073709551616 := by
  unfold driftN
  split
  · rename_i h
    unfold driftB at h
    rw [Bool.and_eq_true, decide_eq_true_iff] at h
    obtain ⟨h64, hf⟩ := good_iff.1 h.1
    exact (dr_end h.2 h64 hf).2.2.1
  · omega
theorem meanB_iff' {n : Nat} {X : Nat → Nat} (h : meanB n X = true) : n ≤ 64 ∧ 1 ≤ n ∧ ∀ j, j < n → finB (X j) = true := by
  unfold meanB at h
  rw [Bool.and_eq_true, decide_eq_true_iff] at h
  obtain ⟨h64, hf⟩ := good_iff.1 h.1
  exact ⟨h64, h.2, hf⟩
theorem meanN_wf (n : Nat) (X : Nat → Nat) : (Lit.float .f32 (meanN n X)).wf = true := by
  unfold meanN
  split
  · rename_i h
    obtain ⟨h64, h1, hf⟩ := meanB_iff' h
    exact wf_single (mean_bd fn_lo fn_hi h1 (by omega) (sum_bd h64 hf)).2.2.1
  · rfl
theorem meanN_fin (n : Nat) (X : Nat → Nat) : finB (meanN n X) = true := by
  unfold meanN
  split
  · rename_i h
    obtain ⟨h64, h1, hf⟩ := meanB_iff' h
    exact (mean_bd fn_lo fn_hi h1 (by omega) (sum_bd h64 hf)).2.2.2.1
  · decide
end Go.Proofs.Ytlbapogmcnpmeaa.Avg
