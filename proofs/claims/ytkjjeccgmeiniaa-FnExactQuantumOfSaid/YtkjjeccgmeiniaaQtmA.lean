/- A unit among the arguments: its size, its copy. -/
import Derived.Test.YtkjjeccgmeiniaaQtmV
import Derived.Handy
import Derived.KernelRfl
namespace Go.Proofs.Ytkjjeccgmeiniaa.Flt
end Go.Proofs.Ytkjjeccgmeiniaa.Flt
namespace Go.Proofs.Ytkjjeccgmeiniaa.Mth
end Go.Proofs.Ytkjjeccgmeiniaa.Mth
namespace Go.Proofs.Ytkjjeccgmeiniaa.Qtm
open Go.ChangeShapes Go.WideShapes Go.ChangeAt Go.RowKit Go.Proofs.Ytkjjeccgmeiniaa Go.Proofs.Ytkjjeccgmeiniaa.Flt Go.Proofs.Ytkjjeccgmeiniaa.Mth
set_option linter.unusedVariables false
set_option linter.unusedSimpArgs false
theorem sz_big (s : ByteArray) (m e : Int) (w : World) (ws : s.size ≤ maxLen) (h : ¬ s.size ≤ 1048576) :
    Calls Try.prog 19 #[uv s m e, .int .i64 1048576] w fun y w' => y = .returned (.int .i64 (-1)) ∧ Below w.heap.size w w' := by
  unfold maxLen at ws
  have h1 : (1048576 : Int) - (s.size : Int) < 0 := by omega
  unfold uv
  go_enter Try.func19, Try.ntmps19
  go_wp2
  go_ret
  exact ⟨rfl, by go_grown⟩
theorem sz_fits (s : ByteArray) (m e : Int) (w : World) (h : s.size ≤ 1048576) :
    Calls Try.prog 19 #[uv s m e, .int .i64 1048576] w fun y w' => y = .returned (.int .i64 (1048576 - (s.size : Int))) ∧ Below w.heap.size w w' := by
  have h1 : ¬ (1048576 : Int) - (s.size : Int) < 0 := by omega
  unfold uv
  go_enter Try.func19, Try.ntmps19
  go_wp2
  go_ret
  exact ⟨rfl, by go_grown⟩
theorem to_any (s : ByteArray) (m e : Int) (w : World) :
    Calls Try.prog 21 #[uv s m e] w fun y w' => y = .returned (uv s m e) ∧ Below w.heap.size w w' := by
  unfold uv
  go_enter Try.func21, Try.ntmps21
  go_wp2_with fail
  refine bodyPost_ret (by simp [results, Try.results21, go_sem]; try rfl) rfl ?_
  exact ⟨rfl, by go_grown⟩
end Go.Proofs.Ytkjjeccgmeiniaa.Qtm
