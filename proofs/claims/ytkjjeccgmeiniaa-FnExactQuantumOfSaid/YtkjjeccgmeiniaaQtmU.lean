/- Units and their values, in the model and in the program; numbers of units. -/
import Derived.Test.YtkjjeccgmeiniaaQtmV
import Derived.Test.YtkjjeccgmeiniaaMathC
import Derived.Handy
import Derived.KernelRfl
namespace Go.Proofs.Ytkjjeccgmeiniaa.Flt
end Go.Proofs.Ytkjjeccgmeiniaa.Flt
namespace Go.Proofs.Ytkjjeccgmeiniaa.Mth
end Go.Proofs.Ytkjjeccgmeiniaa.Mth
namespace Go.Proofs.Ytkjjeccgmeiniaa.Qtm
open Go.ChangeShapes Go.WideShapes Go.ChangeAt Go.RowKit Go.Proofs.Ytkjjeccgmeiniaa Go.Proofs.Ytkjjeccgmeiniaa.Flt Go.Proofs.Ytkjjeccgmeiniaa.Mth
open Ieee (single double)
set_option linter.unusedVariables false
set_option linter.unusedSimpArgs false
/-- what UnitValue gives -/
def UOut (s : ByteArray) (m e : Int) (w : World) (x : Ending) (w' : World) : Prop := x = .returned (.tuple #[.float .f32 (uOut s m e).1, .bool (uOut s m e).2]) ∧ Below w.heap.size w w'
theorem impl_unit (s : ByteArray) (m e : Int) (w : World) : Calls Try.prog 12 #[uv s m e] w (UOut s m e w) := by
  have hm := fun W => Mks.impl_any s m e W
  unfold Mks.OutB at hm
  unfold UOut uOut uv
  obtain ⟨⟨v, ok⟩, ho⟩ : ∃ o, Mks.out s m e = o := ⟨_, rfl⟩
  simp only [ho] at hm ⊢
  have hz := eq32 v 0
  cases ok
  · rw [if_neg (fun h => by cases h.1)]
    go_enter Try.func12, Try.ntmps12
    go_wp2_with fail
    refine (hm _).mono ?_
    rintro x w1 ⟨rfl, hb⟩
    have Hb := Lib.hid hb
    clear hb
    go_wp2_with fail
    go_ret2
    exact ⟨rfl, (((Below.refl _ _).alloc (Nat.le_refl _) _).trans (Hb.out.mono (by go_grown)))⟩
  · cases hq : eqW single v 0
    · rw [hq] at hz
      rw [if_pos ⟨rfl, rfl⟩]
      go_enter Try.func12, Try.ntmps12
      go_wp2_with fail
      refine (hm _).mono ?_
      rintro x w1 ⟨rfl, hb⟩
      have Hb := Lib.hid hb
      clear hb
      go_wp2_with fail
      go_ret2
      exact ⟨rfl, (((Below.refl _ _).alloc (Nat.le_refl _) _).trans (Hb.out.mono (by go_grown)))⟩
    · rw [hq] at hz
      rw [if_neg (fun h => by cases h.2)]
      go_enter Try.func12, Try.ntmps12
      go_wp2_with fail
      refine (hm _).mono ?_
      rintro x w1 ⟨rfl, hb⟩
      have Hb := Lib.hid hb
      clear hb
      go_wp2_with fail
      go_ret2
      exact ⟨rfl, (((Below.refl _ _).alloc (Nat.le_refl _) _).trans (Hb.out.mono (by go_grown)))⟩
theorem spec_unit (s : ByteArray) (m e : Int) (w : World) : Calls Try.prog 20 #[uv s m e] w (UOut s m e w) := by
  have hm := fun W => Mks.spec_any s m e W
  unfold Mks.Out at hm
  unfold UOut uOut uv
  obtain ⟨⟨v, ok⟩, ho⟩ : ∃ o, Mks.out s m e = o := ⟨_, rfl⟩
  simp only [ho] at hm ⊢
  have hz := eq32 v 0
  cases ok
  · rw [if_neg (fun h => by cases h.1)]
    go_enter Try.func20, Try.ntmps20
    go_wp2_with fail
    refine (hm _).mono ?_
    rintro x w1 ⟨rfl, k, rfl⟩
    go_wp2_with fail
    go_ret2
    exact ⟨rfl, below_drewN (by go_grown) _⟩
  · cases hq : eqW single v 0
    all_goals
      rw [hq] at hz
      first | rw [if_pos ⟨rfl, rfl⟩] | rw [if_neg (fun h => by cases h.2)]
      go_enter Try.func20, Try.ntmps20
      go_wp2_with fail
      refine (hm _).mono ?_
      rintro x w1 ⟨rfl, k, rfl⟩
      go_wp2_with fail
      go_ret2
      exact ⟨rfl, below_drewN (by go_grown) _⟩
end Go.Proofs.Ytkjjeccgmeiniaa.Qtm
