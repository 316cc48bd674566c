/- The walk of FnExactUnitValue: it returns true. -/
import Derived.Test.YtkjjeccgmeiniaaRows
import Derived.Test.YtkjjeccgmeiniaaQtmA
import Derived.Test.YtkjjeccgmeiniaaQtmB
import Derived.Test.YtkjjeccgmeiniaaQtmU
import Derived.Test.YtkjjeccgmeiniaaSame
namespace Go.Proofs.Ytkjjeccgmeiniaa.Flt
end Go.Proofs.Ytkjjeccgmeiniaa.Flt
namespace Go.Proofs.Ytkjjeccgmeiniaa.Mth
end Go.Proofs.Ytkjjeccgmeiniaa.Mth
namespace Go.Proofs.Ytkjjeccgmeiniaa.Qtm
end Go.Proofs.Ytkjjeccgmeiniaa.Qtm
namespace Go.Proofs.Ytkjjeccgmeiniaa.fnExactUnitValue
open Go.ChangeShapes Go.WideShapes Go.ChangeAt Go.RowKit Go.Proofs.Ytkjjeccgmeiniaa Go.Proofs.Ytkjjeccgmeiniaa.Flt Go.Proofs.Ytkjjeccgmeiniaa.Mth Go.Proofs.Ytkjjeccgmeiniaa.Qtm
open Ieee (single double)
set_option linter.unusedVariables false
set_option maxRecDepth 20000
set_option maxHeartbeats 800000 in
theorem walk (s : ByteArray) (m e : Int) (w : World) (ws : s.size ≤ maxLen) (wm : (Lit.int .i64 m).wf = true) (we : (Lit.int .i64 e).wf = true) :
    Calls Try.prog 6 #[uv s m e] w fun y w' => y = .returned (.bool true) ∧ Below w.heap.size w w' := by
  have us : (Try.prog.underlying 31).isSome = true := by rw [Try.underlying31]; rfl
  by_cases hl : s.size ≤ 1048576
  · have hz := fun W => sz_fits s m e W hl
    have ht := fun W => to_any s m e W
    have hs := fun W => spec_unit s m e W
    have hi := fun W => impl_unit s m e W
    unfold UOut at hs hi
    have hv : (uOut s m e).1 < 4294967296 := by
      rcases unit_cases s m e with h | ⟨v, h, h1, _⟩
      · rw [h]; decide
      · rw [h]; exact h1
    obtain ⟨⟨v, ok⟩, ho⟩ : ∃ o, uOut s m e = o := ⟨_, rfl⟩
    simp only [ho] at hs hi hv
    have h1 : ¬ (1048576 : Int) - (s.size : Int) < 0 := by omega
    have wy := wf_single hv
    unfold uv at *
    clear ho hl wm we
    go_enter Try.func6, Try.ntmps6
    go_wp2_with fail
    refine (hz _).mono ?_
    rintro y w1 ⟨rfl, hb1⟩
    have Hb1 := Lib.hid ((UB.new s m e w 40).next hb1)
    obtain ⟨c0, c1, c2⟩ := Hb1.out.2
    clear hb1
    go_wp2_with fail
    refine (ht _).mono ?_
    rintro y w2 ⟨rfl, hb2⟩
    have Hb2 := Lib.hid (Hb1.out.next hb2)
    clear c0 c1 c2
    obtain ⟨c0, c1, c2⟩ := Hb2.out.2
    clear hb2
    go_wp2_with fail
    refine (hs _).mono ?_
    rintro y w3 ⟨rfl, hb3⟩
    have Hb3 := Lib.hid (Hb2.out.next hb3)
    clear c0 c1 c2
    obtain ⟨c0, c1, c2⟩ := Hb3.out.2
    clear hb3
    go_wp2_with fail
    refine (ht _).mono ?_
    rintro y w4 ⟨rfl, hb4⟩
    have Hb4 := Lib.hid (Hb3.out.next hb4)
    clear c0 c1 c2
    obtain ⟨c0, c1, c2⟩ := Hb4.out.2
    clear hb4
    go_wp2_with fail
    refine (hi _).mono ?_
    rintro y w5 ⟨rfl, hb5⟩
    have Hb5 := Lib.hid (Hb4.out.next hb5)
    clear c0 c1 c2
    obtain ⟨c0, c1, c2⟩ := Hb5.out.2
    clear hb5
    obtain ⟨r, n, hr, kr⟩ := run_widen_any (P := Try.prog) 31 44 v us Try.underlying44 w5
    obtain ⟨q, k, hq, kq⟩ := run_widen_any (P := Try.prog) 31 44 v us Try.underlying44 (w5.drewN n)
    have hsame : sameW Ieee.double r q = true := by rw [sameW_wid wy wy hr hq, sameW_refl]
    have hr1 := hr.1
    have hq1 := hq.1
    clear hr hq
    go_wp2_with fail
    refine (sameFloat_any _ _ _ hr1 hq1).mono ?_
    rintro y w' ⟨rfl, hw'⟩
    subst w'
    rw [hsame]
    go_wp2_with fail
    go_ret
    exact ⟨rfl, below_drewN Hb5.out.1 _⟩
  · have hz := fun W => sz_big s m e W ws hl
    unfold uv at *
    clear hl wm we
    go_enter Try.func6, Try.ntmps6
    go_wp2_with fail
    refine (hz _).mono ?_
    rintro y w1 ⟨rfl, hb1⟩
    have Hb1 := Lib.hid (show Below w.heap.size w w1 from ((Below.refl _ _).alloc (Nat.le_refl _) _).trans (hb1.mono (by go_grown)))
    clear hb1
    go_wp2_with fail
    go_ret
    exact ⟨rfl, Hb1.out⟩
end Go.Proofs.Ytkjjeccgmeiniaa.fnExactUnitValue
