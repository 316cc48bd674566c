/- The walk of FnExactDecodeHex: it returns true. -/
import Derived.Test.YtgfeahammmfdaaaRows
import Derived.Test.YtgfeahammmfdaaaHexW
namespace Go.Proofs.Ytgfeahammmfdaaa.fnExactDecodeHex
open Go.ChangeShapes Go.WideShapes Go.ChangeAt Go.RowKit Go.Proofs.Ytgfeahammmfdaaa Go.Proofs.Ytgfeahammmfdaaa.Hex
set_option linter.unusedVariables false
set_option maxHeartbeats 800000 in
theorem walk (s : ByteArray) (w : World) (ws : s.size ≤ maxLen) :
    Calls Try.prog 4 #[.string s] w fun x w' => x = .returned (.bool true) ∧ Below w.heap.size w w' := by
  by_cases hl : s.size ≤ 1048576
  · have c1 := fun w => specDec s w hl
    have c2 := fun w => implDec s w hl
    generalize (decR s).1 = t at c1 c2
    generalize (decR s).2 = b at c1 c2
    go_enter Try.func4, Try.ntmps4
    go_wp2_with fail
    refine (c1 _).mono ?_
    rintro e w1 ⟨rfl, hb1⟩
    have H1 := Lib.hid hb1
    clear hb1
    go_wp2_with fail
    refine (c2 _).mono ?_
    rintro e w2 ⟨rfl, hb2⟩
    have H2 := Lib.hid (H1.out.trans (hb2.mono H1.out.size))
    clear hb2
    go_wp2_with fail
    go_ret
    exact ⟨rfl, H2.out⟩
  · go_enter Try.func4, Try.ntmps4
    go_wp2_with fail
    go_ret
    exact ⟨rfl, Below.refl _ _⟩
end Go.Proofs.Ytgfeahammmfdaaa.fnExactDecodeHex
