/- The walk of FnExactEncodeHex: it returns true. -/
import Derived.Test.YtgfeahammmfdaaaRows
import Derived.Test.YtgfeahammmfdaaaHexT
namespace Go.Proofs.Ytgfeahammmfdaaa.fnExactEncodeHex
open Go.ChangeShapes Go.WideShapes Go.ChangeAt Go.RowKit Go.Proofs.Ytgfeahammmfdaaa Go.Proofs.Ytgfeahammmfdaaa.Hex
set_option linter.unusedVariables false
set_option maxHeartbeats 800000 in
theorem walk (s : ByteArray) (w : World) (ws : s.size ≤ maxLen) :
    Calls Try.prog 3 #[.string s] w fun x w' => x = .returned (.bool true) ∧ Below w.heap.size w w' := by
  by_cases hl : s.size ≤ 1048576
  · by_cases hs : s.size ≤ 20000
    · go_enter Try.func3, Try.ntmps3
      go_wp2_with fail
      refine (specEnc s _ hs).mono ?_
      rintro e w1 ⟨rfl, hb1⟩
      have H1 := Lib.hid hb1
      clear hb1
      go_wp2_with fail
      refine (implEnc s _ hs).mono ?_
      rintro e w2 ⟨rfl, hb2⟩
      have H2 := Lib.hid (H1.out.trans (hb2.mono H1.out.size))
      clear hb2
      go_wp2_with fail
      go_ret
      exact ⟨rfl, H2.out⟩
    · go_enter Try.func3, Try.ntmps3
      go_wp2_with fail
      refine (specLong s _ hs hl).mono ?_
      rintro e w1 ⟨rfl, rfl⟩
      go_wp2_with fail
      refine (implLong s _ hs hl).mono ?_
      rintro e w2 ⟨rfl, rfl⟩
      go_wp2_with fail
      go_ret
      exact ⟨rfl, Below.refl _ _⟩
  · go_enter Try.func3, Try.ntmps3
    go_wp2_with fail
    go_ret
    exact ⟨rfl, Below.refl _ _⟩
end Go.Proofs.Ytgfeahammmfdaaa.fnExactEncodeHex
