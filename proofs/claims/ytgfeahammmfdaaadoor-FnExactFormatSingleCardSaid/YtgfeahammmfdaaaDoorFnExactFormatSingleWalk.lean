/- The walk of FnExactFormatSingle: it returns true. -/
import Derived.Test.YtgfeahammmfdaaaDoorRows
import Derived.Test.YtgfeahammmfdaaaDoorSngF
import Derived.Test.YtgfeahammmfdaaaDoorPick
namespace Go.Proofs.YtgfeahammmfdaaaDoor.fnExactFormatSingle
open Go.ChangeShapes Go.WideShapes Go.ChangeAt Go.RowKit Go.Proofs.YtgfeahammmfdaaaDoor
set_option linter.unusedVariables false
theorem walk (x : Nat) (w : World) (htab : Door.Tab w) (wx : (Lit.float .f32 x).wf = true) :
    Calls Tryd.prog 8 #[.float .f32 x] w fun e w' => e = .returned (.bool true) ∧ Below w.heap.size w w' := by
  have Ht := Lib.hid htab
  clear htab
  have c1 := fun w => Sng.spec_fmt x w wx
  have c2 := fun w h => Sng.impl_fmt x w wx h
  unfold Sng.Fmt at c1 c2
  generalize Sng.fmtS x = s at *
  go_enter Tryd.func8, Tryd.ntmps8
  go_wp2_with fail
  refine (c1 _).mono ?_
  rintro e w1 ⟨rfl, hb1⟩
  have Hb1 := Lib.hid hb1
  have Ht1 := Lib.hid (show Door.Tab w1 from Door.tab_below Ht.out hb1)
  clear hb1
  go_wp2_with fail
  refine (c2 _ Ht1.out).mono ?_
  rintro e w2 ⟨rfl, hb2⟩
  have Hb2 := Lib.hid (Hb1.out.trans (hb2.mono Hb1.out.size))
  clear hb2
  go_wp2_with fail
  go_ret
  exact ⟨rfl, Hb2.out⟩
end Go.Proofs.YtgfeahammmfdaaaDoor.fnExactFormatSingle
