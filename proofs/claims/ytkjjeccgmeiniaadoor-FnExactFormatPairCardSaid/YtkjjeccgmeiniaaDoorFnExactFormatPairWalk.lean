/- The walk of FnExactFormatPair: it returns true. -/
import Derived.Test.YtkjjeccgmeiniaaDoorRows
import Derived.Test.YtkjjeccgmeiniaaDoorPrT
namespace Go.Proofs.YtkjjeccgmeiniaaDoor.Prs
end Go.Proofs.YtkjjeccgmeiniaaDoor.Prs
namespace Go.Proofs.YtkjjeccgmeiniaaDoor.fnExactFormatPair
open Go.ChangeShapes Go.WideShapes Go.ChangeAt Go.RowKit Go.Proofs.YtkjjeccgmeiniaaDoor Go.Proofs.YtkjjeccgmeiniaaDoor.Prs
set_option linter.unusedVariables false
theorem walk (re im : Int) (w : World) (htab : Door.Tab w) (w0 : (Lit.int .i64 re).wf = true) (w1 : (Lit.int .i64 im).wf = true) :
    Calls Tryd.prog 5 #[.int .i64 re, .int .i64 im] w fun x w' => x = .returned (.bool true) ∧ Below w.heap.size w w' := by
  have Ht := Lib.hid htab
  have hs := fun W => spec_any re im W
  have hi := fun (W : World) h => impl_any re im W h
  unfold Ptx at hs hi
  generalize pairB re im = t at *
  clear htab w0 w1
  go_enter Tryd.func5, Tryd.ntmps5
  go_wp2_with fail
  refine (hs _).mono ?_
  rintro e w1 ⟨rfl, hb1⟩
  have Hb1 := Lib.hid hb1
  have Ht1 := Lib.hid (Door.tab_below Ht.out hb1)
  clear hb1
  go_wp2_with fail
  refine (hi _ Ht1.out).mono ?_
  rintro e w2 ⟨rfl, hb2⟩
  have Hb2 := Lib.hid (Hb1.out.trans (hb2.mono Hb1.out.size))
  clear hb2
  go_wp2_with fail
  go_ret
  exact ⟨rfl, Hb2.out⟩
end Go.Proofs.YtkjjeccgmeiniaaDoor.fnExactFormatPair
