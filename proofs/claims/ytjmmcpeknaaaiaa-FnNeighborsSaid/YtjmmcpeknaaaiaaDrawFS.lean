/- The contract of the model's DrawSingle. -/
import Derived.Test.YtjmmcpeknaaaiaaDrawF
namespace Go.Proofs.Ytjmmcpeknaaaiaa.Drw
open Go.ChangeShapes Go.WideShapes Go.ChangeAt Go.RowKit Go.Proofs.Ytjmmcpeknaaaiaa Go.Proofs.Ytjmmcpeknaaaiaa.Flt Go.Proofs.Ytjmmcpeknaaaiaa.Mth
set_option linter.unusedVariables false
/-- some single has been drawn out of the code -/
def DrawOut (w : World) (e : Ending) (w' : World) : Prop := ∃ r : Nat, (Lit.float .f32 r).wf = true ∧ e = .returned (.float .f32 r) ∧ Below w.heap.size w w'
theorem draw_any (a : Option Addr) (len cap : Nat) (zs : List Int) (w : World) (hr : IsRow .u8 w a len cap zs) :
    Calls Try.prog 22 #[.slice a len cap] w (DrawOut w) := by
  go_enter Try.func22, Try.ntmps22
  go_wp2_with fail
  refine (new_any a len cap zs _ hr).mono ?_
  rintro e w1 ⟨rfl, hc, hb⟩
  have Hb := Lib.hid hb
  clear hb hr
  go_wp2_with fail
  refine (single_any _ _ _ hc).mono ?_
  rintro e w2 ⟨q, wq, rfl, hc2, ho2⟩
  have hb2 := Lib.hid (Hb.out.trans (ho2.below (Nat.le_refl _) Hb.out.size))
  clear hc hc2 ho2
  go_wp2_with fail
  go_ret
  exact ⟨q, wq, rfl, hb2.out⟩
end Go.Proofs.Ytjmmcpeknaaaiaa.Drw
