/- Contracts of package math: Trunc. -/
import Derived.Test.YtgfeahammmfdaaaDoorFltG
import Derived.Test.YtgfeahammmfdaaaDoorMath
import Derived.Laws.BitsAllLaws
import Derived.Test.YtgfeahammmfdaaaDoorMathC
namespace Go.Proofs.YtgfeahammmfdaaaDoor.Mth
open Go.ChangeShapes Go.WideShapes Go.ChangeAt Go.RowKit Go.Proofs.YtgfeahammmfdaaaDoor Go.Proofs.YtgfeahammmfdaaaDoor.Flt
set_option linter.unusedVariables false
theorem run_archTrunc (a : Nat) (na : isNaN Ieee.double a = false) (w : World) : (callFunc 93 #[.float .f64 a]).run Tryd.prog w = .ok (.value (.float .f64 (Ieee.double.write ((Ieee.double.read a).integral .zero)))) w := by
  rw [run_callFunc_extern (e := Extern.MathFloor.toIntegral "math.archTrunc" .zero) Tryd.func93 (by kernel_rfl) (by kernel_rfl) (by kernel_rfl) (by kernel_rfl)]
  have hn := of_decide_eq_false na
  have key : ∀ d : Ieee.Datum, Ieee.double.read a = d → d.isNaN = false → (Extern.MathFloor.toIntegral "math.archTrunc" .zero #[.float .f64 a]).run Tryd.prog w = .ok (.float .f64 (Ieee.double.write (d.integral .zero))) w := by
    intro d hd' hnn
    show (Sem.run Tryd.prog (match Ieee.double.read a with
      | .nan s t => if FloatKind.f64.format.quiet t = t then pure (Value.float .f64 a) else
          (choose (.extern _ 2) >>= fun kept => pure (Value.float .f64 (if kept == 1 then a else FloatKind.f64.encode (.nan s (FloatKind.f64.format.quiet t)))))
      | d => pure (Value.float .f64 (FloatKind.f64.encode (d.integral .zero)))) w) = _
    rw [hd']
    cases d with
    | number s m p => rfl
    | infinity s => rfl
    | nan s t => cases hnn
  rcases reads Ieee.double hd a with ⟨m, e, hr, _, h⟩ | ⟨hr, h⟩ | ⟨t, hr, h⟩
  · rw [key _ h rfl, h]; rfl
  · rw [key _ h rfl, h]; rfl
  · omega
theorem write_A {F : Nat} (hF : F < 9007199254740992) : Ieee.double.write (.number false F 0) = A F 149 := by
  have hs := A_spec (m := F) (q := 149) hF (by omega)
  rw [write_num]
  have h := nearest_exact' Ieee.double false F (W + 149) 0 (A F 149) (Nat.le_of_lt hs.1) (by rw [hs.2, Nat.pow_zero, Nat.mul_one])
  rw [least_double] at h
  rw [show (0 : Int) = -1074 + ((W + 149 : Nat) : Int) - ((0 : Nat) : Int) by rw [W_eq]; omega, h]
  rfl
theorem trunc_any (m q : Nat) (w : World) (hm : m < 9007199254740992) (hq : q ≤ 1000) (hF : m * 2 ^ q / 2 ^ 149 < 9007199254740992) :
    Calls Tryd.prog 78 #[.float .f64 (A m q)] w fun e w' => e = .returned (.float .f64 (A (m * 2 ^ q / 2 ^ 149) 149)) ∧ w' = w := by
  have ht := fun w => run_archTrunc (A m q) (nan_A hm hq) w
  rw [whole_A hm hq, write_A hF] at ht
  generalize A m q = a at *
  generalize A (m * 2 ^ q / 2 ^ 149) 149 = b at *
  clear hF
  go_enter Tryd.func78, Tryd.ntmps78
  go_wp2
  go_ret
  exact ⟨rfl, rfl⟩
end Go.Proofs.YtgfeahammmfdaaaDoor.Mth
