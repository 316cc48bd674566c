/- Contracts on complex numbers: the norm, the conjugate, the side, whether one is finite. -/
import Derived.Test.YtegcgbddoeoipaaQuo
import Derived.Test.YtegcgbddoeoipaaMathC
import Derived.Below
namespace Go.Proofs.Ytegcgbddoeoipaa.Cpx
open Go.ChangeShapes Go.WideShapes Go.ChangeAt Go.RowKit Go.Proofs.Ytegcgbddoeoipaa Go.Proofs.Ytegcgbddoeoipaa.Flt Go.Proofs.Ytegcgbddoeoipaa.Mth
set_option linter.unusedVariables false
/-- the norm, as an option -/
def nrm (x y : Nat) : Option Nat := fo .add .f64 (fo .mul .f64 (can .f64 x) (can .f64 x)) (fo .mul .f64 (can .f64 y) (can .f64 y))
theorem norm_any (x y : Nat) (w : World) :
    Calls Try.prog 25 #[.complex .f64 x y] w fun e w' => ∃ r n, (Lit.float .f64 r).wf = true ∧ can .f64 r = nrm x y ∧ e = .returned (.float .f64 r) ∧ w' = w.drewN n := by
  obtain ⟨r1, n1, w1, c1, k1⟩ := run_fo (P := Try.prog) .mul hMul 42 .f64 x x w
  obtain ⟨r2, n2, w2, c2, k2⟩ := run_fo (P := Try.prog) .mul hMul 42 .f64 y y (w.drewN n1)
  obtain ⟨r3, n3, w3, c3, k3⟩ := run_fo (P := Try.prog) .add hAdd 42 .f64 r1 r2 (w.drewN (n1 + n2))
  have H := Lib.hid (show can .f64 r3 = nrm x y by unfold nrm; rw [c3, c1, c2])
  clear c1 c2 c3
  go_enter Try.func25, Try.ntmps25
  go_wp2_with fail
  go_ret
  exact ⟨r3, n1 + n2 + n3, w3, H.out, rfl, rfl⟩
theorem conj_any (x y : Nat) (w : World) :
    Calls Try.prog 26 #[.complex .f64 x y] w fun e w' => e = .returned (.complex .f64 x (Op.negFloat .f64 y)) ∧ w' = w := by
  go_enter Try.func26, Try.ntmps26
  go_wp2_with fail
  go_ret
  exact ⟨rfl, rfl⟩
/-- the difference whose sign is the side -/
def dif (x y u v : Nat) : Option Nat := fo .sub .f64 (fo .mul .f64 (can .f64 x) (can .f64 v)) (fo .mul .f64 (can .f64 y) (can .f64 u))
def side (x y u v : Nat) : Int := if pos .f64 (dif x y u v) then 1 else if ngt .f64 (dif x y u v) then -1 else 0
theorem ret_i {a b : Int} (h : a = b) : Ending.returned (.int .i64 a) = .returned (.int .i64 b) := by rw [h]
theorem side_any (x y u v : Nat) (w : World) :
    Calls Try.prog 27 #[.complex .f64 x y, .complex .f64 u v] w fun e w' => e = .returned (.int .i64 (side x y u v)) ∧ ∃ n, w' = w.drewN n := by
  obtain ⟨r1, n1, w1, c1, k1⟩ := run_fo (P := Try.prog) .mul hMul 42 .f64 x v w
  obtain ⟨r2, n2, w2, c2, k2⟩ := run_fo (P := Try.prog) .mul hMul 42 .f64 y u (w.drewN n1)
  obtain ⟨r3, n3, w3, c3, k3⟩ := run_fo (P := Try.prog) .sub hSub 42 .f64 r1 r2 (w.drewN (n1 + n2))
  have hp := pos_can .f64 r3
  have hn := ngt_can .f64 r3
  have hd : can .f64 r3 = dif x y u v := by unfold dif; rw [c3, c1, c2]
  rw [hd] at hp hn
  clear c1 c2 c3 hd
  cases h1 : pos .f64 (dif x y u v) <;> cases h2 : ngt .f64 (dif x y u v)
  all_goals
    have H := Lib.hid (show side x y u v = _ by unfold side; rw [h1, h2])
    rw [h1] at hp
    rw [h2] at hn
    clear h1 h2
    go_enter Try.func27, Try.ntmps27
    go_wp2_with fail
    go_ret
    exact ⟨ret_i (by rw [H.out]; rfl), n1 + n2 + n3, rfl⟩
end Go.Proofs.Ytegcgbddoeoipaa.Cpx
