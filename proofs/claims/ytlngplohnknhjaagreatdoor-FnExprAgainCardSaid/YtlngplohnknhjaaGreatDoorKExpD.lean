/- Contracts of the model's draws of doubles, of complex numbers (small ones are finite). -/
import Derived.Test.YtlngplohnknhjaaGreatDoorKDrawF
import Derived.Test.YtlngplohnknhjaaGreatDoorKMil
import Derived.Test.YtlngplohnknhjaaGreatDoorKPickQ
import Derived.Test.YtlngplohnknhjaaGreatDoorPkB
namespace Go.Proofs.YtlngplohnknhjaaGreatDoor.Drw
open Go.ChangeShapes Go.WideShapes Go.ChangeAt Go.RowKit Go.Proofs.YtlngplohnknhjaaGreatDoor Go.Proofs.YtlngplohnknhjaaGreatDoor.Flt Go.Proofs.YtlngplohnknhjaaGreatDoor.Mth
open Ieee (single double)
set_option linter.unusedVariables false
/-- some double has been drawn -/
def DoubleOut (base B : Nat) (w : World) (e : Ending) (w' : World) : Prop := ∃ r : Nat, (Lit.float .f64 r).wf = true ∧ e = .returned (.float .f64 r) ∧ Cur base w' B ∧ Only B w w'
theorem us32 : (Tryz.prog.underlying 92).isSome = true := by rw [Tryz.underlying92]; rfl
set_option maxHeartbeats 1600000 in
theorem double_any (base B : Nat) (w : World) (hc : Cur base w B) :
    Calls Tryz.prog 54 #[.pointer (some ⟨B, 0, none⟩)] w (DoubleOut base B w) := by
  have us := us32
  go_enter Tryz.func54, Tryz.ntmps54
  go_wp2_with fail
  refine (below_any base B _ _ hc (by omega)).mono ?_
  rintro e w1 ⟨r, r0, r1, rfl, hc1, ho1⟩
  have Hc1 := Lib.hid hc1
  have Ho1 := Lib.hid ho1
  have h16 : r < 10 := r1 (by omega)
  clear hc1 ho1 hc r1
  by_cases h0 : r = 0
  · subst h0
    go_wp2_with fail
    go_ret
    exact ⟨_, by decide, rfl, Hc1.out, Ho1.out⟩
  have b0 : (r == 0) = false := beq_eq_false_iff_ne.2 h0
  clear h0
  by_cases h0 : r = 1
  · subst h0
    go_wp2_with fail
    go_ret
    exact ⟨_, by decide, rfl, Hc1.out, Ho1.out⟩
  have b1 : (r == 1) = false := beq_eq_false_iff_ne.2 h0
  clear h0
  by_cases h0 : r = 2
  · subst h0
    go_wp2_with fail
    refine (below_any base B _ _ Hc1.out (by omega)).mono ?_
    rintro e w2 ⟨x, x0, x1, rfl, hc2, ho2⟩
    have Hc2 := Lib.hid hc2
    have Ho2 := Lib.hid (Ho1.out.trans ho2)
    clear hc2 ho2 x1
    obtain ⟨q, n, wq, _, kq⟩ := run_float_any (P := Tryz.prog) .quo (.inr (.inr (.inr rfl))) 60 .f64 (floatOfInt .f64 (wrap64 (x - 500000))) 4613937818241073152 w2
    go_wp2_with fail
    go_ret
    exact ⟨q, wq, rfl, Hc2.out.drewN _, Ho2.out.drewN _⟩
  have b2 : (r == 2) = false := beq_eq_false_iff_ne.2 h0
  clear h0
  by_cases h0 : r = 3
  · subst h0
    go_wp2_with fail
    refine (single_any base B _ Hc1.out).mono ?_
    rintro e w2 ⟨x, wx, rfl, hc2, ho2⟩
    have Hc2 := Lib.hid hc2
    have Ho2 := Lib.hid (Ho1.out.trans ho2)
    clear hc2 ho2
    obtain ⟨p, m, hp, kp⟩ := run_widen_any (P := Tryz.prog) 92 60 x us Tryz.underlying60 w2
    obtain ⟨q, n, wq, _, kq⟩ := run_float_any (P := Tryz.prog) .mul (.inr (.inr (.inl rfl))) 60 .f64 p 9094988921128908188 (w2.drewN m)
    clear hp us
    go_wp2_with fail
    go_ret
    exact ⟨q, wq, rfl, Hc2.out.drewN _, Ho2.out.drewN _⟩
  have b3 : (r == 3) = false := beq_eq_false_iff_ne.2 h0
  clear h0
  by_cases h0 : r = 4
  · subst h0
    go_wp2_with fail
    refine (mild_any base B _ Hc1.out).mono ?_
    rintro e w2 ⟨x, wx, rfl, hc2, ho2⟩
    have Hc2 := Lib.hid hc2
    have Ho2 := Lib.hid (Ho1.out.trans ho2)
    clear hc2 ho2
    obtain ⟨p, m, hp, kp⟩ := run_widen_any (P := Tryz.prog) 92 60 x us Tryz.underlying60 w2
    obtain ⟨q, n, wq, _, kq⟩ := run_float_any (P := Tryz.prog) .mul (.inr (.inr (.inl rfl))) 60 .f64 p 20240225330731 (w2.drewN m)
    clear hp us
    go_wp2_with fail
    go_ret
    exact ⟨q, wq, rfl, Hc2.out.drewN _, Ho2.out.drewN _⟩
  have b4 : (r == 4) = false := beq_eq_false_iff_ne.2 h0
  clear h0
  go_wp2_with fail
  refine (single_any base B _ Hc1.out).mono ?_
  rintro e w2 ⟨x, wx, rfl, hc2, ho2⟩
  have Hc2 := Lib.hid hc2
  have Ho2 := Lib.hid (Ho1.out.trans ho2)
  clear hc2 ho2
  obtain ⟨p, m, hp, kp⟩ := run_widen_any (P := Tryz.prog) 92 60 x us Tryz.underlying60 w2
  have hp1 := hp.1
  clear hp us
  go_wp2_with fail
  go_ret
  exact ⟨p, wf_double hp1, rfl, Hc2.out.drewN _, Ho2.out.drewN _⟩
/-- some complex number has been drawn -/
def CpxOut (k : FloatKind) (base B : Nat) (w : World) (e : Ending) (w' : World) : Prop := ∃ x y : Nat, (Lit.float k x).wf = true ∧ (Lit.float k y).wf = true ∧ e = .returned (.complex k x y) ∧ Cur base w' B ∧ Only B w w'
theorem complex_any (base B : Nat) (w : World) (hc : Cur base w B) :
    Calls Tryz.prog 33 #[.pointer (some ⟨B, 0, none⟩)] w (CpxOut .f64 base B w) := by
  go_enter Tryz.func33, Tryz.ntmps33
  go_wp2_with fail
  refine (double_any base B _ hc).mono ?_
  rintro e w1 ⟨x, wx, rfl, hc1, ho1⟩
  have Hc1 := Lib.hid hc1
  have Ho1 := Lib.hid ho1
  clear hc1 ho1 hc
  go_wp2_with fail
  refine (double_any base B _ Hc1.out).mono ?_
  rintro e w2 ⟨y, wy, rfl, hc2, ho2⟩
  have Hc2 := Lib.hid hc2
  have Ho2 := Lib.hid (Ho1.out.trans ho2)
  clear hc2 ho2
  go_wp2_with fail
  go_ret
  exact ⟨x, y, wx, wy, rfl, Hc2.out, Ho2.out⟩
/-- a small complex number has been drawn -/
def MildZ (base B : Nat) (w : World) (e : Ending) (w' : World) : Prop := ∃ x y : Nat, ((x < 18446744073709551616 ∧ isFinD x = true) ∧ (y < 18446744073709551616 ∧ isFinD y = true)) ∧ e = .returned (.complex .f64 x y) ∧ Cur base w' B ∧ Only B w w'
theorem mildZ_any (base B : Nat) (w : World) (hc : Cur base w B) :
    Calls Tryz.prog 32 #[.pointer (some ⟨B, 0, none⟩)] w (MildZ base B w) := by
  have us := us32
  go_enter Tryz.func32, Tryz.ntmps32
  go_wp2_with fail
  refine (mildF_any base B _ hc).mono ?_
  rintro e w1 ⟨x, wx, rfl, hc1, ho1⟩
  have Hc1 := Lib.hid hc1
  have Ho1 := Lib.hid ho1
  clear hc1 ho1 hc
  obtain ⟨p, m, hp, kp⟩ := run_widen_any (P := Tryz.prog) 92 60 x us Tryz.underlying60 w1
  have hp1 := Lib.hid (wid_fin wx.2 hp)
  clear hp
  go_wp2_with fail
  refine (mildF_any base B _ (Hc1.out.drewN m)).mono ?_
  rintro e w2 ⟨y, wy, rfl, hc2, ho2⟩
  have Hc2 := Lib.hid hc2
  have Ho2 := Lib.hid ((Ho1.out.drewN m).trans ho2)
  clear hc2 ho2 kp
  obtain ⟨q, n, hq, kq⟩ := run_widen_any (P := Tryz.prog) 92 60 y us Tryz.underlying60 w2
  have hq1 := Lib.hid (wid_fin wy.2 hq)
  clear hq us
  go_wp2_with fail
  go_ret
  exact ⟨p, q, ⟨hp1.out, hq1.out⟩, rfl, Hc2.out.drewN _, Ho2.out.drewN _⟩
end Go.Proofs.YtlngplohnknhjaaGreatDoor.Drw
