/- Contracts of the model's draws of doubles and of complex numbers. -/
import Derived.Test.YtegcgbddoeoipaaDrawF
import Derived.Test.YtegcgbddoeoipaaPickQ
namespace Go.Proofs.Ytegcgbddoeoipaa.Drw
open Go.ChangeShapes Go.WideShapes Go.ChangeAt Go.RowKit Go.Proofs.Ytegcgbddoeoipaa Go.Proofs.Ytegcgbddoeoipaa.Flt Go.Proofs.Ytegcgbddoeoipaa.Mth
set_option linter.unusedVariables false
/-- some double has been drawn -/
def DoubleOut (base B : Nat) (w : World) (e : Ending) (w' : World) : Prop := ∃ r : Nat, (Lit.float .f64 r).wf = true ∧ e = .returned (.float .f64 r) ∧ Cur base w' B ∧ Only B w w'
theorem us32 : (Try.prog.underlying 33).isSome = true := by rw [Try.underlying33]; rfl
set_option maxHeartbeats 1600000 in
theorem double_any (base B : Nat) (w : World) (hc : Cur base w B) :
    Calls Try.prog 59 #[.pointer (some ⟨B, 0, none⟩)] w (DoubleOut base B w) := by
  have us := us32
  go_enter Try.func59, Try.ntmps59
  go_wp2_with fail
  refine (below_any base B _ _ hc (by omega)).mono ?_
  rintro e w1 ⟨r, r0, r1, rfl, hc1, ho1⟩
  have Hc1 := Lib.hid hc1
  have Ho1 := Lib.hid ho1
  have h16 : r < 10 := r1 (by omega)
  clear hc1 ho1 hc r1
  by_cases h0 : r = 0
  · subst h0
    go_wp2_with fail
    go_ret
    exact ⟨_, by decide, rfl, Hc1.out, Ho1.out⟩
  have b0 : (r == 0) = false := beq_eq_false_iff_ne.2 h0
  clear h0
  by_cases h0 : r = 1
  · subst h0
    go_wp2_with fail
    go_ret
    exact ⟨_, by decide, rfl, Hc1.out, Ho1.out⟩
  have b1 : (r == 1) = false := beq_eq_false_iff_ne.2 h0
  clear h0
  by_cases h0 : r = 2
  · subst h0
    go_wp2_with fail
    refine (below_any base B _ _ Hc1.out (by omega)).mono ?_
    rintro e w2 ⟨x, x0, x1, rfl, hc2, ho2⟩
    have Hc2 := Lib.hid hc2
    have Ho2 := Lib.hid (Ho1.out.trans ho2)
    clear hc2 ho2 x1
    obtain ⟨q, n, wq, _, kq⟩ := run_float_any (P := Try.prog) .quo (.inr (.inr (.inr rfl))) 42 .f64 (floatOfInt .f64 (wrap64 (x - 500000))) 4613937818241073152 w2
    go_wp2_with fail
    go_ret
    exact ⟨q, wq, rfl, Hc2.out.drewN _, Ho2.out.drewN _⟩
  have b2 : (r == 2) = false := beq_eq_false_iff_ne.2 h0
  clear h0
  by_cases h0 : r = 3
  · subst h0
    go_wp2_with fail
    refine (single_any base B _ Hc1.out).mono ?_
    rintro e w2 ⟨x, wx, rfl, hc2, ho2⟩
    have Hc2 := Lib.hid hc2
    have Ho2 := Lib.hid (Ho1.out.trans ho2)
    clear hc2 ho2
    obtain ⟨p, m, hp, kp⟩ := run_widen_any (P := Try.prog) 33 42 x us Try.underlying42 w2
    obtain ⟨q, n, wq, _, kq⟩ := run_float_any (P := Try.prog) .mul (.inr (.inr (.inl rfl))) 42 .f64 p 9094988921128908188 (w2.drewN m)
    clear hp us
    go_wp2_with fail
    go_ret
    exact ⟨q, wq, rfl, Hc2.out.drewN _, Ho2.out.drewN _⟩
  have b3 : (r == 3) = false := beq_eq_false_iff_ne.2 h0
  clear h0
  by_cases h0 : r = 4
  · subst h0
    go_wp2_with fail
    refine (mild_any base B _ Hc1.out).mono ?_
    rintro e w2 ⟨x, wx, rfl, hc2, ho2⟩
    have Hc2 := Lib.hid hc2
    have Ho2 := Lib.hid (Ho1.out.trans ho2)
    clear hc2 ho2
    obtain ⟨p, m, hp, kp⟩ := run_widen_any (P := Try.prog) 33 42 x us Try.underlying42 w2
    obtain ⟨q, n, wq, _, kq⟩ := run_float_any (P := Try.prog) .mul (.inr (.inr (.inl rfl))) 42 .f64 p 20240225330731 (w2.drewN m)
    clear hp us
    go_wp2_with fail
    go_ret
    exact ⟨q, wq, rfl, Hc2.out.drewN _, Ho2.out.drewN _⟩
  have b4 : (r == 4) = false := beq_eq_false_iff_ne.2 h0
  clear h0
  go_wp2_with fail
  refine (single_any base B _ Hc1.out).mono ?_
  rintro e w2 ⟨x, wx, rfl, hc2, ho2⟩
  have Hc2 := Lib.hid hc2
  have Ho2 := Lib.hid (Ho1.out.trans ho2)
  clear hc2 ho2
  obtain ⟨p, m, hp, kp⟩ := run_widen_any (P := Try.prog) 33 42 x us Try.underlying42 w2
  have hp1 := hp.1
  clear hp us
  go_wp2_with fail
  go_ret
  exact ⟨p, wf_double hp1, rfl, Hc2.out.drewN _, Ho2.out.drewN _⟩
/-- some complex number has been drawn -/
def CpxOut (k : FloatKind) (base B : Nat) (w : World) (e : Ending) (w' : World) : Prop := ∃ x y : Nat, (Lit.float k x).wf = true ∧ (Lit.float k y).wf = true ∧ e = .returned (.complex k x y) ∧ Cur base w' B ∧ Only B w w'
theorem complex_any (base B : Nat) (w : World) (hc : Cur base w B) :
    Calls Try.prog 43 #[.pointer (some ⟨B, 0, none⟩)] w (CpxOut .f64 base B w) := by
  go_enter Try.func43, Try.ntmps43
  go_wp2_with fail
  refine (double_any base B _ hc).mono ?_
  rintro e w1 ⟨x, wx, rfl, hc1, ho1⟩
  have Hc1 := Lib.hid hc1
  have Ho1 := Lib.hid ho1
  clear hc1 ho1 hc
  go_wp2_with fail
  refine (double_any base B _ Hc1.out).mono ?_
  rintro e w2 ⟨y, wy, rfl, hc2, ho2⟩
  have Hc2 := Lib.hid hc2
  have Ho2 := Lib.hid (Ho1.out.trans ho2)
  clear hc2 ho2
  go_wp2_with fail
  go_ret
  exact ⟨x, y, wx, wy, rfl, Hc2.out, Ho2.out⟩
theorem narrow_any (base B : Nat) (w : World) (hc : Cur base w B) :
    Calls Try.prog 39 #[.pointer (some ⟨B, 0, none⟩)] w (CpxOut .f32 base B w) := by
  go_enter Try.func39, Try.ntmps39
  go_wp2_with fail
  refine (single_any base B _ hc).mono ?_
  rintro e w1 ⟨x, wx, rfl, hc1, ho1⟩
  have Hc1 := Lib.hid hc1
  have Ho1 := Lib.hid ho1
  clear hc1 ho1 hc
  go_wp2_with fail
  refine (single_any base B _ Hc1.out).mono ?_
  rintro e w2 ⟨y, wy, rfl, hc2, ho2⟩
  have Hc2 := Lib.hid hc2
  have Ho2 := Lib.hid (Ho1.out.trans ho2)
  clear hc2 ho2
  go_wp2_with fail
  go_ret
  exact ⟨x, y, wx, wy, rfl, Hc2.out, Ho2.out⟩
theorem mildC_any (base B : Nat) (w : World) (hc : Cur base w B) :
    Calls Try.prog 60 #[.pointer (some ⟨B, 0, none⟩)] w (CpxOut .f64 base B w) := by
  have us := us32
  go_enter Try.func60, Try.ntmps60
  go_wp2_with fail
  refine (mild_any base B _ hc).mono ?_
  rintro e w1 ⟨x, wx, rfl, hc1, ho1⟩
  have Hc1 := Lib.hid hc1
  have Ho1 := Lib.hid ho1
  clear hc1 ho1 hc
  obtain ⟨p, m, hp, kp⟩ := run_widen_any (P := Try.prog) 33 42 x us Try.underlying42 w1
  have hp1 := hp.1
  clear hp
  go_wp2_with fail
  refine (mild_any base B _ (Hc1.out.drewN m)).mono ?_
  rintro e w2 ⟨y, wy, rfl, hc2, ho2⟩
  have Hc2 := Lib.hid hc2
  have Ho2 := Lib.hid ((Ho1.out.drewN m).trans ho2)
  clear hc2 ho2 kp
  obtain ⟨q, n, hq, kq⟩ := run_widen_any (P := Try.prog) 33 42 y us Try.underlying42 w2
  have hq1 := hq.1
  clear hq us
  go_wp2_with fail
  go_ret
  exact ⟨p, q, wf_double hp1, wf_double hq1, rfl, Hc2.out.drewN _, Ho2.out.drewN _⟩
/-- two complex numbers have been drawn -/
def TwoOut (base B : Nat) (w : World) (e : Ending) (w' : World) : Prop := ∃ x y u v : Nat, ((Lit.float .f64 x).wf = true ∧ (Lit.float .f64 y).wf = true) ∧ ((Lit.float .f64 u).wf = true ∧ (Lit.float .f64 v).wf = true) ∧ e = .returned (.tuple #[.complex .f64 x y, .complex .f64 u v]) ∧ Cur base w' B ∧ Only B w w'
theorem two_any (base B : Nat) (w : World) (hc : Cur base w B) :
    Calls Try.prog 46 #[.pointer (some ⟨B, 0, none⟩)] w (TwoOut base B w) := by
  go_enter Try.func46, Try.ntmps46
  go_wp2_with fail
  refine (once_any' base B 2 _ hc (by omega)).mono ?_
  rintro e w1 ⟨b, rfl, hc1, ho1⟩
  have Hc1 := Lib.hid hc1
  have Ho1 := Lib.hid ho1
  clear hc1 ho1 hc
  cases b
  · go_wp2_with fail
    refine (complex_any base B _ Hc1.out).mono ?_
    rintro e w2 ⟨x, y, wx, wy, rfl, hc2, ho2⟩
    have Hc2 := Lib.hid hc2
    have Ho2 := Lib.hid (Ho1.out.trans ho2)
    clear hc2 ho2
    go_wp2_with fail
    refine (complex_any base B _ Hc2.out).mono ?_
    rintro e w3 ⟨u, v, wu, wv, rfl, hc3, ho3⟩
    have Hc3 := Lib.hid hc3
    have Ho3 := Lib.hid (Ho2.out.trans ho3)
    clear hc3 ho3
    go_wp2_with fail
    go_ret2
    exact ⟨x, y, u, v, ⟨wx, wy⟩, ⟨wu, wv⟩, rfl, Hc3.out, Ho3.out⟩
  · go_wp2_with fail
    refine (mildC_any base B _ Hc1.out).mono ?_
    rintro e w2 ⟨x, y, wx, wy, rfl, hc2, ho2⟩
    have Hc2 := Lib.hid hc2
    have Ho2 := Lib.hid (Ho1.out.trans ho2)
    clear hc2 ho2
    go_wp2_with fail
    refine (mildC_any base B _ Hc2.out).mono ?_
    rintro e w3 ⟨u, v, wu, wv, rfl, hc3, ho3⟩
    have Hc3 := Lib.hid hc3
    have Ho3 := Lib.hid (Ho2.out.trans ho3)
    clear hc3 ho3
    go_wp2_with fail
    go_ret2
    exact ⟨x, y, u, v, ⟨wx, wy⟩, ⟨wu, wv⟩, rfl, Hc3.out, Ho3.out⟩
theorem draw_conj (a : Option Addr) (len cap : Nat) (zs : List Int) (w : World) (hr : IsRow .u8 w a len cap zs) :
    Calls Try.prog 21 #[.slice a len cap] w fun e w' => ∃ x y : Nat, (Lit.float .f64 x).wf = true ∧ (Lit.float .f64 y).wf = true ∧ e = .returned (.complex .f64 x y) ∧ Below w.heap.size w w' := by
  go_enter Try.func21, Try.ntmps21
  go_wp2_with fail
  refine (new_any a len cap zs _ hr).mono ?_
  rintro e w1 ⟨rfl, hc, hb⟩
  have Hb := Lib.hid hb
  clear hb hr
  go_wp2_with fail
  refine (complex_any _ _ _ hc).mono ?_
  rintro e w2 ⟨x, y, wx, wy, rfl, hc2, ho2⟩
  have hb2 := Lib.hid (Hb.out.trans (ho2.below (Nat.le_refl _) Hb.out.size))
  clear hc hc2 ho2
  go_wp2_with fail
  go_ret
  exact ⟨x, y, wx, wy, rfl, hb2.out⟩
theorem draw_swap (a : Option Addr) (len cap : Nat) (zs : List Int) (w : World) (hr : IsRow .u8 w a len cap zs) :
    Calls Try.prog 19 #[.slice a len cap] w fun e w' => ∃ x y : Nat, (Lit.float .f32 x).wf = true ∧ (Lit.float .f32 y).wf = true ∧ e = .returned (.complex .f32 x y) ∧ Below w.heap.size w w' := by
  go_enter Try.func19, Try.ntmps19
  go_wp2_with fail
  refine (new_any a len cap zs _ hr).mono ?_
  rintro e w1 ⟨rfl, hc, hb⟩
  have Hb := Lib.hid hb
  clear hb hr
  go_wp2_with fail
  refine (narrow_any _ _ _ hc).mono ?_
  rintro e w2 ⟨x, y, wx, wy, rfl, hc2, ho2⟩
  have hb2 := Lib.hid (Hb.out.trans (ho2.below (Nat.le_refl _) Hb.out.size))
  clear hc hc2 ho2
  go_wp2_with fail
  go_ret
  exact ⟨x, y, wx, wy, rfl, hb2.out⟩
theorem draw_side (a : Option Addr) (len cap : Nat) (zs : List Int) (w : World) (hr : IsRow .u8 w a len cap zs) :
    Calls Try.prog 24 #[.slice a len cap] w fun e w' => ∃ x y u v : Nat, ((Lit.float .f64 x).wf = true ∧ (Lit.float .f64 y).wf = true) ∧ ((Lit.float .f64 u).wf = true ∧ (Lit.float .f64 v).wf = true) ∧ e = .returned (.tuple #[.complex .f64 x y, .complex .f64 u v]) ∧ Below w.heap.size w w' := by
  go_enter Try.func24, Try.ntmps24
  go_wp2_with fail
  refine (new_any a len cap zs _ hr).mono ?_
  rintro e w1 ⟨rfl, hc, hb⟩
  have Hb := Lib.hid hb
  clear hb hr
  go_wp2_with fail
  refine (two_any _ _ _ hc).mono ?_
  rintro e w2 ⟨x, y, u, v, wx, wu, rfl, hc2, ho2⟩
  have hb2 := Lib.hid (Hb.out.trans (ho2.below (Nat.le_refl _) Hb.out.size))
  clear hc hc2 ho2
  go_wp2_with fail
  go_ret2
  exact ⟨x, y, u, v, wx, wu, rfl, hb2.out⟩
end Go.Proofs.Ytegcgbddoeoipaa.Drw
