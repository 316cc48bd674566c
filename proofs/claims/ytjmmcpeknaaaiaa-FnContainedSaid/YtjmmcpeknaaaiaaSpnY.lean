/- NextUp, NextDown, RoundDown and RoundUp of the program. -/
import Derived.Test.YtjmmcpeknaaaiaaSpnX
namespace Go.Proofs.Ytjmmcpeknaaaiaa.Spn
open Go.ChangeShapes Go.WideShapes Go.ChangeAt Go.RowKit Go.Deep Go.Proofs.Ytjmmcpeknaaaiaa Go.Proofs.Ytjmmcpeknaaaiaa.Flt Go.Proofs.Ytjmmcpeknaaaiaa.Mth
open Ieee (single double)
set_option linter.unusedVariables false
set_option linter.unusedSimpArgs false
set_option maxRecDepth 20000
theorem nan_call (w : World) : Calls Try.prog 91 #[] w fun e w' => e = .returned (.float .f64 9221120237041090561) ∧ w' = w := by
  have hc : ∀ w, (callFunc 95 #[.int .u64 9221120237041090561]).run Try.prog w = .ok (.value (.float .f64 9221120237041090561)) w := fun w => run_frombits 9221120237041090561 w
  go_enter Try.func91, Try.ntmps91
  go_wp2
  go_ret
  exact ⟨rfl, rfl⟩
theorem run_narrow_nan {P : Program} (src dst : TypeId) (b : Nat) (hs' : (P.underlying src).isSome = true) (hd' : P.underlying dst = some (.float .f32)) (h : isNaN Ieee.double b = true) (w : World) :
    ∃ r, isNaN Ieee.single r = true ∧ r < 4294967296 ∧ (convert src dst (.float .f64 b)).run P w = .ok (.float .f32 r) w.drew := by
  refine ⟨nan32 (w.tape w.drawn (.nanConv .f32 b)), (nan32_isNaN _).1, by have := (nan32_isNaN (w.tape w.drawn (.nanConv .f32 b))).2; rw [width_single] at this; exact this, ?_⟩
  obtain ⟨u, hs''⟩ := Option.isSome_iff_exists.1 hs'
  unfold isNaN at h
  have h := of_decide_eq_true h
  have hdec : ∃ s t, FloatKind.f64.decode b = .nan s t := by
    rcases reads Ieee.double hd b with ⟨m, e, hr, _, _⟩ | ⟨hr, _⟩ | ⟨t, hr, h'⟩
    · omega
    · omega
    · exact ⟨_, _, h'⟩
  obtain ⟨s, t, he⟩ := hdec
  cases u <;> simp [convert, run_underlying hs'', run_underlying hd', Conv.floatToFloat, he, Question.forced, Question.cut, nan32]
/-- of NaN comes some NaN -/
def NanOut (w : World) (e : Ending) (w' : World) : Prop := ∃ r : Nat, e = .returned (.float .f32 r) ∧ isNaN single r = true ∧ r < 4294967296 ∧ ∃ n, w' = w.drewN n
theorem after_nan (x : Nat) (w : World) (hx : isNaN single x = true) : Calls Try.prog 64 #[.float .f32 x, .float .f32 2139095040] w (NanOut w) := by
  obtain ⟨p, n, hp, kp⟩ := run_widen_any (P := Try.prog) 24 28 x (by rw [Try.underlying24]; rfl) Try.underlying28 w
  obtain ⟨r, h1, h2, kr⟩ := run_narrow_nan (P := Try.prog) 28 24 9221120237041090561 (by rw [Try.underlying28]; rfl) Try.underlying24 (by decide +kernel) (w.drewN n)
  have hN := fun w => isNaN_any p w
  rw [hp.2.1, hx] at hN
  clear hp hx
  go_enter Try.func64, Try.ntmps64
  go_wp2_with fail
  refine (hN _).mono ?_
  rintro e w9 ⟨rfl, hw9⟩
  subst w9
  go_wp2_with fail
  refine (nan_call _).mono ?_
  rintro e w9 ⟨rfl, hw9⟩
  subst w9
  go_wp2_with fail
  go_ret
  exact ⟨r, rfl, h1, h2, n + 1, rfl⟩
theorem next_nan (x : Nat) (w : World) (hx : isNaN single x = true) : Calls Try.prog 23 #[.float .f32 x] w (NanOut w) := by
  have hi := inf_call
  have kn := run_nar inf_narrow
  have ha := fun w => after_nan x w hx
  clear hx
  go_enter Try.func23, Try.ntmps23
  go_wp2_with fail
  refine (hi _).mono ?_
  rintro e w9 ⟨rfl, hw9⟩
  subst w9
  go_wp2_with fail
  refine (ha _).mono ?_
  rintro e w9 ⟨r, rfl, h1, h2, n, hw9⟩
  subst w9
  have hz : (FloatKind.f32.format.order r 0 == some .eq) = false := by rw [eq32]; exact eqW_nan _ (by rw [h1]; rfl)
  have H := Lib.hid (And.intro h1 h2)
  clear h1 h2
  go_wp2_with fail
  go_ret
  exact ⟨r, rfl, H.out.1, H.out.2, n, rfl⟩
theorem nu_ne {x : Nat} (hx : isNaN single x = false) (h : ¬ (sgn single x = true ∧ rung single x = 1)) : rung single (nuW x) ≠ 0 := by
  have hr := num_le hx
  have hs := inf_lt single
  have i1 : 1 ≤ single.infRung := by rw [inf_single]; omega
  unfold nuW
  cases hg : sgn single x
  · rw [if_pos rfl]
    by_cases hi : rung single x = single.infRung
    · rw [if_pos hi, hi]; omega
    · rw [if_neg hi, rung_word single _ (by omega)]; omega
  · rw [if_neg (by simp)]
    by_cases h0 : rung single x = 0
    · rw [if_pos h0, rung_word single _ (by omega)]; omega
    · by_cases h1 : rung single x = 1
      · exact absurd ⟨hg, h1⟩ h
      · rw [if_neg h0, if_neg h1, rung_word single _ (by omega)]; omega
theorem nu_any {x : Nat} (wx : x < 4294967296) (hx : isNaN single x = false) : isNaN single (nuW x) = false ∧ nuW x < 4294967296 := by
  by_cases hi : sgn single x = false ∧ rung single x = single.infRung
  · have e : nuW x = x := by unfold nuW; rw [if_pos hi.1, if_pos hi.2]
    rw [e]; exact ⟨hx, wx⟩
  · have := nu_facts hx hi
    exact ⟨this.1, this.2.1⟩
theorem impl_next (x : Nat) (w : World) (wx : x < 4294967296) (hx : isNaN single x = false) :
    Calls Try.prog 23 #[.float .f32 x] w fun e w' => e = .returned (.float .f32 (nuW x)) ∧ w' = w := by
  have hi := inf_call
  have kn := run_nar inf_narrow
  have ha := fun w => after_num x w wx hx
  by_cases h1 : sgn single x = true ∧ rung single x = 1
  · have e1 : naxW x = 2147483648 := by unfold naxW; rw [if_pos h1]
    have e2 : nuW x = 0 := by unfold nuW; rw [h1.1, h1.2, if_neg (by simp), if_neg (by omega), if_pos rfl]
    rw [e1] at ha
    rw [e2]
    have hz : (FloatKind.f32.format.order 2147483648 0 == some .eq) = true := by decide +kernel
    clear e1 e2 h1 hx wx
    go_enter Try.func23, Try.ntmps23
    go_wp2_with fail
    refine (hi _).mono ?_
    rintro e w9 ⟨rfl, hw9⟩
    subst w9
    go_wp2_with fail
    refine (ha _).mono ?_
    rintro e w9 ⟨rfl, hw9⟩
    subst w9
    go_wp2_with fail
    go_ret
    exact ⟨rfl, rfl⟩
  · have e1 : naxW x = nuW x := by unfold naxW; rw [if_neg h1]
    rw [e1] at ha
    have hz : (FloatKind.f32.format.order (nuW x) 0 == some .eq) = false := by
      rw [eq32, eqW_zero _ (nu_any wx hx).1]
      exact decide_eq_false (nu_ne hx h1)
    clear e1 h1 hx wx
    generalize nuW x = y at *
    go_enter Try.func23, Try.ntmps23
    go_wp2_with fail
    refine (hi _).mono ?_
    rintro e w9 ⟨rfl, hw9⟩
    subst w9
    go_wp2_with fail
    refine (ha _).mono ?_
    rintro e w9 ⟨rfl, hw9⟩
    subst w9
    go_wp2_with fail
    go_ret
    exact ⟨rfl, rfl⟩
theorem impl_down (x : Nat) (w : World) (wx : x < 4294967296) (hx : isNaN single x = false) :
    Calls Try.prog 25 #[.float .f32 x] w fun e w' => e = .returned (.float .f32 (ndW x)) ∧ w' = w := by
  have hn := fun w => impl_next (Op.negFloat .f32 x) w (ng_lt wx) (by rw [ng_num wx]; exact hx)
  unfold ndW
  clear wx hx
  go_enter Try.func25, Try.ntmps25
  go_wp2_with fail
  refine (hn _).mono ?_
  rintro e w9 ⟨rfl, hw9⟩
  subst w9
  go_wp2_with fail
  go_ret
  exact ⟨rfl, rfl⟩
theorem pw_int : (2 : Int) ^ W = PW := by
  unfold PW
  exact (Int.natCast_pow 2 W).symm
theorem na_wide {z : Nat} (hi : nrw (rung double z) < single.infRung) : isNaN double (widen (naW z)) = false ∧ sv double (widen (naW z)) = sv single (naW z) * PW := by
  obtain ⟨n1, n2, n3⟩ := na_num hi
  exact ⟨isNaN_widen _, by rw [sv_widen n3, pw_int]⟩
theorem fin_numD {z : Nat} (h : rung double z < double.infRung) : isNaN double z = false := decide_eq_false (by omega)
theorem impl_rd (z : Nat) (w : World) (wz : z < 18446744073709551616) (hf : rung double z < double.infRung) (hi : nrw (rung double z) < single.infRung) :
    Calls Try.prog 26 #[.float .f64 z] w fun e w' => e = .returned (.float .f32 (rdW z)) ∧ w' = w := by
  have kn := run_nar (na_run wz hf hi)
  obtain ⟨n1, n2, n3⟩ := na_num hi
  obtain ⟨v1, v2⟩ := na_wide hi
  have kw := run_widx n1
  have hd := fun w => impl_down (naW z) w n2 n1
  have ho : (FloatKind.f64.format.order (widen (naW z)) z == some .gt) = decide (sv double z < sv single (naW z) * PW) := by
    rw [gt64]; unfold ltW; rw [v1, v2, fin_numD hf]; rfl
  have Hr := Lib.hid (show rdW z = if sv double z < sv single (naW z) * PW then ndW (naW z) else naW z from rfl)
  clear n1 n2 n3 v1 v2 hf hi wz
  by_cases c : sv double z < sv single (naW z) * PW
  · rw [decide_eq_true c] at ho
    have E := Lib.hid (show rdW z = ndW (naW z) by rw [Hr.out, if_pos c])
    rw [E.out]
    clear c Hr E
    generalize ndW (naW z) = r at *
    generalize widen (naW z) = p at *
    generalize naW z = y at *
    go_enter Try.func26, Try.ntmps26
    go_wp2_with fail
    refine (hd _).mono ?_
    rintro e w9 ⟨rfl, hw9⟩
    subst w9
    go_wp2_with fail
    go_ret
    exact ⟨rfl, rfl⟩
  · rw [decide_eq_false c] at ho
    have E := Lib.hid (show rdW z = naW z by rw [Hr.out, if_neg c])
    rw [E.out]
    clear c Hr E hd
    generalize widen (naW z) = p at *
    generalize naW z = y at *
    go_enter Try.func26, Try.ntmps26
    go_wp2_with fail
    go_ret
    exact ⟨rfl, rfl⟩
theorem impl_ru (z : Nat) (w : World) (wz : z < 18446744073709551616) (hf : rung double z < double.infRung) (hi : nrw (rung double z) < single.infRung) :
    Calls Try.prog 27 #[.float .f64 z] w fun e w' => e = .returned (.float .f32 (ruW z)) ∧ w' = w := by
  have kn := run_nar (na_run wz hf hi)
  obtain ⟨n1, n2, n3⟩ := na_num hi
  obtain ⟨v1, v2⟩ := na_wide hi
  have kw := run_widx n1
  have hd := fun w => impl_next (naW z) w n2 n1
  have ho : (FloatKind.f64.format.order (widen (naW z)) z == some .lt) = decide (sv single (naW z) * PW < sv double z) := by
    rw [lt64]; unfold ltW; rw [v1, v2, fin_numD hf]; rfl
  have Hr := Lib.hid (show ruW z = if sv single (naW z) * PW < sv double z then nuW (naW z) else naW z from rfl)
  clear n1 n2 n3 v1 v2 hf hi wz
  by_cases c : sv single (naW z) * PW < sv double z
  · rw [decide_eq_true c] at ho
    have E := Lib.hid (show ruW z = nuW (naW z) by rw [Hr.out, if_pos c])
    rw [E.out]
    clear c Hr E
    generalize nuW (naW z) = r at *
    generalize widen (naW z) = p at *
    generalize naW z = y at *
    go_enter Try.func27, Try.ntmps27
    go_wp2_with fail
    refine (hd _).mono ?_
    rintro e w9 ⟨rfl, hw9⟩
    subst w9
    go_wp2_with fail
    go_ret
    exact ⟨rfl, rfl⟩
  · rw [decide_eq_false c] at ho
    have E := Lib.hid (show ruW z = naW z by rw [Hr.out, if_neg c])
    rw [E.out]
    clear c Hr E hd
    generalize widen (naW z) = p at *
    generalize naW z = y at *
    go_enter Try.func27, Try.ntmps27
    go_wp2_with fail
    go_ret
    exact ⟨rfl, rfl⟩
end Go.Proofs.Ytjmmcpeknaaaiaa.Spn
