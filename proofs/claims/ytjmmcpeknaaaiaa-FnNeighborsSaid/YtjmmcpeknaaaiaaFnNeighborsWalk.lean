/- The walk of FnNeighbors: it returns true. -/
import Derived.Test.YtjmmcpeknaaaiaaRows
import Derived.Test.YtjmmcpeknaaaiaaSpnY
import Derived.Test.YtjmmcpeknaaaiaaSpnZ
import Derived.Test.YtjmmcpeknaaaiaaSame2
import Derived.Test.YtjmmcpeknaaaiaaDrawFS
namespace Go.Proofs.Ytjmmcpeknaaaiaa.fnNeighbors
open Go.ChangeShapes Go.WideShapes Go.ChangeAt Go.RowKit Go.Deep Go.Proofs.Ytjmmcpeknaaaiaa Go.Proofs.Ytjmmcpeknaaaiaa.Flt Go.Proofs.Ytjmmcpeknaaaiaa.Mth Go.Proofs.Ytjmmcpeknaaaiaa.Spn
open Ieee (single double)
set_option linter.unusedVariables false
set_option maxRecDepth 20000
theorem sub_inf {x : Nat} (hi : rung single x = single.infRung) (w : World) : ∃ r n, isNaN single r = true ∧ (binOp .sub 24 (.float .f32 x) (.float .f32 x)).run Try.prog w = .ok (.float .f32 r) (w.drewN n) := by
  obtain ⟨r, n, _, h, k⟩ := run_float_any (P := Try.prog) .sub (.inr (.inl rfl)) 24 .f32 x x w
  refine ⟨r, n, ?_, k⟩
  rcases h with h | ⟨_, h⟩
  · exfalso
    change single.sub x x = some r at h
    unfold Ieee.Format.sub at h
    have hr : single.read x = .infinity (sgn single x) := by
      rcases reads single hs x with ⟨m, e, h1, _, _⟩ | ⟨_, h2⟩ | ⟨t, h1, _⟩
      · omega
      · exact h2
      · omega
    rw [hr] at h
    cases sgn single x <;> simp [Ieee.Datum.sum, Ieee.Datum.opposite] at h
  · exact h
theorem ne_zero_nan {r : Nat} (h : isNaN single r = true) : (FloatKind.f32.format.order r 0 != some .eq) = true := by
  rw [ne32, eqW_nan _ (by rw [h]; rfl)]; rfl
theorem ne_zero_zero {r : Nat} (h1 : isNaN single r = false) (h2 : rung single r = 0) : (FloatKind.f32.format.order r 0 != some .eq) = false := by
  rw [ne32, eqW_zero _ h1, decide_eq_true h2]; rfl
theorem gt_zero {x : Nat} (hx : isNaN single x = false) (h0 : rung single x ≠ 0) : (FloatKind.f32.format.order x 0 == some .gt) = !sgn single x := by
  rw [gt32]
  unfold ltW
  rw [hx, nan_zero, sv_zero]
  have mp : 0 < mg single (rung single x) := Nat.pos_of_ne_zero fun e => h0 ((mg_eq_zero single).1 e)
  rcases sv_cases x with ⟨hs, e⟩ | ⟨hs, e⟩
  · rw [e, hs]
    simp only [Bool.not_false, Bool.true_and]
    exact decide_eq_true (by omega)
  · rw [e, hs]
    simp only [Bool.not_false, Bool.true_and, Bool.not_true]
    exact decide_eq_false (by omega)
set_option maxHeartbeats 1600000 in
theorem walk (a : Option Addr) (len cap : Nat) (zs : List Int) (w : World) (hr : IsRow .u8 w a len cap zs) :
    Calls Try.prog 3 #[.slice a len cap] w fun x w' => x = .returned (.bool true) ∧ Below w.heap.size w w' := by
  by_cases hl : (len : Int) ≤ 1048576
  · go_enter Try.func3, Try.ntmps3
    go_wp2_with fail
    refine (Drw.big_no _ _ _ _ hl).mono ?_
    rintro e w9 ⟨rfl, hw9⟩
    subst w9
    go_wp2_with fail
    refine (Drw.draw_any a len cap zs _ hr).mono ?_
    rintro e w1 ⟨x, wf, rfl, hb1⟩
    have Hb1 := Lib.hid hb1
    have wx := lt_single wf
    clear hb1 hr
    have hself := ne32 x x
    rw [eqW_self, Bool.not_not] at hself
    cases hx : isNaN single x
    · rw [hx] at hself
      by_cases hi : sgn single x = false ∧ rung single x = single.infRung
      · have en : nuW x = x := by unfold nuW; rw [if_pos hi.1, if_pos hi.2]
        have hn := fun w => impl_next x w wx hx
        rw [en] at hn
        obtain ⟨r, n, hrn, kr⟩ := sub_inf hi.2 w1
        have hz := ne_zero_nan hrn
        have hg := gt_zero hx (by rw [hi.2, inf_single]; omega)
        rw [hi.1, Bool.not_false] at hg
        have hsm := fun w => same32_any x x w wf wf
        rw [sameW_refl] at hsm
        clear hi en hrn hx wx wf
        go_wp2_with fail
        refine (hn _).mono ?_
        rintro e w9 ⟨rfl, hw9⟩
        subst w9
        go_wp2_with fail
        refine (hsm _).mono ?_
        rintro e w9 ⟨rfl, m, hw9⟩
        subst w9
        go_wp2_with fail
        go_ret
        exact ⟨rfl, below_drewN Hb1.out _⟩
      · have hn := fun w => impl_next x w wx hx
        obtain ⟨u1, u2, u3, u4⟩ := nu_facts hx hi
        have hd := fun w => impl_down (nuW x) w u2 u1
        obtain ⟨d1, d2⟩ := down_up wx hx hi
        have hgt : (FloatKind.f32.format.order (nuW x) x == some .gt) = true := by
          rw [gt32]; unfold ltW; rw [u1, hx, decide_eq_true u3]; rfl
        have hne : (FloatKind.f32.format.order (ndW (nuW x)) x != some .eq) = false := by
          rw [ne32]; unfold eqW; rw [d1, hx, decide_eq_true d2]; rfl
        by_cases hm : rung single x = single.infRung
        · obtain ⟨r, n, hrn, kr⟩ := sub_inf hm w1
          obtain ⟨r', n', hrn', kr'⟩ := sub_inf hm (w1.drewN n)
          have hz := ne_zero_nan hrn
          have hz' := ne_zero_nan hrn'
          have hg := gt_zero hx (by rw [hm, inf_single]; omega)
          have hs : sgn single x = true := by
            cases h : sgn single x
            · exact absurd ⟨h, hm⟩ hi
            · rfl
          rw [hs, Bool.not_true] at hg
          clear hi hrn hrn' hx wx wf hm hs u1 u2 u3 u4 d1 d2
          generalize ndW (nuW x) = v at *
          generalize nuW x = y at *
          go_wp2_with fail
          refine (hn _).mono ?_
          rintro e w9 ⟨rfl, hw9⟩
          subst w9
          go_wp2_with fail
          refine (hd _).mono ?_
          rintro e w9 ⟨rfl, hw9⟩
          subst w9
          go_wp2_with fail
          go_ret
          exact ⟨rfl, below_drewN Hb1.out _⟩
        · have hf : fnS x = true := fnS_iff.2 (by have := num_le hx; omega)
          obtain ⟨r, kr0, r1, r2⟩ := sub_self32 hf
          have kr := fun w => run_float_arith (P := Try.prog) w .sub 24 .f32 _ _ _ kr0
          have hz := ne_zero_zero r1 r2
          by_cases hy : rung single (nuW x) = single.infRung
          · obtain ⟨r', n', hrn', kr'⟩ := sub_inf hy w1
            have hz' := ne_zero_nan hrn'
            clear hi hrn' hx wx wf hm hf kr0 r1 r2 hy u1 u2 u3 u4 d1 d2
            generalize ndW (nuW x) = v at *
            generalize nuW x = y at *
            go_wp2_with fail
            refine (hn _).mono ?_
            rintro e w9 ⟨rfl, hw9⟩
            subst w9
            go_wp2_with fail
            refine (hd _).mono ?_
            rintro e w9 ⟨rfl, hw9⟩
            subst w9
            go_wp2_with fail
            go_ret
            exact ⟨rfl, below_drewN Hb1.out _⟩
          · have hfy : fnS (nuW x) = true := fnS_iff.2 (by have := num_le u1; omega)
            obtain ⟨r', kr0', r1', r2'⟩ := sub_self32 hfy
            have kr' := fun w => run_float_arith (P := Try.prog) w .sub 24 .f32 _ _ _ kr0'
            have hz' := ne_zero_zero r1' r2'
            obtain ⟨s, z, ks0, kz0, wz, fz, ez, nz⟩ := mid_val hf hfy
            obtain ⟨m1, m2, m3, m4⟩ := mid_facts wx hf hfy ez nz
            have ks := fun w => run_float_arith (P := Try.prog) w .add 28 .f64 _ _ _ ks0
            have kz := fun w => run_float_arith (P := Try.prog) w .quo 28 .f64 _ _ _ kz0
            have kx := run_widx hx
            have ky := run_widx u1
            have hrd := fun w => impl_rd z w wz fz nz
            have hru := fun w => impl_ru z w wz fz nz
            have e1 : (FloatKind.f32.format.order (rdW z) x == some .eq) = true := by
              rw [eq32]; unfold eqW; rw [(rd_facts nz).1, hx, decide_eq_true m3]; rfl
            have e2 : (FloatKind.f32.format.order (ruW z) (nuW x) == some .eq) = true := by
              rw [eq32]; unfold eqW; rw [(ru_facts nz).1, u1, decide_eq_true m4]; rfl
            have e3 : (FloatKind.f64.format.order (widen x) z == some .lt) = true := by
              rw [lt64]; unfold ltW; rw [isNaN_widen, fin_numD fz, decide_eq_true (show sv double (widen x) < sv double z from m1)]; rfl
            have e4 : (FloatKind.f64.format.order z (widen (nuW x)) == some .lt) = true := by
              rw [lt64]; unfold ltW; rw [isNaN_widen, fin_numD fz, decide_eq_true (show sv double z < sv double (widen (nuW x)) from m2)]; rfl
            clear hi hx wx wf hm hf hfy kr0 r1 r2 kr0' r1' r2' hy u1 u2 u3 u4 d1 d2 ks0 kz0 wz fz ez nz m1 m2 m3 m4
            generalize ndW (nuW x) = v at *
            generalize rdW z = zl at *
            generalize ruW z = zu at *
            generalize widen (nuW x) = py at *
            generalize widen x = px at *
            generalize nuW x = y at *
            go_wp2_with fail
            refine (hn _).mono ?_
            rintro e w9 ⟨rfl, hw9⟩
            subst w9
            go_wp2_with fail
            refine (hd _).mono ?_
            rintro e w9 ⟨rfl, hw9⟩
            subst w9
            go_wp2_with fail
            refine (hrd _).mono ?_
            rintro e w9 ⟨rfl, hw9⟩
            subst w9
            go_wp2_with fail
            refine (hru _).mono ?_
            rintro e w9 ⟨rfl, hw9⟩
            subst w9
            go_wp2_with fail
            go_ret
            exact ⟨rfl, Hb1.out⟩
    · rw [hx] at hself
      have hn := fun w => next_nan x w hx
      have Hx := Lib.hid (And.intro hx wf)
      clear hx wx wf
      go_wp2_with fail
      refine (hn _).mono ?_
      rintro e w9 ⟨r, rfl, h1, h2, n, hw9⟩
      subst w9
      have hsm := fun w => same32_any x r w Hx.out.2 (wf_single h2)
      rw [sameW_of_nan _ (by rw [Hx.out.1]; rfl), Hx.out.1, h1] at hsm
      clear h1 h2
      go_wp2_with fail
      refine (hsm _).mono ?_
      rintro e w9 ⟨rfl, m, hw9⟩
      subst w9
      go_wp2_with fail
      go_ret
      exact ⟨rfl, below_drewN Hb1.out _⟩
  · go_enter Try.func3, Try.ntmps3
    go_wp2_with fail
    refine (Drw.big_yes _ _ _ _ (by omega)).mono ?_
    rintro e w9 ⟨rfl, hw9⟩
    subst w9
    go_wp2_with fail
    go_ret
    exact ⟨rfl, Below.refl _ _⟩
end Go.Proofs.Ytjmmcpeknaaaiaa.fnNeighbors
