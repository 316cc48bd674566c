/- The walk of FnMadeAgain: it returns true. -/
import Derived.Test.YtjelebcpgcanoaaRows
import Derived.Test.YtjelebcpgcanoaaMadeAgain
import Derived.Test.YtjelebcpgcanoaaSame2
import Derived.Test.YtjelebcpgcanoaaDrawF
namespace Go.Proofs.Ytjelebcpgcanoaa.fnMadeAgain
open Go.ChangeShapes Go.WideShapes Go.ChangeAt Go.RowKit Go.Proofs.Ytjelebcpgcanoaa Go.Proofs.Ytjelebcpgcanoaa.Flt Go.Proofs.Ytjelebcpgcanoaa.Mth
set_option linter.unusedVariables false
theorem sign_one : fnExactSignText.signOf 1065353216 = ⟨#[43]⟩ := by decide +kernel
/-- what the law's three ways come to -/
theorem ways (x : Nat) (wx : x < 4294967296) :
    (¬ rung Ieee.single x < Ieee.single.infRung ∧ ∀ w, Calls Try.prog 15 #[.float .f32 x] w (Spl.Out 0 0 false w)) ∨
    (rung Ieee.single x = 0 ∧ Mks.out (fnExactSignText.signOf x) 0 0 = (x, true) ∧ ∀ w, Calls Try.prog 15 #[.float .f32 x] w (Spl.Out 0 0 true w)) ∨
    ∃ (m : Nat) (e : Int), m % 2 = 1 ∧ Mks.out (fnExactSignText.signOf x) m e = (x, true) ∧ ∀ w, Calls Try.prog 15 #[.float .f32 x] w (Spl.Out m e true w) := by
  have hx : x < 2 ^ Ieee.single.width := by rw [width_single]; exact wx
  by_cases hf : rung Ieee.single x < Ieee.single.infRung
  · by_cases h0 : rung Ieee.single x = 0
    · exact .inr (.inl ⟨h0, Mag.again_zero hx h0, fun w => Spl.impl_zero x w h0⟩)
    · obtain ⟨m, t, h1, h2⟩ := two_odd (ss Ieee.single (rung Ieee.single x)) (ss_pos h0)
      exact .inr (.inr ⟨m, _, h1, Mag.again_main hx hf h1 h2, fun w => Spl.impl_main x m t w wx hf h0 h1 h2⟩)
  · exact .inl ⟨hf, fun w => Spl.impl_nofin x w hf⟩
set_option maxHeartbeats 800000 in
theorem walk (a : Option Addr) (len cap : Nat) (zs : List Int) (w : World) (hr : IsRow .u8 w a len cap zs) :
    Calls Try.prog 4 #[.slice a len cap] w fun x w' => x = .returned (.bool true) ∧ Below w.heap.size w w' := by
  by_cases hl : (len : Int) ≤ 1048576
  · go_enter Try.func4, Try.ntmps4
    go_wp2_with fail
    refine (Drw.big_no _ _ _ _ hl).mono ?_
    rintro e w' ⟨rfl, rfl⟩
    go_wp2_with fail
    refine (Drw.draw_any a len cap zs _ hr).mono ?_
    rintro e w1 ⟨x, wx, rfl, hb1⟩
    have Hb1 := Lib.hid hb1
    clear hb1 hr
    rcases ways x (lt_single wx) with ⟨hnf, hc⟩ | ⟨h0, hm, hc⟩ | ⟨m, e, hodd, hm, hc⟩
    · have Hc := Lib.hid hc
      have Hnf := Lib.hid hnf
      clear hc hnf
      go_wp2_with fail
      refine (Hc.out _).mono ?_
      rintro e w2 ⟨rfl, hb2⟩
      have Hb2 := Lib.hid (Hb1.out.trans (hb2.mono Hb1.out.size))
      clear hb2
      obtain ⟨r, n, wr, hr, kr⟩ := run_float_any (P := Try.prog) .sub (.inr (.inl rfl)) 24 .f32 x x w2
      have hz : (FloatKind.f32.format.order r 0 != some .eq) = true := by
        rw [Mag.sub32_nofin Hnf.out] at hr
        rcases hr with hr | ⟨_, hr⟩
        · cases hr
        · rw [ne32, eqW_nan _ (by rw [show isNaN Ieee.single r = true from hr]; rfl)]; rfl
      have hs1 := sign_one
      clear hr
      go_wp2_with fail
      refine (fnExactSignText.impl_any _ _ (by decide)).mono ?_
      rintro e w3 ⟨rfl, k, rfl⟩
      go_wp2_with fail
      go_ret
      exact ⟨rfl, below_drewN Hb2.out _⟩
    · have Hc := Lib.hid hc
      have Hm := Lib.hid hm
      have hz : (FloatKind.f32.format.order x 0 == some .eq) = true := by
        rw [eq32, eqW_zero _ (isNaN_rung0 _ h0), decide_eq_true h0]
      have hself := sameW_refl Ieee.single x
      clear hc hm h0
      go_wp2_with fail
      refine (Hc.out _).mono ?_
      rintro e w2 ⟨rfl, hb2⟩
      have Hb2 := Lib.hid (Hb1.out.trans (hb2.mono Hb1.out.size))
      clear hb2
      go_wp2_with fail
      refine (fnExactSignText.impl_any _ _ wx).mono ?_
      rintro e w3 ⟨rfl, k, rfl⟩
      go_wp2_with fail
      refine (Mks.impl_any _ _ _ _).mono ?_
      rintro e w4 ⟨rfl, hb4⟩
      have Hb4 := Lib.hid ((below_drewN Hb2.out k).trans (hb4.mono (below_drewN Hb2.out k).size))
      rw [Hm.out]
      clear hb4
      go_wp2_with fail
      refine (same32_any _ _ _ wx wx).mono ?_
      rintro e w5 ⟨rfl, n, rfl⟩
      go_wp2_with fail
      go_ret
      exact ⟨rfl, below_drewN Hb4.out _⟩
    · have Hc := Lib.hid hc
      have Hm := Lib.hid hm
      have hz : ((m : Int) % 2 == 1) = true := beq_iff_eq.2 (by omega)
      have hself := sameW_refl Ieee.single x
      clear hc hm hodd
      go_wp2_with fail
      refine (Hc.out _).mono ?_
      rintro y w2 ⟨rfl, hb2⟩
      have Hb2 := Lib.hid (Hb1.out.trans (hb2.mono Hb1.out.size))
      clear hb2
      go_wp2_with fail
      refine (fnExactSignText.impl_any _ _ wx).mono ?_
      rintro y w3 ⟨rfl, k, rfl⟩
      go_wp2_with fail
      refine (Mks.impl_any _ _ _ _).mono ?_
      rintro y w4 ⟨rfl, hb4⟩
      have Hb4 := Lib.hid ((below_drewN Hb2.out k).trans (hb4.mono (below_drewN Hb2.out k).size))
      rw [Hm.out]
      clear hb4
      go_wp2_with fail
      refine (same32_any _ _ _ wx wx).mono ?_
      rintro y w5 ⟨rfl, n, rfl⟩
      go_wp2_with fail
      go_ret
      exact ⟨rfl, below_drewN Hb4.out _⟩
  · go_enter Try.func4, Try.ntmps4
    go_wp2_with fail
    refine (Drw.big_yes _ _ _ _ (by omega)).mono ?_
    rintro e w' ⟨rfl, rfl⟩
    go_wp2_with fail
    go_ret
    exact ⟨rfl, Below.refl _ _⟩
end Go.Proofs.Ytjelebcpgcanoaa.fnMadeAgain
