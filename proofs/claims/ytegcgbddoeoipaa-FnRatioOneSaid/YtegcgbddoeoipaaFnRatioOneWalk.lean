/- The walk of FnRatioOne: it returns true. -/
import Derived.Test.YtegcgbddoeoipaaRows
import Derived.Test.YtegcgbddoeoipaaCpxR
import Derived.Test.YtegcgbddoeoipaaDrawC
namespace Go.Proofs.Ytegcgbddoeoipaa.fnRatioOne
open Go.ChangeShapes Go.WideShapes Go.ChangeAt Go.RowKit Go.Proofs.Ytegcgbddoeoipaa Go.Proofs.Ytegcgbddoeoipaa.Flt Go.Proofs.Ytegcgbddoeoipaa.Mth Go.Proofs.Ytegcgbddoeoipaa.Cpx
set_option linter.unusedVariables false
/-- what Ratio gives -/
def RatioOut (a b c d : Nat) (w : World) (e : Ending) (w' : World) : Prop :=
  (okR a b c d = false ∧ e = .returned (.tuple #[.complex .f64 0 0, .bool false]) ∧ ∃ n, w' = w.drewN n) ∨
  (okR a b c d = true ∧ ∃ x y, ((Lit.float .f64 x).wf = true ∧ (Lit.float .f64 y).wf = true) ∧ (can .f64 x = (quoO a b c d).1 ∧ can .f64 y = (quoO a b c d).2) ∧ (∃ n, w' = w.drewN n) ∧
    ((isFinD x && isFinD y) = false ∧ e = .returned (.tuple #[.complex .f64 0 0, .bool false]) ∨ (isFinD x && isFinD y) = true ∧ e = .returned (.tuple #[.complex .f64 x y, .bool true])))
theorem ratio_any (a b c d : Nat) (w : World) (ha : a < 18446744073709551616) (hb : b < 18446744073709551616) (hc : c < 18446744073709551616) (hd' : d < 18446744073709551616) :
    Calls Try.prog 22 #[.complex .f64 a b, .complex .f64 c d] w (RatioOut a b c d w) := by
  have cH := fun W => has_any a b c d W ha hb hc hd'
  clear ha hb hc hd'
  cases h : okR a b c d
  · rw [h] at cH
    go_enter Try.func22, Try.ntmps22
    go_wp2_with fail
    refine (cH _).mono ?_
    rintro e w' ⟨rfl, rfl⟩
    go_wp2_with fail
    go_ret2
    exact .inl ⟨h, rfl, 0, rfl⟩
  · rw [h] at cH
    have h' := h
    unfold okR at h'
    simp only [Bool.and_eq_true, Bool.not_eq_true'] at h'
    obtain ⟨⟨⟨fa, fb⟩, fc, fd⟩, hz⟩ := h'
    obtain ⟨x, y, n, hw', hq, k⟩ := run_cquo64 (P := Try.prog) fa fb fc fd hz 36 w
    have cF := fun W => finI_any x y W (lt_double hw'.1) (lt_double hw'.2)
    have Hw := Lib.hid hw'
    have Hq := Lib.hid hq
    clear fa fb fc fd hz hw' hq
    cases hf : (isFinD x && isFinD y)
    all_goals
      rw [hf] at cF
      go_enter Try.func22, Try.ntmps22
      go_wp2_with fail
      refine (cH _).mono ?_
      rintro e w' ⟨rfl, rfl⟩
      go_wp2_with fail
      refine (cF _).mono ?_
      rintro e w' ⟨rfl, rfl⟩
      go_wp2_with fail
      go_ret2
      first
        | exact .inr ⟨h, x, y, Hw.out, Hq.out, ⟨n, rfl⟩, .inl ⟨hf, rfl⟩⟩
        | exact .inr ⟨h, x, y, Hw.out, Hq.out, ⟨n, rfl⟩, .inr ⟨hf, rfl⟩⟩
theorem self_any (a b : Nat) (w : World) (ha : a < 18446744073709551616) (hb : b < 18446744073709551616) :
    Calls Try.prog 22 #[.complex .f64 a b, .complex .f64 a b] w fun e w' =>
      (∃ n, w' = w.drewN n) ∧ (e = .returned (.tuple #[.complex .f64 0 0, .bool false]) ∨
        ∃ y, (y < 18446744073709551616 ∧ isFinD y = true ∧ (eqW Ieee.double a 0 && eqW Ieee.double b 0) = false) ∧ e = .returned (.tuple #[.complex .f64 4607182418800017408 y, .bool true])) := by
  refine (ratio_any a b a b w ha hb ha hb).mono ?_
  rintro e w' (⟨_, he, hn⟩ | ⟨hk, x, y, ⟨_, wy⟩, ⟨cx, _⟩, hn, ⟨hf, he⟩ | ⟨hf, he⟩⟩)
  · exact ⟨hn, .inl he⟩
  · exact ⟨hn, .inl he⟩
  · rw [Bool.and_eq_true] at hf
    rw [fin_can hf.1] at cx
    rcases quoO_self a b with h | h
    · rw [h] at cx; cases cx
    · rw [h] at cx
      cases cx
      unfold okR at hk
      simp only [Bool.and_eq_true, Bool.not_eq_true'] at hk
      exact ⟨hn, .inr ⟨y, ⟨lt_double wy, hf.2, hk.2⟩, he⟩⟩
theorem num_of_fin {x : Nat} (h : isFinD x = true) : isNaN Ieee.double x = false := by
  cases hn : isNaN Ieee.double x
  · rfl
  · rw [isFin_nan hn] at h; cases h
theorem one_any (a b : Nat) (w : World) (ha : a < 18446744073709551616) (hb : b < 18446744073709551616) :
    Calls Try.prog 22 #[.complex .f64 a b, .complex .f64 4607182418800017408 0] w fun e w' =>
      (∃ n, w' = w.drewN n) ∧ ((isFinD a && isFinD b) = false ∧ e = .returned (.tuple #[.complex .f64 0 0, .bool false]) ∨
        (isFinD a && isFinD b) = true ∧ ∃ x y, (eqW Ieee.double x a && eqW Ieee.double y b) = true ∧ e = .returned (.tuple #[.complex .f64 x y, .bool true])) := by
  have hk : okR a b 4607182418800017408 0 = (isFinD a && isFinD b) := by
    unfold okR
    rw [show (isFinD 4607182418800017408 && isFinD 0) = true by decide, show (eqW Ieee.double 4607182418800017408 0 && eqW Ieee.double 0 0) = false by rw [eqW_zero Ieee.double (show isNaN Ieee.double 4607182418800017408 = false by decide), rung_one]; rfl]
    simp
  refine (ratio_any a b _ 0 w ha hb (by decide) (by decide)).mono ?_
  rintro e w' (⟨h, he, hn⟩ | ⟨h, x, y, _, ⟨cx, cy⟩, hn, h2⟩)
  · exact ⟨hn, .inl ⟨by rw [← hk]; exact h, he⟩⟩
  · rw [hk] at h
    refine ⟨hn, .inr ⟨h, x, y, ?_⟩⟩
    rw [Bool.and_eq_true] at h
    obtain ⟨u, v, hq, ⟨fu, fv⟩, su, sv'⟩ := quoO_one h.1 h.2
    rw [hq] at cx cy
    obtain ⟨rfl, _⟩ := can_some cx
    obtain ⟨rfl, _⟩ := can_some cy
    rcases h2 with ⟨hf, _⟩ | ⟨_, he⟩
    · rw [fu, fv] at hf; cases hf
    · refine ⟨?_, he⟩
      unfold eqW
      rw [num_of_fin fu, num_of_fin fv, num_of_fin h.1, num_of_fin h.2, su, sv']
      simp
set_option maxHeartbeats 800000 in
theorem walk (a : Option Addr) (len cap : Nat) (zs : List Int) (w : World) (hr : IsRow .u8 w a len cap zs) :
    Calls Try.prog 6 #[.slice a len cap] w fun x w' => x = .returned (.bool true) ∧ Below w.heap.size w w' := by
  by_cases hl : (len : Int) ≤ 1048576
  · go_enter Try.func6, Try.ntmps6
    go_wp2_with fail
    refine (Drw.big_no _ _ _ _ hl).mono ?_
    rintro e w' ⟨rfl, rfl⟩
    go_wp2_with fail
    refine (Drw.draw_conj a len cap zs _ hr).mono ?_
    rintro e w1 ⟨x, y, wx, wy, rfl, hb1⟩
    have Hb1 := Lib.hid hb1
    clear hb1 hr
    go_wp2_with fail
    refine (self_any x y _ (lt_double wx) (lt_double wy)).mono ?_
    rintro e w2 ⟨⟨n, rfl⟩, hs⟩
    have cO := fun W => one_any x y W (lt_double wx) (lt_double wy)
    have cF := fun W => finS_any x y W
    have cne := fun W => run_cne (P := Try.prog) 36 x y 0 0 W
    rcases hs with rfl | ⟨v, ⟨hv, fv, hz⟩, rfl⟩
    · go_wp2_with fail
      refine (cO _).mono ?_
      rintro e w2 ⟨⟨m, rfl⟩, ⟨hf, rfl⟩ | ⟨hf, p, q, heq, rfl⟩⟩
      · rw [hf] at cF
        clear hf
        go_wp2_with (go_at_call 23; refine (cF _).mono ?_; rintro e w2 ⟨rfl, j, rfl⟩)
        go_ret
        exact ⟨rfl, below_drewN Hb1.out _⟩
      · rw [hf] at cF
        have cn2 := fun W => run_cne (P := Try.prog) 36 p q x y W
        rw [heq] at cn2
        clear hf heq
        go_wp2_with (go_at_call 23; refine (cF _).mono ?_; rintro e w2 ⟨rfl, j, rfl⟩)
        go_ret
        exact ⟨rfl, below_drewN Hb1.out _⟩
    · rw [hz] at cne
      have cG := fun W => finI_any 4607182418800017408 v W (by decide) hv
      rw [fv, show isFinD 4607182418800017408 = true by decide] at cG
      have e1 : (FloatKind.f64.format.order 4607182418800017408 4607182418800017408 == some .eq) = true := by decide
      go_wp2_with fail
      refine (cO _).mono ?_
      rintro e w2 ⟨⟨m, rfl⟩, ⟨hf, rfl⟩ | ⟨hf, p, q, heq, rfl⟩⟩
      · rw [hf] at cF
        clear hf
        go_wp2_with (first
          | (go_at_call 23; refine (cF _).mono ?_; rintro e w2 ⟨rfl, j, rfl⟩)
          | (go_at_call 18; refine (cG _).mono ?_; rintro e w2 ⟨rfl, rfl⟩))
        go_ret
        exact ⟨rfl, below_drewN Hb1.out _⟩
      · rw [hf] at cF
        have cn2 := fun W => run_cne (P := Try.prog) 36 p q x y W
        rw [heq] at cn2
        clear hf heq
        go_wp2_with (first
          | (go_at_call 23; refine (cF _).mono ?_; rintro e w2 ⟨rfl, j, rfl⟩)
          | (go_at_call 18; refine (cG _).mono ?_; rintro e w2 ⟨rfl, rfl⟩))
        go_ret
        exact ⟨rfl, below_drewN Hb1.out _⟩
  · go_enter Try.func6, Try.ntmps6
    go_wp2_with fail
    refine (Drw.big_yes _ _ _ _ (by omega)).mono ?_
    rintro e w' ⟨rfl, rfl⟩
    go_wp2_with fail
    go_ret
    exact ⟨rfl, Below.refl _ _⟩
end Go.Proofs.Ytegcgbddoeoipaa.fnRatioOne
