/- Contracts of the program's ratio of singles and of its comparison of lists. -/
import Derived.Test.YtegcgbddoeoipaaCpxR
import Derived.Test.YtegcgbddoeoipaaSerD
namespace Go.Proofs.Ytegcgbddoeoipaa.fnSeries
open Go.ChangeShapes Go.WideShapes Go.ChangeAt Go.RowKit Go.Proofs.Ytegcgbddoeoipaa Go.Proofs.Ytegcgbddoeoipaa.Flt Go.Proofs.Ytegcgbddoeoipaa.Mth Go.Proofs.Ytegcgbddoeoipaa.Cpx Go.Proofs.Ytegcgbddoeoipaa.Drw
open Ieee (single double)
set_option linter.unusedVariables false
/-- finite, both parts -/
def finC (p : Nat × Nat) : Bool := decide (rung single p.1 < single.infRung) && decide (rung single p.2 < single.infRung)
theorem fin_wid {b r : Nat} (h : Wid b r) : isFinD r = decide (rung single b < single.infRung) := by
  obtain ⟨_, h1, h2⟩ := h
  cases hn : isNaN single b
  · rw [h2 hn, isFin_widen]
  · rw [hn] at h1
    rw [isFin_nan h1]
    have := of_decide_eq_true hn
    symm
    exact decide_eq_false (by omega)
/-- the quotient of a single and 1, narrowed: equal to it -/
theorem nar_eq {x e : Nat} (hx : x < 4294967296) (hf : rung single x < single.infRung) (he : e < 18446744073709551616) (fe : isFinD e = true) (se : sv double e = sv double (widen x)) :
    ∃ r, floatToFloatBits .f64 e .f32 = some r ∧ r < 4294967296 ∧ rung single r < single.infRung ∧ sv single r = sv single x := by
  have hnx : isNaN single x = false := decide_eq_false (by omega)
  have hx' : x < 2 ^ single.width := by rw [width_single]; exact hx
  by_cases h0 : rung double e = 0
  · have hsx : sv double (widen x) = 0 := by rw [← se]; exact (sv_eq_zero _).2 h0
    have hr0 : rung single x = 0 := by
      have h1 := (sv_eq_zero double).1 hsx
      rw [rung_widen, if_pos hf] at h1
      have h2 := (wr_spec hf).2
      rw [h1, mg_zero] at h2
      refine (mg_eq_zero single).1 ?_
      have := Nat.two_pow_pos W
      rcases Nat.mul_eq_zero.1 h2.symm with h3 | h3
      · exact h3
      · omega
    have hsx0 : sv single x = 0 := (sv_eq_zero _).2 hr0
    rcases zeros64 he h0 with rfl | rfl
    · exact ⟨0, by decide, by decide, by decide, by rw [hsx0]; decide⟩
    · exact ⟨2147483648, by decide, by decide, by decide, by rw [hsx0]; decide⟩
  · have hew : e = widen x := sv_inj double (by rw [width_double]; exact he) (widen_lt x) h0 se
    subst hew
    exact ⟨x, narrow_widen hx' hnx, hx, hf, rfl⟩
theorem one_bits : floatToFloatBits .f32 1065353216 .f64 = some 4607182418800017408 := by decide +kernel
theorem zero_bits : floatToFloatBits .f32 0 .f64 = some 0 := by decide +kernel
theorem num_fin {x : Nat} (hf : rung single x < single.infRung) : isNaN single x = false := decide_eq_false (by omega)
/-- a finite number over 1 -/
theorem run_cquo32_one {P : Program} {a b : Nat} (ha : a < 4294967296) (hb : b < 4294967296) (fa : rung single a < single.infRung) (fb : rung single b < single.infRung) (t : TypeId) (w : World) :
    ∃ x y n, ((x < 4294967296 ∧ rung single x < single.infRung ∧ sv single x = sv single a) ∧ (y < 4294967296 ∧ rung single y < single.infRung ∧ sv single y = sv single b)) ∧
      (binOp .quo t (.complex .f32 a b) (.complex .f32 1065353216 0)).run P w = .ok (.complex .f32 x y) (w.drewN n) := by
  have na := num_fin fa
  have nb := num_fin fb
  have c1 := fun w => run_floatToFloat (P := P) w (widen_bits na)
  have c2 := fun w => run_floatToFloat (P := P) w (widen_bits nb)
  have c3 := fun w => run_floatToFloat (P := P) w one_bits
  have c4 := fun w => run_floatToFloat (P := P) w zero_bits
  have ia : isFinD (widen a) = true := by rw [isFin_widen]; exact decide_eq_true fa
  have ib : isFinD (widen b) = true := by rw [isFin_widen]; exact decide_eq_true fb
  obtain ⟨e, f, n, ⟨we, wf⟩, ⟨ce, cf⟩, hq⟩ := run_quot (P := P) (a := widen a) (b := widen b) (c := 4607182418800017408) (d := 0) ia ib (by decide) (by decide)
    (by rw [eqW_zero Ieee.double (show isNaN Ieee.double 4607182418800017408 = false by decide), rung_one]; rfl) w
  obtain ⟨u, v, hq2, ⟨fu, fv⟩, su, sv'⟩ := quoO_one ia ib
  rw [hq2] at ce cf
  obtain ⟨rfl, _⟩ := can_some ce
  obtain ⟨rfl, _⟩ := can_some cf
  obtain ⟨x, kx, lx, fx, sx⟩ := nar_eq ha fa (lt_double we) fu su
  obtain ⟨y, ky, ly, fy, sy⟩ := nar_eq hb fb (lt_double wf) fv sv'
  have c5 := fun w => run_floatToFloat (P := P) w kx
  have c6 := fun w => run_floatToFloat (P := P) w ky
  refine ⟨x, y, n, ⟨⟨lx, fx, sx⟩, ly, fy, sy⟩, ?_⟩
  simp [binOp, Op.complexOp, Op.Complex.conv, c1, c2, c3, c4, hq, c5, c6]
/-- what RatioSingle gives over 1 -/
def SingleV (a b : Nat) (v : Value) : Prop :=
  (finC (a, b) = false ∧ v = .tuple #[.complex .f32 0 0, .bool false]) ∨
    (finC (a, b) = true ∧ ∃ x y, ((x < 4294967296 ∧ y < 4294967296) ∧ (eqW single x a && eqW single y b) = true) ∧ v = .tuple #[.complex .f32 x y, .bool true])
theorem ratioS_ex (a b : Nat) (ha : a < 4294967296) (hb : b < 4294967296) (w : World) :
    ∃ v, SingleV a b v ∧ Calls Try.prog 50 #[.complex .f32 a b, .complex .f32 1065353216 0] w fun e w' => e = .returned v ∧ ∃ n, w' = w.drewN n := by
  have us : (Try.prog.underlying 26).isSome = true := by rw [Try.underlying26]; rfl
  have ud := Try.underlying36
  obtain ⟨x, y, n, hx, hy, kc⟩ := run_widC (P := Try.prog) 26 36 us ud a b w
  have k1 := fun W => run_conv_c (P := Try.prog) (w := W) us ud (run_floatToFloat W one_bits) (run_floatToFloat W zero_bits)
  have cH := fun W => has_any x y 4607182418800017408 0 W hx.1 hy.1 (by decide) (by decide)
  have hk : okR x y 4607182418800017408 0 = finC (a, b) := by
    unfold okR finC
    rw [fin_wid hx, fin_wid hy, show (isFinD 4607182418800017408 && isFinD 0) = true by decide, show (eqW Ieee.double 4607182418800017408 0 && eqW Ieee.double 0 0) = false by rw [eqW_zero Ieee.double (show isNaN Ieee.double 4607182418800017408 = false by decide), rung_one]; rfl]
    simp
  rw [hk] at cH
  have Hu := Lib.hid (And.intro us ud)
  clear hk hx hy us ud
  cases hf : finC (a, b)
  · rw [hf] at cH
    refine ⟨_, .inl ⟨hf, rfl⟩, ?_⟩
    go_enter Try.func50, Try.ntmps50
    go_wp2_with fail
    refine (cH _).mono ?_
    rintro e w2 ⟨rfl, rfl⟩
    go_wp2_with fail
    go_ret2
    exact ⟨rfl, _, rfl⟩
  · rw [hf] at cH
    have hf' := hf
    unfold finC at hf'
    rw [Bool.and_eq_true] at hf'
    have fa := of_decide_eq_true hf'.1
    have fb := of_decide_eq_true hf'.2
    obtain ⟨u, v, m, ⟨⟨lu, fu, su⟩, lv, fv, sv'⟩, kq⟩ := run_cquo32_one (P := Try.prog) ha hb fa fb 26 (w.drewN n)
    have k2 := fun W => run_conv_c (P := Try.prog) (w := W) Hu.out.1 Hu.out.2 (run_floatToFloat W (widen_bits (num_fin fu))) (run_floatToFloat W (widen_bits (num_fin fv)))
    have cF := fun W => finI_any (widen u) (widen v) W (widen_wl u) (widen_wl v)
    rw [show (isFinD (widen u) && isFinD (widen v)) = true by rw [isFin_widen, isFin_widen, decide_eq_true fu, decide_eq_true fv]; rfl] at cF
    have He := Lib.hid (show (eqW single u a && eqW single v b) = true by
      unfold eqW; rw [num_fin fu, num_fin fv, num_fin fa, num_fin fb, su, sv']; simp)
    have Hl := Lib.hid (And.intro lu lv)
    clear lu fu su lv fv sv' fa fb hf'
    refine ⟨_, .inr ⟨hf, u, v, ⟨Hl.out, He.out⟩, rfl⟩, ?_⟩
    go_enter Try.func50, Try.ntmps50
    go_wp2_with fail
    refine (cH _).mono ?_
    rintro e w2 ⟨rfl, rfl⟩
    go_wp2_with fail
    refine (cF _).mono ?_
    rintro e w2 ⟨rfl, rfl⟩
    go_wp2_with fail
    go_ret2
    exact ⟨rfl, _, rfl⟩
end Go.Proofs.Ytegcgbddoeoipaa.fnSeries
