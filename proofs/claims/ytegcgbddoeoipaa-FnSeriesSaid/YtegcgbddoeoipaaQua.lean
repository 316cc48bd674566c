/- The quadrant of a complex number, by the signs of its parts; a number that is turned by quarters alone. -/
import Derived.Test.YtegcgbddoeoipaaCpxR
import Derived.Test.YtegcgbddoeoipaaTrn
import Derived.Test.YtegcgbddoeoipaaLdx
import Derived.Test.YtegcgbddoeoipaaFltX
namespace Go.Proofs.Ytegcgbddoeoipaa.Cpx
open Go.ChangeShapes Go.WideShapes Go.ChangeAt Go.RowKit Go.Proofs.Ytegcgbddoeoipaa Go.Proofs.Ytegcgbddoeoipaa.Flt Go.Proofs.Ytegcgbddoeoipaa.Mth Go.Proofs.Ytegcgbddoeoipaa.Trn
set_option linter.unusedVariables false
/-- the sign of a float: 1, -1, 0; 2 of a NaN -/
def cls (k : FloatKind) (b : Nat) : Int := if isNaN k.format b = true then 2 else if rung k.format b = 0 then 0 else if sgn k.format b = true then -1 else 1
theorem cls_nan {k : FloatKind} {b : Nat} (h : isNaN k.format b = true) : cls k b = 2 := by unfold cls; rw [if_pos h]
theorem cls_zero {k : FloatKind} {b : Nat} (h : rung k.format b = 0) : cls k b = 0 := by
  unfold cls; rw [isNaN_rung0 _ h, if_neg Bool.false_ne_true, if_pos h]
theorem cls_sgn {k : FloatKind} {b : Nat} (hn : isNaN k.format b = false) (h : rung k.format b ≠ 0) : cls k b = if sgn k.format b = true then -1 else 1 := by
  unfold cls; rw [hn, if_neg Bool.false_ne_true, if_neg h]
theorem sv_cls {k : FloatKind} {b : Nat} (hn : isNaN k.format b = false) : (0 < sv k.format b ↔ cls k b = 1) ∧ (sv k.format b < 0 ↔ cls k b = -1) ∧ (sv k.format b = 0 ↔ cls k b = 0) := by
  have h0 := sv_eq_zero k.format (w := b)
  by_cases h : rung k.format b = 0
  · rw [cls_zero h, h0.2 h]; simp
  · have hm : mg k.format (rung k.format b) ≠ 0 := fun e => h ((mg_eq_zero _).1 e)
    rw [cls_sgn hn h]
    unfold sv
    cases sgn k.format b
    · simp only [Bool.false_eq_true, if_false]
      refine ⟨⟨fun _ => trivial, fun _ => by omega⟩, ⟨fun _ => by omega, fun h => by cases h⟩, ⟨fun _ => by omega, fun h => by cases h⟩⟩
    · simp only [if_true]
      refine ⟨⟨fun _ => by omega, fun h => by cases h⟩, ⟨fun _ => trivial, fun _ => by omega⟩, ⟨fun _ => by omega, fun h => by cases h⟩⟩
theorem cls_four (k : FloatKind) (b : Nat) : cls k b = 2 ∨ cls k b = 0 ∨ cls k b = -1 ∨ cls k b = 1 := by
  unfold cls
  split
  · exact .inl rfl
  · split
    · exact .inr (.inl rfl)
    · split
      · exact .inr (.inr (.inl rfl))
      · exact .inr (.inr (.inr rfl))
theorem gt_cls (b : Nat) : (FloatKind.f64.format.order b 0 == some .gt) = decide (cls .f64 b = 1) := by
  rw [gt64]; unfold ltW
  cases h : isNaN Ieee.double b
  · rw [nan_zero, sv_zero]
    have := (sv_cls (k := .f64) h).1
    simp only [Bool.not_false, Bool.true_and]
    exact decide_eq_decide.2 this
  · rw [cls_nan (k := .f64) h]; simp
theorem lt_cls (b : Nat) : (FloatKind.f64.format.order b 0 == some .lt) = decide (cls .f64 b = -1) := by
  rw [lt64]; unfold ltW
  cases h : isNaN Ieee.double b
  · rw [nan_zero, sv_zero]
    have := (sv_cls (k := .f64) h).2.1
    simp only [Bool.not_false, Bool.true_and]
    exact decide_eq_decide.2 this
  · rw [cls_nan (k := .f64) h]; simp
theorem eq_cls (k : FloatKind) (b : Nat) : eqW k.format b 0 = decide (cls k b = 0) := by
  unfold eqW
  cases h : isNaN k.format b
  · rw [nan_zero, sv_zero]
    have := (sv_cls (k := k) h).2.2
    simp only [Bool.not_false, Bool.true_and]
    exact decide_eq_decide.2 this
  · rw [cls_nan h]; simp
theorem eq_cls' (b : Nat) : (FloatKind.f64.format.order b 0 == some .eq) = decide (cls .f64 b = 0) := by rw [eq64]; exact eq_cls .f64 b
/-- the quadrant -/
def qd (c d : Int) : Int := if c = 2 ∨ d = 2 then -1 else if c = 1 ∧ 0 ≤ d then 0 else if d = 1 ∧ c ≤ 0 then 1 else if c = -1 ∧ d ≤ 0 then 2 else if d = -1 ∧ 0 ≤ c then 3 else -1
set_option maxHeartbeats 800000 in
theorem quad_any (x y : Nat) (w : World) :
    Calls Try.prog 20 #[.complex .f64 x y] w fun e w' => e = .returned (.int .i64 (qd (cls .f64 x) (cls .f64 y))) ∧ w' = w := by
  have g1 := gt_cls x
  have l1 := lt_cls x
  have e1 := eq_cls' x
  have g2 := gt_cls y
  have l2 := lt_cls y
  have e2 := eq_cls' y
  have f1 := cls_four .f64 x
  have f2 := cls_four .f64 y
  generalize cls .f64 x = c at *
  generalize cls .f64 y = d at *
  rcases f1 with rfl | rfl | rfl | rfl <;> rcases f2 with rfl | rfl | rfl | rfl
  all_goals
    simp only [reduceCtorEq, Int.reduceEq, Int.reduceNeg, decide_true, decide_false] at g1 l1 e1 g2 l2 e2
    go_enter Try.func20, Try.ntmps20
    go_wp2_with fail
    go_ret
    exact ⟨rfl, rfl⟩
/-! conversions of complex numbers -/
section
variable {P : Program}
theorem f2f_wid (b : Nat) (w : World) : ∃ r n, Wid b r ∧ (Conv.floatToFloat .f32 b .f64).run P w = .ok (.float .f64 r) (w.drewN n) := by
  cases h : isNaN Ieee.single b
  · refine ⟨widen b, 0, ⟨widen_wl b, by rw [isNaN_widen, h], fun _ => rfl⟩, run_floatToFloat w (widen_bits h)⟩
  · obtain ⟨s, t, he⟩ := read_nan (f := Ieee.single) hs h
    have hdec : FloatKind.f32.decode b = .nan s t := he
    refine ⟨nan64 (w.tape w.drawn (.nanConv .f64 b)), 1, ⟨?_, ?_, fun e => by rw [h] at e; cases e⟩, ?_⟩
    · have := (nan64_isNaN (w.tape w.drawn (.nanConv .f64 b))).2; rw [width_double] at this; exact this
    · rw [(nan64_isNaN _).1, h]
    · simp [Conv.floatToFloat, hdec, Question.forced, Question.cut, nan64]; rfl
/-- 'r' is what narrowing a widened 'X' may give -/
def Nr (X r : Nat) : Prop := r < 4294967296 ∧ isNaN Ieee.single r = isNaN Ieee.single X ∧ (isNaN Ieee.single X = false → r = X)
theorem f2f_nar {X a : Nat} (hX : X < 4294967296) (ha : Wid X a) (w : World) : ∃ r n, Nr X r ∧ (Conv.floatToFloat .f64 a .f32).run P w = .ok (.float .f32 r) (w.drewN n) := by
  cases h : isNaN Ieee.single X
  · rw [ha.2.2 h]
    exact ⟨X, 0, ⟨hX, rfl, fun _ => rfl⟩, run_floatToFloat w (narrow_widen (by rw [width_single]; exact hX) h)⟩
  · have hn : isNaN Ieee.double a = true := by rw [ha.2.1, h]
    obtain ⟨s, t, he⟩ := read_nan (f := Ieee.double) hd hn
    have hdec : FloatKind.f64.decode a = .nan s t := he
    refine ⟨nan32 (w.tape w.drawn (.nanConv .f32 a)), 1, ⟨?_, ?_, fun e => by rw [h] at e; cases e⟩, ?_⟩
    · have := (nan32_isNaN (w.tape w.drawn (.nanConv .f32 a))).2; rw [width_single] at this; exact this
    · rw [(nan32_isNaN _).1, h]
    · simp [Conv.floatToFloat, hdec, Question.forced, Question.cut, nan32]; rfl
theorem run_conv_c {src dst : TypeId} {s k : FloatKind} {a b re im : Nat} {w w1 w2 : World} (hs' : (P.underlying src).isSome = true) (hd' : P.underlying dst = some (.complex k))
    (h1 : (Conv.floatToFloat s a k).run P w = .ok (.float k re) w1) (h2 : (Conv.floatToFloat s b k).run P w1 = .ok (.float k im) w2) :
    (convert src dst (.complex s a b)).run P w = .ok (.complex k re im) w2 := by
  obtain ⟨u, hs''⟩ := Option.isSome_iff_exists.1 hs'
  cases u <;> simp [convert, run_underlying hs'', run_underlying hd', Conv.complexToComplex, h1, h2]
theorem run_widC (src dst : TypeId) (hs' : (P.underlying src).isSome = true) (hd' : P.underlying dst = some (.complex .f64)) (a b : Nat) (w : World) :
    ∃ x y n, Wid a x ∧ Wid b y ∧ (convert src dst (.complex .f32 a b)).run P w = .ok (.complex .f64 x y) (w.drewN n) := by
  obtain ⟨x, n, hx, kx⟩ := f2f_wid (P := P) a w
  obtain ⟨y, m, hy, ky⟩ := f2f_wid (P := P) b (w.drewN n)
  exact ⟨x, y, n + m, hx, hy, by rw [run_conv_c hs' hd' kx ky, World.drewN_drewN]⟩
theorem run_narC (src dst : TypeId) (hs' : (P.underlying src).isSome = true) (hd' : P.underlying dst = some (.complex .f32)) {X Y a b : Nat} (hX : X < 4294967296) (hY : Y < 4294967296) (ha : Wid X a) (hb : Wid Y b) (w : World) :
    ∃ x y n, Nr X x ∧ Nr Y y ∧ (convert src dst (.complex .f64 a b)).run P w = .ok (.complex .f32 x y) (w.drewN n) := by
  obtain ⟨x, n, hx, kx⟩ := f2f_nar (P := P) hX ha w
  obtain ⟨y, m, hy, ky⟩ := f2f_nar (P := P) hY hb (w.drewN n)
  exact ⟨x, y, n + m, hx, hy, by rw [run_conv_c hs' hd' kx ky, World.drewN_drewN]⟩
end
theorem neg32_lt {x : Nat} (hx : x < 4294967296) : Op.negFloat .f32 x < 4294967296 := by
  have := neg_lt .f32 (w := x) (by rw [show FloatKind.f32.format = Ieee.single from rfl, width_single]; exact hx)
  rw [show FloatKind.f32.format = Ieee.single from rfl, width_single] at this; exact this
theorem wid_neg {x r : Nat} (hx : x < 4294967296) (h : Wid x r) : Wid (Op.negFloat .f32 x) (Op.negFloat .f64 r) := by
  have hx' : x < 2 ^ FloatKind.f32.format.width := by rw [show FloatKind.f32.format = Ieee.single from rfl, width_single]; exact hx
  have hr' : r < 2 ^ FloatKind.f64.format.width := by rw [show FloatKind.f64.format = Ieee.double from rfl, width_double]; exact h.1
  have n1 : isNaN Ieee.single (Op.negFloat .f32 x) = isNaN Ieee.single x := isNaN_neg .f32 hx'
  have n2 : isNaN Ieee.double (Op.negFloat .f64 r) = isNaN Ieee.double r := isNaN_neg .f64 hr'
  have s1 : sgn Ieee.single (Op.negFloat .f32 x) = !sgn Ieee.single x := sgn_neg .f32 hx'
  have r1 : rung Ieee.single (Op.negFloat .f32 x) = rung Ieee.single x := rung_neg .f32 hx'
  refine ⟨?_, by rw [n1, n2]; exact h.2.1, fun e => ?_⟩
  · have := neg_lt .f64 hr'
    rw [show FloatKind.f64.format = Ieee.double from rfl, width_double] at this; exact this
  · rw [n1] at e
    have hw := h.2.2 e
    have h2 : Op.negFloat .f64 r = Ieee.double.word (!sgn Ieee.double r) (rung Ieee.double r) := neg_eq .f64 hr'
    rw [h2, hw, sgn_widen, rung_widen]
    unfold widen
    rw [s1, r1]
theorem mul_one_num {x : Nat} (hx : x < 18446744073709551616) (hn : isNaN Ieee.double x = false) : floatBits .mul .f64 x 4607182418800017408 = some x := by
  have hx' : x < 2 ^ Ieee.double.width := by rw [width_double]; exact hx
  show Ieee.double.mul x _ = some x
  cases hf : isFinD x
  · have h1 := of_decide_eq_false hf
    have h2 := of_decide_eq_false hn
    have hr : rung Ieee.double x = Ieee.double.infRung := by omega
    have hd2 : Ieee.double.read x = .infinity (sgn Ieee.double x) := by
      rcases reads Ieee.double hd x with ⟨m, e, hr', _, _⟩ | ⟨_, h'⟩ | ⟨t, hr', _⟩
      · omega
      · exact h'
      · omega
    unfold Ieee.Format.mul
    rw [hd2, read_one]
    show some (Ieee.double.word (sgn Ieee.double x ^^ false) Ieee.double.infRung) = some x
    rw [Bool.xor_false, ← hr, ← word_eq Ieee.double hx']
  · have h1 := of_decide_eq_true hf
    rw [mul_rr Ieee.double (by decide) h1 (by rw [rung_one, inf_double]; decide), rung_one, sgn_one, Bool.xor_false]
    unfold mulRung
    rw [rr_exact Ieee.double (rung Ieee.double x) (Nat.two_pow_pos _) (by rw [mg_one, lam_double]), Nat.min_eq_left (Nat.le_of_lt h1), ← word_eq Ieee.double hx']
theorem run_mul_one {P : Program} (t : TypeId) {X r : Nat} (h : Wid X r) (w : World) : ∃ s n, Wid X s ∧ (binOp .mul t (.float .f64 r) (.float .f64 4607182418800017408)).run P w = .ok (.float .f64 s) (w.drewN n) := by
  obtain ⟨s, n, h1, h2, h3⟩ := run_fo (P := P) .mul hMul t .f64 r 4607182418800017408 w
  rw [fo_can hMul] at h2
  refine ⟨s, n, ?_, h3⟩
  cases hn : isNaN Ieee.single X
  · have hr : isNaN Ieee.double r = false := by rw [h.2.1, hn]
    rw [mul_one_num h.1 hr] at h2
    obtain ⟨rfl, _⟩ := can_some h2
    exact h
  · have hr : isNaN Ieee.double r = true := by rw [h.2.1, hn]
    rw [bits_nan_left (k := .f64) hMul _ hr] at h2
    have := can_none h2
    exact ⟨lt_double h1, by rw [hn]; exact this, fun e => by rw [hn] at e; cases e⟩
end Go.Proofs.Ytegcgbddoeoipaa.Cpx
