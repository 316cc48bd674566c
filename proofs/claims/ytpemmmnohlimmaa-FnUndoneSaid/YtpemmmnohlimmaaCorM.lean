/- The mirrored step does to the conjugate what the step does to a number, but for the sign of a zero; and fails exactly if it does. Plain facts. -/
import Derived.Test.YtpemmmnohlimmaaFltN
import Derived.Test.YtpemmmnohlimmaaTrc
namespace Go.Proofs.Ytpemmmnohlimmaa.Stp
open Go.ChangeShapes Go.WideShapes Go.ChangeAt Go.RowKit Go.Proofs.Ytpemmmnohlimmaa Go.Proofs.Ytpemmmnohlimmaa.Flt Go.Proofs.Ytpemmmnohlimmaa.Mth Go.Proofs.Ytpemmmnohlimmaa.Cpx Go.Proofs.Ytpemmmnohlimmaa.Trn
open Ieee (double)
set_option linter.unusedVariables false
/-- finite words, the second the first with its sign turned if 's', but for the sign of a zero -/
def FW (s : Bool) (a b : Nat) : Prop := isFinD a = true ∧ RW double s a b
theorem fin_nan {a : Nat} (h : isFinD a = true) : isNaN double a = false := by
  cases hn : isNaN double a
  · rfl
  · rw [isFin_nan hn] at h; cases h
theorem fin_rung {a b : Nat} (h : rung double b = rung double a) : isFinD b = isFinD a := by unfold isFinD; rw [h]
theorem FW.refl {a : Nat} (h : isFinD a = true) : FW false a a := ⟨h, fin_nan h, fin_nan h, rfl, .inr (by rw [Bool.xor_false])⟩
theorem lt_w {a : Nat} (h : a < 18446744073709551616) : a < 2 ^ FloatKind.f64.format.width := by rw [show FloatKind.f64.format = double from rfl, width_double]; exact h
theorem ng_rung {a : Nat} (h : a < 18446744073709551616) : rung double (ng a) = rung double a := rung_neg .f64 (lt_w h)
theorem ng_sgn {a : Nat} (h : a < 18446744073709551616) : sgn double (ng a) = !sgn double a := sgn_neg .f64 (lt_w h)
theorem ng_nan {a : Nat} (h : a < 18446744073709551616) : isNaN double (ng a) = isNaN double a := isNaN_neg .f64 (lt_w h)
theorem ng_fin {a : Nat} (h : a < 18446744073709551616) : isFinD (ng a) = isFinD a := fin_rung (ng_rung h)
theorem RW.neg {s : Bool} {a b : Nat} (h : RW double s a b) (hb : b < 18446744073709551616) : RW double (!s) a (ng b) := by
  obtain ⟨h1, h2, h3, h4⟩ := h
  refine ⟨h1, by rw [ng_nan hb]; exact h2, by rw [ng_rung hb]; exact h3, ?_⟩
  rcases h4 with h4 | h4
  · exact .inl h4
  · right; rw [ng_sgn hb, h4]; cases sgn double a <;> cases s <;> rfl
theorem RW.neg' {s : Bool} {a b : Nat} (h : RW double s a b) (ha : a < 18446744073709551616) : RW double (!s) (ng a) b := by
  obtain ⟨h1, h2, h3, h4⟩ := h
  refine ⟨by rw [ng_nan ha]; exact h1, h2, by rw [ng_rung ha]; exact h3, ?_⟩
  rcases h4 with h4 | h4
  · left; rw [ng_rung ha]; exact h4
  · right; rw [ng_sgn ha, h4]; cases sgn double a <;> cases s <;> rfl
theorem FW.neg {s : Bool} {a b : Nat} (h : FW s a b) (hb : b < 18446744073709551616) : FW (!s) a (ng b) := ⟨h.1, RW.neg h.2 hb⟩
theorem FW.neg' {s : Bool} {a b : Nat} (h : FW s a b) (ha : a < 18446744073709551616) : FW (!s) (ng a) b := ⟨by rw [ng_fin ha]; exact h.1, RW.neg' h.2 ha⟩
theorem FW.can {s : Bool} {a b : Nat} (h : FW s a b) : RO s (can .f64 a) (can .f64 b) := .inr ⟨a, b, can_num h.2.1, can_num h.2.2.1, h.2⟩
theorem FW.eq {a b : Nat} (h : FW false a b) : eqW double b a = true := by
  obtain ⟨_, h1, h2, h3, h4⟩ := h
  unfold eqW
  rw [h1, h2]
  simp only [Bool.not_false, Bool.true_and]
  refine decide_eq_true ?_
  rcases h4 with h4 | h4
  · rw [(sv_eq_zero double).2 h4, (sv_eq_zero double).2 (by rw [h3]; exact h4)]
  · unfold sv; rw [h3, h4, Bool.xor_false]
/-- both fail to be finite, or both are such -/
def FO (s : Bool) (o o1 : Option Nat) : Prop := (finO o = false ∧ finO o1 = false) ∨ ∃ a b, o = some a ∧ o1 = some b ∧ FW s a b
theorem RO.fo {s : Bool} {o o1 : Option Nat} (h : RO s o o1) : FO s o o1 := by
  rcases h with ⟨rfl, rfl⟩ | ⟨a, b, rfl, rfl, h⟩
  · exact .inl ⟨rfl, rfl⟩
  · cases hf : isFinD a
    · exact .inl ⟨hf, (fin_rung h.2.2.1).trans hf⟩
    · exact .inr ⟨a, b, rfl, rfl, hf, h⟩
/-- a quotient by a zero is not finite -/
theorem quo_zero_fin {o : Option Nat} {y : Nat} (h : rung double y = 0) : finO (fo .quo .f64 o (some y)) = false := by
  cases o with
  | none => rfl
  | some x =>
    show finO ((((double.read x)).quotient (double.fractionBits + 2) (double.read y)).map double.write) = false
    have hy : double.read y = .number (sgn double y) 0 double.leastPlace := by
      rw [read_rd, h]
      unfold rd
      exact if_pos (Nat.two_pow_pos _)
    rw [hy]
    cases hx : double.read x with
    | nan t n => rfl
    | infinity t =>
      show isFinD (double.word _ double.infRung) = false
      unfold isFinD
      rw [rung_word double _ (inf_lt double)]
      exact decide_eq_false (by omega)
    | number t m e =>
      have hq : Ieee.Datum.quotient (double.fractionBits + 2) (.number t m e) (.number (sgn double y) 0 double.leastPlace) = if m = 0 then none else some (.infinity (t ^^ sgn double y)) := by
        simp [Ieee.Datum.quotient]
      rw [hq]
      by_cases hm : m = 0
      · rw [if_pos hm]; rfl
      · rw [if_neg hm]
        show isFinD (double.word _ double.infRung) = false
        unfold isFinD
        rw [rung_word double _ (inf_lt double)]
        exact decide_eq_false (by omega)
theorem FO.quo {s t : Bool} {a a1 b b1 : Option Nat} (h : RO s a a1) (g : RO t b b1) : FO (s ^^ t) (fo .quo .f64 a b) (fo .quo .f64 a1 b1) := by
  by_cases hz : ∃ y, b = some y ∧ rung double y = 0
  · obtain ⟨y, rfl, h0⟩ := hz
    rcases g with ⟨e, _⟩ | ⟨y', y1, e, rfl, g⟩
    · cases e
    · cases e
      exact .inl ⟨quo_zero_fin h0, quo_zero_fin (by rw [g.2.2.1]; exact h0)⟩
  · exact RO.fo (RO.quo h g fun y e h0 => hz ⟨y, e, h0⟩)
theorem abs_ng {d : Nat} (h : d < 18446744073709551616) : Op.Complex.abs (ng d) = Op.Complex.abs d := by
  have := ng_rung h
  unfold rung at this
  rw [sw_double] at this
  exact this
theorem absGe_ng {c d : Nat} (h : d < 18446744073709551616) : absGe c (ng d) = absGe c d := by unfold absGe; rw [abs_ng h]
theorem abs_rung (x : Nat) : Op.Complex.abs x = rung double x := by unfold rung; rw [sw_double]; rfl
theorem low_rung {r : Nat} (h : r < 9223372036854775808) : rung double r = r ∧ sgn double r = false := by
  constructor
  · unfold rung; rw [sw_double]; exact Nat.mod_eq_of_lt h
  · unfold sgn; rw [sw_double, Nat.div_eq_of_lt h]; rfl
theorem absGe_fin {c d : Nat} (fc : isFinD c = true) (fd : isFinD d = true) : absGe c d = decide (rung double d ≤ rung double c) := by
  have hc := rung_lt double c
  have hd' := rung_lt double d
  rw [sw_double] at hc hd'
  obtain ⟨c1, c2⟩ := low_rung hc
  obtain ⟨d1, d2⟩ := low_rung hd'
  have nc : isNaN double (rung double c) = false := by
    have := fin_nan fc
    unfold isNaN at this ⊢
    rw [c1]; exact this
  have nd : isNaN double (rung double d) = false := by
    have := fin_nan fd
    unfold isNaN at this ⊢
    rw [d1]; exact this
  unfold absGe
  rw [abs_rung, abs_rung, gt64, eq64]
  unfold ltW eqW sv
  rw [nc, nd, c1, c2, d1, d2]
  simp only [Bool.not_false, Bool.true_and, Bool.false_eq_true, if_false]
  have h1 := mg_lt_iff double (r := rung double d) (s := rung double c)
  have h2 := mg_inj double (r := rung double c) (s := rung double d)
  by_cases h : rung double d ≤ rung double c
  · rw [decide_eq_true h]
    by_cases h3 : rung double d = rung double c
    · rw [h3]; simp
    · have h4 := h1.2 (by omega)
      rw [decide_eq_true (by omega)]; rfl
  · rw [decide_eq_false h]
    rw [decide_eq_false (fun e => h (by have := h1.1 (by omega); omega)), decide_eq_false (fun e => h (by have := h2.1 (by omega); omega))]; rfl
/-- the quotient of the conjugates -/
theorem quoO_mir {a a1 b b1 c d : Nat} (ha : FW false a a1) (hb : FW true b b1) (fc : isFinD c = true) (fd : isFinD d = true) (wd : d < 18446744073709551616) (hz : isZ c d = false) :
    FO false (quoO a b c d).1 (quoO a1 b1 c (ng d)).1 ∧ FO true (quoO a b c d).2 (quoO a1 b1 c (ng d)).2 := by
  have hc := (FW.refl fc).can
  have hd1 := ((FW.refl fd).neg wd).can
  have ra := ha.can
  have rb := hb.can
  unfold isZ at hz
  rw [eqW_zero double (fin_nan fc), eqW_zero double (fin_nan fd)] at hz
  have hge := absGe_fin fc fd
  have nz : ∀ y, rung double y ≠ 0 → ∀ y', can .f64 y = some y' → rung double y' ≠ 0 := fun y h y' hy => by
    obtain ⟨rfl, _⟩ := can_some hy
    exact h
  unfold quoO
  simp only
  rw [absGe_ng wd, hge]
  by_cases hle : rung double d ≤ rung double c
  · simp only [hle, decide_true, if_true]
    have hc0 : rung double c ≠ 0 := fun e => by
      rw [decide_eq_true e, decide_eq_true (show rung double d = 0 by omega)] at hz
      cases hz
    have rt := RO.quo hd1 hc (nz c hc0)
    have rm := RO.mul rt hd1
    have rd' := RO.add hc rm
    exact ⟨FO.quo (RO.add ra (RO.mul rb rt)) rd', FO.quo (RO.sub rb (RO.mul ra rt)) rd'⟩
  · simp only [hle, decide_false, Bool.false_eq_true, if_false]
    have hd0 : rung double d ≠ 0 := fun e => by omega
    have rt := RO.quo hc hd1 (nz d hd0)
    have rm := RO.mul rt hc
    have rd' := RO.add hd1 rm
    exact ⟨FO.quo (RO.add (RO.mul ra rt) rb) rd', FO.quo (RO.sub (RO.mul rb rt) ra) rd'⟩
/-- the mirrored step -/
def mirS (s : Stp) : Stp := ⟨s.k, s.x, ng s.y, (4 - s.q) % 4, s.p⟩
theorem isZ_ng {x y : Nat} (hy : y < 18446744073709551616) : isZ x (ng y) = isZ x y := by
  unfold isZ
  have : eqW double (ng y) 0 = eqW double y 0 := by
    cases hn : isNaN double y
    · rw [eqW_zero double (by rw [ng_nan hy]; exact hn), eqW_zero double hn, ng_rung hy]
    · unfold eqW; rw [ng_nan hy, hn]; rfl
  rw [this]
theorem mir_ok {s : Stp} (hy : s.y < 18446744073709551616) (h : s.ok = true) : (mirS s).ok = true := by
  obtain ⟨k, x, y, q, p⟩ := s
  have hy : y < 18446744073709551616 := hy
  unfold Stp.ok mirS at *
  simp only at h ⊢
  rw [ng_fin hy, isZ_ng hy]
  have hn : noT q p = true → noT ((4 - q) % 4) p = true := fun e => by
    unfold noT at e ⊢
    simp only [Bool.and_eq_true, decide_eq_true_eq] at e ⊢
    omega
  have ht : okT q p = true → okT ((4 - q) % 4) p = true := fun e => by
    rw [okT_iff] at e ⊢
    omega
  split at h
  · rename_i hk
    rw [if_pos hk]
    rw [Bool.and_eq_true] at h ⊢
    exact ⟨h.1, hn h.2⟩
  · rename_i hk
    rw [if_neg hk]
    split at h
    · rename_i hk2
      rw [if_pos hk2]
      rw [Bool.and_eq_true] at h ⊢
      exact ⟨h.1, hn h.2⟩
    · rename_i hk2
      rw [if_neg hk2]
      split at h
      · rename_i hk3
        rw [if_pos hk3]
        rw [Bool.and_eq_true] at h ⊢
        exact ⟨h.1, hn h.2⟩
      · rename_i hk3
        rw [if_neg hk3]
        split at h
        · rename_i hk4
          rw [if_pos hk4]
          rw [Bool.and_eq_true] at h ⊢
          exact ⟨h.1, ht h.2⟩
        · cases h
/-- the numbers: the second equals the conjugate of the first -/
structure MR (z z1 : Nat × Nat) : Prop where
  re : FW false z.1 z1.1
  im : FW true z.2 z1.2
  w : z.1 < 18446744073709551616 ∧ z.2 < 18446744073709551616
  w1 : z1.1 < 18446744073709551616 ∧ z1.2 < 18446744073709551616
theorem tq_mir {q : Int} {x y x1 y1 : Nat} (hq : 0 ≤ q ∧ q ≤ 3) (h : MR (x, y) (x1, y1)) : FW false (tq q x y).1 (tq ((4 - q) % 4) x1 y1).1 ∧ FW true (tq q x y).2 (tq ((4 - q) % 4) x1 y1).2 := by
  obtain rfl | rfl | rfl | rfl : q = 0 ∨ q = 1 ∨ q = 2 ∨ q = 3 := by omega
  · exact ⟨h.re, h.im⟩
  · exact ⟨h.im.neg' h.w.2, h.re.neg h.w1.1⟩
  · exact ⟨(h.re.neg h.w1.1).neg' h.w.1, (h.im.neg h.w1.2).neg' h.w.2⟩
  · exact ⟨h.im.neg h.w1.2, h.re.neg' h.w.1⟩
theorem pw_fin {p : Int} (h1 : -60 ≤ p) (h2 : p ≤ 60) : isFinD (pw p) = true := by
  obtain ⟨E, e1, e2, e3, e4⟩ := pw_facts h1 h2
  rw [e4]
  unfold isFinD
  have hl : E * 4503599627370496 < 9218868437227405312 := by omega
  rw [(low_rung (by omega)).1, inf_double]
  exact decide_eq_true hl
theorem ok_by {s : Stp} (h : s.ok = true) (hk : s.k ≤ 4) : isFinD s.x = true ∧ isFinD s.y = true := by
  unfold Stp.ok at h
  split at h
  · simp only [Bool.and_eq_true] at h; exact h.1
  · split at h
    · simp only [Bool.and_eq_true] at h; exact h.1.1
    · split at h
      · omega
      · split at h
        · omega
        · cases h
theorem stepO_1 {s : Stp} {x y : Nat} (hk : s.k = 1) : stepO s x y = (fo .add .f64 (can .f64 x) (can .f64 s.x), fo .add .f64 (can .f64 y) (can .f64 s.y)) := by unfold stepO; rw [if_pos hk]
theorem stepO_2 {s : Stp} {x y : Nat} (hk : s.k = 2) : stepO s x y = (fo .sub .f64 (can .f64 x) (can .f64 s.x), fo .sub .f64 (can .f64 y) (can .f64 s.y)) := by unfold stepO; rw [if_neg (by omega), if_pos hk]
theorem stepO_3 {s : Stp} {x y : Nat} (hk : s.k = 3) : stepO s x y = (fo .sub .f64 (fo .mul .f64 (can .f64 x) (can .f64 s.x)) (fo .mul .f64 (can .f64 y) (can .f64 s.y)), fo .add .f64 (fo .mul .f64 (can .f64 x) (can .f64 s.y)) (fo .mul .f64 (can .f64 y) (can .f64 s.x))) := by unfold stepO; rw [if_neg (by omega), if_neg (by omega), if_pos hk]
theorem stepO_4 {s : Stp} {x y : Nat} (hk : s.k = 4) : stepO s x y = quoO x y s.x s.y := by unfold stepO; rw [if_neg (by omega), if_neg (by omega), if_neg (by omega), if_pos hk]
theorem stepO_5 {s : Stp} {x y : Nat} (hk : s.k = 5) : stepO s x y = (can .f64 x, can .f64 (ng y)) := by unfold stepO; rw [if_neg (by omega), if_neg (by omega), if_neg (by omega), if_neg (by omega), if_pos hk]
theorem stepO_6 {s : Stp} {x y : Nat} (hk : s.k = 6) : stepO s x y = (can .f64 (ng x), can .f64 (ng y)) := by unfold stepO; rw [if_neg (by omega), if_neg (by omega), if_neg (by omega), if_neg (by omega), if_neg (by omega), if_pos hk]
theorem stepO_7 {s : Stp} {x y : Nat} (hk : s.k = 7) : stepO s x y = (fo .mul .f64 (can .f64 (tq s.q x y).1) (can .f64 (pw s.p)), fo .mul .f64 (can .f64 (tq s.q x y).2) (can .f64 (pw s.p))) := by unfold stepO; rw [if_neg (by omega), if_neg (by omega), if_neg (by omega), if_neg (by omega), if_neg (by omega), if_neg (by omega)]
/-- each part -/
theorem stepO_mir {s : Stp} {x y x1 y1 : Nat} (ws : s.x < 18446744073709551616 ∧ s.y < 18446744073709551616) (ok : s.ok = true) (h : MR (x, y) (x1, y1)) :
    FO false (stepO s x y).1 (stepO (mirS s) x1 y1).1 ∧ FO true (stepO s x y).2 (stepO (mirS s) x1 y1).2 := by
  have rx := h.re.can
  have ry := h.im.can
  rcases kinds ok with hk | hk | hk | hk | hk | hk | hk
  · have hb := ok_by ok (by omega)
    have sx := (FW.refl hb.1).can
    have sy := ((FW.refl hb.2).neg ws.2).can
    rw [stepO_1 hk, stepO_1 (s := mirS s) hk]
    exact ⟨RO.fo (RO.add rx sx), RO.fo (RO.add ry sy)⟩
  · have hb := ok_by ok (by omega)
    have sx := (FW.refl hb.1).can
    have sy := ((FW.refl hb.2).neg ws.2).can
    rw [stepO_2 hk, stepO_2 (s := mirS s) hk]
    exact ⟨RO.fo (RO.sub rx sx), RO.fo (RO.sub ry sy)⟩
  · have hb := ok_by ok (by omega)
    have sx := (FW.refl hb.1).can
    have sy := ((FW.refl hb.2).neg ws.2).can
    rw [stepO_3 hk, stepO_3 (s := mirS s) hk]
    exact ⟨RO.fo (RO.sub (RO.mul rx sx) (RO.mul ry sy)), RO.fo (RO.add (RO.mul rx sy) (RO.mul ry sx))⟩
  · have hb := ok_by ok (by omega)
    unfold Stp.ok at ok
    rw [if_neg (by omega), if_pos hk] at ok
    simp only [Bool.and_eq_true, Bool.not_eq_true'] at ok
    rw [stepO_4 hk, stepO_4 (s := mirS s) hk]
    exact quoO_mir h.re h.im hb.1 hb.2 ws.2 ok.1.2
  · rw [stepO_5 hk, stepO_5 (s := mirS s) hk]
    exact ⟨RO.fo rx, RO.fo ((h.im.neg h.w1.2).neg' h.w.2).can⟩
  · rw [stepO_6 hk, stepO_6 (s := mirS s) hk]
    exact ⟨RO.fo ((h.re.neg h.w1.1).neg' h.w.1).can, RO.fo ((h.im.neg h.w1.2).neg' h.w.2).can⟩
  · unfold Stp.ok at ok
    rw [if_neg (by omega), if_neg (by omega), if_neg (by omega), if_pos hk, Bool.and_eq_true] at ok
    obtain ⟨hq, p1, p2⟩ := okT_iff.1 ok.2
    have hp := (FW.refl (pw_fin p1 p2)).can
    obtain ⟨t1, t2⟩ := tq_mir hq h
    rw [stepO_7 hk, stepO_7 (s := mirS s) hk]
    exact ⟨RO.fo (RO.mul t1.can hp), RO.fo (RO.mul t2.can hp)⟩
/-- CorrectOne, mirrored -/
theorem cor_mir {s : Stp} {z z1 : Nat × Nat} (ws : s.x < 18446744073709551616 ∧ s.y < 18446744073709551616) (ok : s.ok = true) (h : MR z z1) :
    (corO s z = none ∧ corO (mirS s) z1 = none) ∨ ∃ u u1, corO s z = some u ∧ corO (mirS s) z1 = some u1 ∧ MR u u1 := by
  obtain ⟨x, y⟩ := z
  obtain ⟨x1, y1⟩ := z1
  obtain ⟨o1, o2⟩ := stepO_mir ws ok h
  have fz : (isFinD x && isFinD y) = true := by rw [show isFinD x = true from h.re.1, show isFinD y = true from h.im.1]; rfl
  have fz1 : (isFinD x1 && isFinD y1) = true := by
    rw [show isFinD x1 = true from (fin_rung h.re.2.2.2.1).trans h.re.1, show isFinD y1 = true from (fin_rung h.im.2.2.2.1).trans h.im.1]; rfl
  have e : corO s (x, y) = if (finO (stepO s x y).1 && finO (stepO s x y).2) = true then some ((stepO s x y).1.getD 0, (stepO s x y).2.getD 0) else none := by
    unfold corO; rw [ok, show (isFinD (x, y).1 && isFinD (x, y).2) = true from fz, Bool.true_and, Bool.true_and]
  have e1 : corO (mirS s) (x1, y1) = if (finO (stepO (mirS s) x1 y1).1 && finO (stepO (mirS s) x1 y1).2) = true then some ((stepO (mirS s) x1 y1).1.getD 0, (stepO (mirS s) x1 y1).2.getD 0) else none := by
    unfold corO; rw [mir_ok ws.2 ok, show (isFinD (x1, y1).1 && isFinD (x1, y1).2) = true from fz1, Bool.true_and, Bool.true_and]
  rcases o1 with ⟨f1, g1⟩ | ⟨a, a1, ea, ea1, ha⟩
  · left
    rw [e, e1, f1, g1]
    exact ⟨rfl, rfl⟩
  · rcases o2 with ⟨f2, g2⟩ | ⟨b, b1, eb, eb1, hb⟩
    · left
      rw [e, e1, f2, g2, Bool.and_false, Bool.and_false]
      exact ⟨rfl, rfl⟩
    · right
      have h1 : corO s (x, y) = some (a, b) := by
        rw [e, ea, eb, show finO (some a) = true from ha.1, show finO (some b) = true from hb.1]; rfl
      have h2 : corO (mirS s) (x1, y1) = some (a1, b1) := by
        rw [e1, ea1, eb1, show finO (some a1) = true from (fin_rung ha.2.2.2.1).trans ha.1, show finO (some b1) = true from (fin_rung hb.2.2.2.1).trans hb.1]; rfl
      exact ⟨(a, b), (a1, b1), h1, h2, ha, hb, cor_wf h.w.1 h.w.2 h1, cor_wf h.w1.1 h.w1.2 h2⟩
/-- all steps, mirrored -/
theorem fld_mir : ∀ (xs : List Stp) (z z1 : Nat × Nat), wfS xs → (∀ s ∈ xs, s.ok = true) → MR z z1 →
    (fld xs z = none ∧ fld (xs.map mirS) z1 = none) ∨ ∃ u u1, fld xs z = some u ∧ fld (xs.map mirS) z1 = some u1 ∧ MR u u1
  | [], z, z1, _, _, h => .inr ⟨z, z1, rfl, rfl, h⟩
  | s :: r, z, z1, hw, ho, h => by
    rw [List.map_cons]
    unfold fld
    rcases cor_mir (hw s (by simp)) (ho s (by simp)) h with ⟨e1, e2⟩ | ⟨u, u1, e1, e2, h'⟩
    · rw [e1, e2]; exact .inl ⟨rfl, rfl⟩
    · rw [e1, e2]
      exact fld_mir r u u1 (fun t ht => hw t (by simp [ht])) (fun t ht => ho t (by simp [ht])) h'
end Go.Proofs.Ytpemmmnohlimmaa.Stp
