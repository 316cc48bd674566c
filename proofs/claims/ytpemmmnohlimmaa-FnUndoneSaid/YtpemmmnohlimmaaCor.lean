/- What a step does to a number: each part as an option (none: some NaN); what the program's corrections give. -/
import Derived.Test.YtpemmmnohlimmaaStp
import Derived.Test.YtpemmmnohlimmaaLdx
namespace Go.Proofs.Ytpemmmnohlimmaa.Stp
open Go.ChangeShapes Go.WideShapes Go.ChangeAt Go.RowKit Go.Proofs.Ytpemmmnohlimmaa Go.Proofs.Ytpemmmnohlimmaa.Flt Go.Proofs.Ytpemmmnohlimmaa.Mth Go.Proofs.Ytpemmmnohlimmaa.Cpx Go.Proofs.Ytpemmmnohlimmaa.Trn
set_option linter.unusedVariables false
abbrev ng (x : Nat) : Nat := Op.negFloat .f64 x
/-- the parts turned by so many quarters -/
def tq (q : Int) (x y : Nat) : Nat × Nat := if q = 0 then (x, y) else if q = 1 then (ng y, x) else if q = 2 then (ng x, ng y) else (y, ng x)
/-- 2 to the power of p -/
def pw (p : Int) : Nat := (p + 1023).toNat * 4503599627370496
def stepO (s : Stp) (x y : Nat) : Option Nat × Option Nat :=
  if s.k = 1 then (fo .add .f64 (can .f64 x) (can .f64 s.x), fo .add .f64 (can .f64 y) (can .f64 s.y))
  else if s.k = 2 then (fo .sub .f64 (can .f64 x) (can .f64 s.x), fo .sub .f64 (can .f64 y) (can .f64 s.y))
  else if s.k = 3 then (fo .sub .f64 (fo .mul .f64 (can .f64 x) (can .f64 s.x)) (fo .mul .f64 (can .f64 y) (can .f64 s.y)), fo .add .f64 (fo .mul .f64 (can .f64 x) (can .f64 s.y)) (fo .mul .f64 (can .f64 y) (can .f64 s.x)))
  else if s.k = 4 then quoO x y s.x s.y
  else if s.k = 5 then (can .f64 x, can .f64 (ng y))
  else if s.k = 6 then (can .f64 (ng x), can .f64 (ng y))
  else (fo .mul .f64 (can .f64 (tq s.q x y).1) (can .f64 (pw s.p)), fo .mul .f64 (can .f64 (tq s.q x y).2) (can .f64 (pw s.p)))
/-- a finite number, or none -/
def finO (o : Option Nat) : Bool := match o with | none => false | some r => isFinD r
theorem finO_can (r : Nat) : finO (can .f64 r) = isFinD r := by
  cases h : isNaN FloatKind.f64.format r
  · rw [can_num h]; rfl
  · rw [can_nan h]; exact (isFin_nan h).symm
/-- what CorrectOne gives -/
def corO (s : Stp) (z : Nat × Nat) : Option (Nat × Nat) :=
  if s.ok && (isFinD z.1 && isFinD z.2) && (finO (stepO s z.1 z.2).1 && finO (stepO s z.1 z.2).2) then some ((stepO s z.1 z.2).1.getD 0, (stepO s z.1 z.2).2.getD 0) else none
section
variable {P : Program}
theorem run_cas (op : BinOp) (h : op = .add ∨ op = .sub) (t : TypeId) (a b c d : Nat) (w : World) :
    ∃ e f n, (e < 18446744073709551616 ∧ f < 18446744073709551616) ∧ (can .f64 e = fo op .f64 (can .f64 a) (can .f64 c) ∧ can .f64 f = fo op .f64 (can .f64 b) (can .f64 d)) ∧ (binOp op t (.complex .f64 a b) (.complex .f64 c d)).run P w = .ok (.complex .f64 e f) (w.drewN n) := by
  have hop : am op := by rcases h with rfl | rfl; exact hAdd; exact hSub
  obtain ⟨e, n, w1, c1, k1⟩ := run_arith (P := P) op hop a c w
  obtain ⟨f, m, w2, c2, k2⟩ := run_arith (P := P) op hop b d (w.drewN n)
  refine ⟨e, f, n + m, ⟨lt_double w1, lt_double w2⟩, ⟨c1, c2⟩, ?_⟩
  rcases h with rfl | rfl <;> simp [binOp, Op.complexOp, k1, k2, World.drewN_drewN]
end
theorem ng_lt {x : Nat} (h : x < 18446744073709551616) : ng x < 18446744073709551616 := by
  have := neg_lt .f64 (w := x) (by rw [show FloatKind.f64.format = Ieee.double from rfl, width_double]; exact h)
  rw [show FloatKind.f64.format = Ieee.double from rfl, width_double] at this; exact this
/-- what a correction gives -/
def ActOut (s : Stp) (x y : Nat) (w : World) (e : Ending) (w' : World) : Prop :=
  ∃ a b, (a < 18446744073709551616 ∧ b < 18446744073709551616) ∧ (can .f64 a = (stepO s x y).1 ∧ can .f64 b = (stepO s x y).2) ∧ e = .returned (.complex .f64 a b) ∧ Below w.heap.size w w'
theorem act1 (s : Stp) (x y : Nat) (w : World) (hk : s.k = 1) : Calls Try.prog 39 #[.agg s.c, .complex .f64 x y] w (ActOut s x y w) := by
  have ho : stepO s x y = (fo .add .f64 (can .f64 x) (can .f64 s.x), fo .add .f64 (can .f64 y) (can .f64 s.y)) := by unfold stepO; rw [if_pos hk]
  unfold ActOut
  rw [ho]
  unfold Stp.c
  obtain ⟨a, b, n, wf, hc, k⟩ := run_cas (P := Try.prog) .add (.inl rfl) 25 x y s.x s.y (w.alloc (.cells #[.int .i64 s.k, .complex .f64 s.x s.y, .int .i64 s.q, .int .i64 s.p] 45))
  have Hc := Lib.hid hc
  clear hk ho hc
  go_enter Try.func39, Try.ntmps39
  go_wp2_with fail
  go_ret
  exact ⟨a, b, wf, Hc.out, rfl, below_drewN (by go_grown) _⟩
theorem act2 (s : Stp) (x y : Nat) (w : World) (hk : s.k = 2) : Calls Try.prog 40 #[.agg s.c, .complex .f64 x y] w (ActOut s x y w) := by
  have ho : stepO s x y = (fo .sub .f64 (can .f64 x) (can .f64 s.x), fo .sub .f64 (can .f64 y) (can .f64 s.y)) := by unfold stepO; rw [if_neg (by omega), if_pos hk]
  unfold ActOut
  rw [ho]
  unfold Stp.c
  obtain ⟨a, b, n, wf, hc, k⟩ := run_cas (P := Try.prog) .sub (.inr rfl) 25 x y s.x s.y (w.alloc (.cells #[.int .i64 s.k, .complex .f64 s.x s.y, .int .i64 s.q, .int .i64 s.p] 45))
  have Hc := Lib.hid hc
  clear hk ho hc
  go_enter Try.func40, Try.ntmps40
  go_wp2_with fail
  go_ret
  exact ⟨a, b, wf, Hc.out, rfl, below_drewN (by go_grown) _⟩
theorem product_any (a b c d : Nat) (w : World) : Calls Try.prog 42 #[.complex .f64 a b, .complex .f64 c d] w fun e w' =>
    ∃ u v, (u < 18446744073709551616 ∧ v < 18446744073709551616) ∧ (can .f64 u = fo .sub .f64 (fo .mul .f64 (can .f64 a) (can .f64 c)) (fo .mul .f64 (can .f64 b) (can .f64 d)) ∧ can .f64 v = fo .add .f64 (fo .mul .f64 (can .f64 a) (can .f64 d)) (fo .mul .f64 (can .f64 b) (can .f64 c))) ∧ e = .returned (.complex .f64 u v) ∧ Below w.heap.size w w' := by
  obtain ⟨r1, n1, w1, c1, k1⟩ := run_fo (P := Try.prog) .mul hMul 37 .f64 a c w
  obtain ⟨r2, n2, w2, c2, k2⟩ := run_fo (P := Try.prog) .mul hMul 37 .f64 b d (w.drewN n1)
  obtain ⟨r3, n3, w3, c3, k3⟩ := run_fo (P := Try.prog) .sub hSub 37 .f64 r1 r2 (w.drewN (n1 + n2))
  obtain ⟨r4, n4, w4, c4, k4⟩ := run_fo (P := Try.prog) .mul hMul 37 .f64 a d (w.drewN (n1 + n2 + n3))
  obtain ⟨r5, n5, w5, c5, k5⟩ := run_fo (P := Try.prog) .mul hMul 37 .f64 b c (w.drewN (n1 + n2 + n3 + n4))
  obtain ⟨r6, n6, w6, c6, k6⟩ := run_fo (P := Try.prog) .add hAdd 37 .f64 r4 r5 (w.drewN (n1 + n2 + n3 + n4 + n5))
  have H := Lib.hid (show can .f64 r3 = fo .sub .f64 (fo .mul .f64 (can .f64 a) (can .f64 c)) (fo .mul .f64 (can .f64 b) (can .f64 d)) ∧ can .f64 r6 = fo .add .f64 (fo .mul .f64 (can .f64 a) (can .f64 d)) (fo .mul .f64 (can .f64 b) (can .f64 c)) by rw [c3, c1, c2, c6, c4, c5]; exact ⟨rfl, rfl⟩)
  clear c1 c2 c3 c4 c5 c6
  go_enter Try.func42, Try.ntmps42
  go_wp2_with fail
  go_ret
  exact ⟨r3, r6, ⟨lt_double w3, lt_double w6⟩, H.out, rfl, below_drewN (Below.refl _ _) (n1 + n2 + n3 + n4 + n5 + n6)⟩
theorem act3 (s : Stp) (x y : Nat) (w : World) (hk : s.k = 3) : Calls Try.prog 41 #[.agg s.c, .complex .f64 x y] w (ActOut s x y w) := by
  have ho : stepO s x y = (fo .sub .f64 (fo .mul .f64 (can .f64 x) (can .f64 s.x)) (fo .mul .f64 (can .f64 y) (can .f64 s.y)), fo .add .f64 (fo .mul .f64 (can .f64 x) (can .f64 s.y)) (fo .mul .f64 (can .f64 y) (can .f64 s.x))) := by unfold stepO; rw [if_neg (by omega), if_neg (by omega), if_pos hk]
  unfold ActOut
  rw [ho]
  unfold Stp.c
  clear hk ho
  go_enter Try.func41, Try.ntmps41
  go_wp2_with fail
  refine (product_any _ _ _ _ _).mono ?_
  rintro e w1 ⟨a, b, wf, hc, rfl, hb⟩
  have Hb := Lib.hid (show Below w.heap.size w w1 from below_on hb (by go_grown) (by simp))
  have Hc := Lib.hid hc
  clear hc hb
  go_wp2_with fail
  go_ret
  exact ⟨a, b, wf, Hc.out, rfl, Hb.out⟩
theorem act4 (s : Stp) (x y : Nat) (w : World) (hk : s.k = 4) (fx : isFinD x = true) (fy : isFinD y = true) (ok : s.ok = true) : Calls Try.prog 43 #[.agg s.c, .complex .f64 x y] w (ActOut s x y w) := by
  have ho : stepO s x y = quoO x y s.x s.y := by unfold stepO; rw [if_neg (by omega), if_neg (by omega), if_neg (by omega), if_pos hk]
  unfold Stp.ok at ok
  rw [if_neg (by omega), if_pos hk] at ok
  simp only [Bool.and_eq_true, Bool.not_eq_true'] at ok
  obtain ⟨⟨⟨fa, fb⟩, hz⟩, _⟩ := ok
  unfold ActOut
  rw [ho]
  unfold Stp.c
  obtain ⟨a, b, n, wf, hc, k⟩ := run_cquo64 (P := Try.prog) fx fy fa fb hz 25 (w.alloc (.cells #[.int .i64 s.k, .complex .f64 s.x s.y, .int .i64 s.q, .int .i64 s.p] 45))
  have Hc := Lib.hid hc
  clear hk ho hc fx fy fa fb hz
  go_enter Try.func43, Try.ntmps43
  go_wp2_with fail
  go_ret
  exact ⟨a, b, ⟨lt_double wf.1, lt_double wf.2⟩, Hc.out, rfl, below_drewN (by go_grown) _⟩
theorem act5 (s : Stp) (x y : Nat) (w : World) (hk : s.k = 5) (hx : x < 18446744073709551616) (hy : y < 18446744073709551616) : Calls Try.prog 44 #[.agg s.c, .complex .f64 x y] w (ActOut s x y w) := by
  have ho : stepO s x y = (can .f64 x, can .f64 (ng y)) := by unfold stepO; rw [if_neg (by omega), if_neg (by omega), if_neg (by omega), if_neg (by omega), if_pos hk]
  unfold ActOut
  rw [ho]
  unfold Stp.c
  have Hy := Lib.hid (ng_lt hy)
  clear hk ho
  go_enter Try.func44, Try.ntmps44
  go_wp2_with fail
  refine (conj_any _ _ _).mono ?_
  rintro e w1 ⟨rfl, rfl⟩
  go_wp2_with fail
  go_ret
  exact ⟨_, _, ⟨hx, Hy.out⟩, ⟨rfl, rfl⟩, rfl, by go_grown⟩
theorem act6 (s : Stp) (x y : Nat) (w : World) (hk : s.k = 6) (hx : x < 18446744073709551616) (hy : y < 18446744073709551616) : Calls Try.prog 45 #[.agg s.c, .complex .f64 x y] w (ActOut s x y w) := by
  have ho : stepO s x y = (can .f64 (ng x), can .f64 (ng y)) := by unfold stepO; rw [if_neg (by omega), if_neg (by omega), if_neg (by omega), if_neg (by omega), if_neg (by omega), if_pos hk]
  unfold ActOut
  rw [ho]
  unfold Stp.c
  have Hx := Lib.hid (ng_lt hx)
  have Hy := Lib.hid (ng_lt hy)
  clear hk ho
  go_enter Try.func45, Try.ntmps45
  go_wp2_with fail
  go_ret
  exact ⟨_, _, ⟨Hx.out, Hy.out⟩, ⟨rfl, rfl⟩, rfl, by go_grown⟩
end Go.Proofs.Ytpemmmnohlimmaa.Stp
