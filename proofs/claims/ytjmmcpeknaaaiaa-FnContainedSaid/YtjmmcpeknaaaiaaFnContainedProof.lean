/- Proves FnContained: for every input the law returns true and its arguments read as before. No further condition. -/
import Derived.Test.YtjmmcpeknaaaiaaRows
import Derived.WalkKit
import Derived.WalkLawsBesides
import Derived.ProofKit
import Derived.OpenShut
import Derived.ShutString
import Derived.ChangeOld
import Derived.Below
import Derived.Test.YtjmmcpeknaaaiaaFacts
import Derived.Test.YtjmmcpeknaaaiaaSpnW
import Derived.Test.YtjmmcpeknaaaiaaSpnMw
import Derived.Test.YtjmmcpeknaaaiaaSpnDr
import Derived.Test.YtjmmcpeknaaaiaaOld

namespace Go.Proofs.Ytjmmcpeknaaaiaa.Spn
open Go.ChangeShapes Go.WideShapes Go.ChangeAt Go.RowKit Go.Deep Go.Proofs.Ytjmmcpeknaaaiaa Go.Proofs.Ytjmmcpeknaaaiaa.Flt Go.Proofs.Ytjmmcpeknaaaiaa.Mth
open Ieee (single double)
set_option linter.unusedVariables false
set_option linter.unusedSimpArgs false
set_option maxRecDepth 20000
theorem impl_holds (x y v : Nat) (w : World) :
    Calls Try.prog 35 #[pv x y, .float .f64 v] w fun e w' => e = .returned (.bool (hdB x y v)) ∧ Below w.heap.size w w' := by
  have h := fun w => impl_ok x y w
  cases hl : leB x y
  · rw [show hdB x y v = false by unfold hdB; rw [hl]; rfl]
    rw [hl] at h
    clear hl
    unfold pv at h ⊢
    go_enter Try.func35, Try.ntmps35
    go_wp2_with fail
    refine (h _).mono ?_
    rintro e w' ⟨rfl, rfl⟩
    go_wp2_with fail
    go_ret
    exact ⟨rfl, by go_grown⟩
  · obtain ⟨nx, ny, _⟩ := le_iff.1 hl
    have kx := run_wid nx
    have ky := run_wid ny
    rw [show hdB x y v = (geD v (widen x) && leD v (widen y)) by unfold hdB; rw [hl]; rfl]
    rw [hl] at h
    clear hl nx ny
    unfold pv at h ⊢
    generalize widen x = p at *
    generalize widen y = q at *
    cases hg : geD v p
    · unfold geD at hg
      go_enter Try.func35, Try.ntmps35
      go_wp2_with fail
      refine (h _).mono ?_
      rintro e w' ⟨rfl, rfl⟩
      go_wp2_with fail
      go_ret
      exact ⟨rfl, by go_grown⟩
    · unfold geD at hg
      obtain ⟨b, hb⟩ : ∃ b, leD v q = b := ⟨_, rfl⟩
      rw [hb]
      unfold leD at hb
      go_enter Try.func35, Try.ntmps35
      go_wp2_with fail
      refine (h _).mono ?_
      rintro e w' ⟨rfl, rfl⟩
      go_wp2_with fail
      go_ret
      exact ⟨ret_bool (by simp [*]), by go_grown⟩
theorem spec_holds (x y v : Nat) (w : World) :
    Calls Try.prog 46 #[pv x y, .float .f64 v] w fun e w' => e = .returned (.bool (hdB x y v)) ∧ Below w.heap.size w w' := by
  have h := fun w => spec_ok x y w
  cases hl : leB x y
  · rw [show hdB x y v = false by unfold hdB; rw [hl]; rfl]
    rw [hl] at h
    clear hl
    unfold pv at h ⊢
    go_enter Try.func46, Try.ntmps46
    go_wp2_with fail
    refine (h _).mono ?_
    rintro e w' ⟨rfl, rfl⟩
    go_wp2_with fail
    go_ret
    exact ⟨rfl, by go_grown⟩
  · obtain ⟨nx, ny, _⟩ := le_iff.1 hl
    have kx := run_wid nx
    have ky := run_wid ny
    rw [show hdB x y v = (geD v (widen x) && leD v (widen y)) by unfold hdB; rw [hl]; rfl]
    rw [hl] at h
    clear hl nx ny
    unfold pv at h ⊢
    generalize widen x = p at *
    generalize widen y = q at *
    cases hg : geD v p
    · unfold geD at hg
      go_enter Try.func46, Try.ntmps46
      go_wp2_with fail
      refine (h _).mono ?_
      rintro e w' ⟨rfl, rfl⟩
      go_wp2_with fail
      go_ret
      exact ⟨rfl, by go_grown⟩
    · unfold geD at hg
      obtain ⟨b, hb⟩ : ∃ b, leD v q = b := ⟨_, rfl⟩
      rw [hb]
      unfold leD at hb
      go_enter Try.func46, Try.ntmps46
      go_wp2_with fail
      refine (h _).mono ?_
      rintro e w' ⟨rfl, rfl⟩
      go_wp2_with fail
      go_ret
      exact ⟨ret_bool (by simp [*]), by go_grown⟩
theorem l07fine (x y : Nat) (w : World) :
    Calls Try.prog 82 #[pv x y] w fun e w' => e = .returned (.bool (widB x y)) ∧ Below w.heap.size w w' := by
  have h := fun w => spec_ok x y w
  cases hl : leB x y
  · rw [show widB x y = false by unfold widB; rw [hl]; rfl]
    rw [hl] at h
    clear hl
    unfold pv at h ⊢
    go_enter Try.func82, Try.ntmps82
    go_wp2_with fail
    refine (h _).mono ?_
    rintro e w' ⟨rfl, rfl⟩
    go_wp2_with fail
    go_ret
    exact ⟨rfl, by go_grown⟩
  · obtain ⟨nx, ny, _⟩ := le_iff.1 hl
    have kx := run_wid nx
    have ky := run_wid ny
    have fx := fun w => fine_any (widen x) w
    have fy := fun w => fine_any (widen y) w
    rw [show isFinD (widen x) = fnS x from isFin_widen x] at fx
    rw [show isFinD (widen y) = fnS y from isFin_widen y] at fy
    rw [show widB x y = (fnS x && fnS y) by unfold widB; rw [hl]; rfl]
    rw [hl] at h
    clear hl nx ny
    unfold pv at h ⊢
    generalize widen x = p at *
    generalize widen y = q at *
    cases hb : fnS x
    · rw [hb] at fx
      clear hb
      go_enter Try.func82, Try.ntmps82
      go_wp2_with fail
      refine (h _).mono ?_
      rintro e w' ⟨rfl, rfl⟩
      go_wp2_with fail
      refine (fx _).mono ?_
      rintro e w1 ⟨rfl, n, hw1⟩
      subst w1
      go_wp2_with fail
      go_ret
      exact ⟨rfl, below_drewN (by go_grown) _⟩
    · rw [hb] at fx
      generalize fnS y = c at *
      clear hb
      go_enter Try.func82, Try.ntmps82
      go_wp2_with fail
      refine (h _).mono ?_
      rintro e w' ⟨rfl, rfl⟩
      go_wp2_with fail
      refine (fx _).mono ?_
      rintro e w1 ⟨rfl, n, hw1⟩
      subst w1
      go_wp2_with fail
      refine (fy _).mono ?_
      rintro e w1 ⟨rfl, m, hw1⟩
      subst w1
      go_wp2_with fail
      go_ret
      exact ⟨rfl, below_drewN (by go_grown) _⟩
theorem spec_width (x y : Nat) (w : World) :
    Calls Try.prog 53 #[pv x y] w fun e w' => e = .returned (.float .f64 (widW x y)) ∧ Below w.heap.size w w' := by
  have h := fun w => l07fine x y w
  have hno : widB x y = false → widW x y = 13830554455654793216 := fun hb => by unfold widW; rw [hb]; rfl
  have hsub := fun hb : widB x y = true => fun w => run_float_arith (P := Try.prog) w .sub 28 .f64 _ _ _ (wid_sub hb)
  have hnan : widB x y = true → isNaN single x = false ∧ isNaN single y = false := fun hb => by
    unfold widB at hb
    rw [Bool.and_eq_true] at hb
    obtain ⟨n1, n2, _⟩ := le_iff.1 hb.1
    exact ⟨n1, n2⟩
  cases hb : widB x y
  · rw [hno hb]
    rw [hb] at h
    clear hno hsub hb hnan
    unfold pv at h ⊢
    go_enter Try.func53, Try.ntmps53
    go_wp2_with fail
    refine (h _).mono ?_
    rintro e w1 ⟨rfl, hb1⟩
    have H1 := Lib.hid (Below.trans (show Below w.heap.size w _ by go_grown) (hb1.mono (by simp)))
    clear hb1
    go_wp2_with fail
    go_ret
    exact ⟨rfl, H1.out⟩
  · have ks := hsub hb
    have kx := run_wid (hnan hb).1
    have ky := run_wid (hnan hb).2
    rw [hb] at h
    clear hno hsub hb hnan
    unfold pv at h ⊢
    generalize widen x = p at *
    generalize widen y = q at *
    generalize widW x y = d at *
    go_enter Try.func53, Try.ntmps53
    go_wp2_with fail
    refine (h _).mono ?_
    rintro e w1 ⟨rfl, hb1⟩
    have H1 := Lib.hid (Below.trans (show Below w.heap.size w _ by go_grown) (hb1.mono (by simp)))
    have d0 : w1.cell? ⟨w.heap.size, 0, none⟩ = some (.float .f32 x) := by rw [hb1.cell (by simp)]; go_cell
    have d1 : w1.cell? ⟨w.heap.size, 1, none⟩ = some (.float .f32 y) := by rw [hb1.cell (by simp)]; go_cell
    clear hb1
    go_wp2_with fail
    go_ret
    exact ⟨rfl, H1.out⟩
end Go.Proofs.Ytjmmcpeknaaaiaa.Spn

namespace Go.Proofs.Ytjmmcpeknaaaiaa.Spn
open Go.ChangeShapes Go.WideShapes Go.ChangeAt Go.RowKit Go.Deep Go.Proofs.Ytjmmcpeknaaaiaa Go.Proofs.Ytjmmcpeknaaaiaa.Flt Go.Proofs.Ytjmmcpeknaaaiaa.Mth
open Ieee (single double)
set_option linter.unusedVariables false
set_option linter.unusedSimpArgs false
theorem ltD_iff {x y : Nat} : ltD x y = true ↔ isNaN double x = false ∧ isNaN double y = false ∧ sv double x < sv double y := by
  unfold ltD
  rw [lt64]
  unfold ltW
  cases isNaN double x <;> cases isNaN double y <;> simp
theorem gtD_iff {x y : Nat} : gtD x y = true ↔ isNaN double x = false ∧ isNaN double y = false ∧ sv double y < sv double x := by
  unfold gtD
  rw [gt64]
  unfold ltW
  cases isNaN double x <;> cases isNaN double y <;> simp
def four (p0 p1 p2 p3 : Nat) : Nat → Nat := fun i => if i = 0 then p0 else if i = 1 then p1 else if i = 2 then p2 else p3
theorem least_all {X : Nat → Nat} : ∀ n, (∀ i, i < n + 1 → isNaN double (X i) = false) → (∃ i, i < n + 1 ∧ outF ltD X (n + 1) = X i) ∧ ∀ i, i < n + 1 → sv double (outF ltD X (n + 1)) ≤ sv double (X i)
  | 0, h => by
    have e : outF ltD X (0 + 1) = X 0 := rfl
    refine ⟨⟨0, by omega, e⟩, fun i hi => ?_⟩
    obtain rfl : i = 0 := by omega
    rw [e]; exact Int.le_refl _
  | n + 1, h => by
    obtain ⟨⟨j, hj, ej⟩, hle⟩ := least_all n (fun i hi => h i (by omega))
    have e : outF ltD X (n + 1 + 1) = if ltD (X (n + 1)) (outF ltD X (n + 1)) = true then X (n + 1) else outF ltD X (n + 1) := by
      show (if (decide (n + 1 = 0) || _) = true then _ else _) = _
      rw [decide_eq_false (by omega), Bool.false_or]
    rw [e]
    by_cases k : ltD (X (n + 1)) (outF ltD X (n + 1)) = true
    · rw [if_pos k]
      refine ⟨⟨n + 1, by omega, rfl⟩, fun i hi => ?_⟩
      by_cases hi' : i < n + 1
      · have := hle i hi'
        have := (ltD_iff.1 k).2.2
        omega
      · obtain rfl : i = n + 1 := by omega
        exact Int.le_refl _
    · rw [if_neg k]
      refine ⟨⟨j, by omega, ej⟩, fun i hi => ?_⟩
      by_cases hi' : i < n + 1
      · exact hle i hi'
      · obtain rfl : i = n + 1 := by omega
        rcases Int.lt_or_le (sv double (X (n + 1))) (sv double (outF ltD X (n + 1))) with c | c
        · exact absurd (ltD_iff.2 ⟨h _ (by omega), by rw [ej]; exact h j (by omega), c⟩) k
        · exact c
theorem great_all {X : Nat → Nat} : ∀ n, (∀ i, i < n + 1 → isNaN double (X i) = false) → (∃ i, i < n + 1 ∧ outF gtD X (n + 1) = X i) ∧ ∀ i, i < n + 1 → sv double (X i) ≤ sv double (outF gtD X (n + 1))
  | 0, h => by
    have e : outF gtD X (0 + 1) = X 0 := rfl
    refine ⟨⟨0, by omega, e⟩, fun i hi => ?_⟩
    obtain rfl : i = 0 := by omega
    rw [e]; exact Int.le_refl _
  | n + 1, h => by
    obtain ⟨⟨j, hj, ej⟩, hle⟩ := great_all n (fun i hi => h i (by omega))
    have e : outF gtD X (n + 1 + 1) = if gtD (X (n + 1)) (outF gtD X (n + 1)) = true then X (n + 1) else outF gtD X (n + 1) := by
      show (if (decide (n + 1 = 0) || _) = true then _ else _) = _
      rw [decide_eq_false (by omega), Bool.false_or]
    rw [e]
    by_cases k : gtD (X (n + 1)) (outF gtD X (n + 1)) = true
    · rw [if_pos k]
      refine ⟨⟨n + 1, by omega, rfl⟩, fun i hi => ?_⟩
      by_cases hi' : i < n + 1
      · have := hle i hi'
        have := (gtD_iff.1 k).2.2
        omega
      · obtain rfl : i = n + 1 := by omega
        exact Int.le_refl _
    · rw [if_neg k]
      refine ⟨⟨j, by omega, ej⟩, fun i hi => ?_⟩
      by_cases hi' : i < n + 1
      · exact hle i hi'
      · obtain rfl : i = n + 1 := by omega
        rcases Int.lt_or_le (sv double (outF gtD X (n + 1))) (sv double (X (n + 1))) with c | c
        · exact absurd (gtD_iff.2 ⟨h _ (by omega), by rw [ej]; exact h j (by omega), c⟩) k
        · exact c
/-- what four products of small ends come to -/
structure Prods (a b c d p0 p1 p2 p3 l h : Nat) : Prop where
  e0 : floatBits .mul .f64 (widen a) (widen c) = some p0
  e1 : floatBits .mul .f64 (widen a) (widen d) = some p1
  e2 : floatBits .mul .f64 (widen b) (widen c) = some p2
  e3 : floatBits .mul .f64 (widen b) (widen d) = some p3
  hl : outF ltD (four p0 p1 p2 p3) 4 = l
  hh : outF gtD (four p0 p1 p2 p3) 4 = h
  gl : Gd l
  gh : Gd h
  le : leB (rdW l) (ruW h) = true
  held : ∀ x y : Nat, x < 4294967296 → isNaN single x = false → y < 4294967296 → isNaN single y = false → hdB a b (widen x) = true → hdB c d (widen y) = true → ∃ r, floatBits .mul .f64 (widen x) (widen y) = some r ∧ hdB (rdW l) (ruW h) r = true
theorem mul_pack {a b c d : Nat} (ha : Sm a) (hb : Sm b) (hc : Sm c) (hd : Sm d) : ∃ p0 p1 p2 p3 l h : Nat, Prods a b c d p0 p1 p2 p3 l h := by
  obtain ⟨p0, e0, w0, n0, i0, v0, f0⟩ := sm_mul ha hc
  obtain ⟨p1, e1, w1, n1, i1, v1, f1⟩ := sm_mul ha hd
  obtain ⟨p2, e2, w2, n2, i2, v2, f2⟩ := sm_mul hb hc
  obtain ⟨p3, e3, w3, n3, i3, v3, f3⟩ := sm_mul hb hd
  have b0 := mul_bd ha hc v0
  have b1 := mul_bd ha hd v1
  have b2 := mul_bd hb hc v2
  have b3 := mul_bd hb hd v3
  have g0 : Gd p0 := ⟨w0, i0, f0⟩
  have g1 : Gd p1 := ⟨w1, i1, f1⟩
  have g2 : Gd p2 := ⟨w2, i2, f2⟩
  have g3 : Gd p3 := ⟨w3, i3, f3⟩
  have key : ∀ i, i < 3 + 1 → isNaN double (four p0 p1 p2 p3 i) = false ∧ Gd (four p0 p1 p2 p3 i) ∧ Bd (four p0 p1 p2 p3 i) := fun i hi => by
    rcases (show i = 0 ∨ i = 1 ∨ i = 2 ∨ i = 3 by omega) with rfl | rfl | rfl | rfl
    · exact ⟨n0, g0, b0⟩
    · exact ⟨n1, g1, b1⟩
    · exact ⟨n2, g2, b2⟩
    · exact ⟨n3, g3, b3⟩
  obtain ⟨⟨il, hil, el⟩, hle⟩ := least_all 3 (fun i hi => (key i hi).1)
  obtain ⟨⟨ih, hih, eh⟩, hge⟩ := great_all 3 (fun i hi => (key i hi).1)
  have l0 : sv double (outF ltD (four p0 p1 p2 p3) 4) ≤ sv double p0 := hle 0 (by omega)
  have l1 : sv double (outF ltD (four p0 p1 p2 p3) 4) ≤ sv double p1 := hle 1 (by omega)
  have l2 : sv double (outF ltD (four p0 p1 p2 p3) 4) ≤ sv double p2 := hle 2 (by omega)
  have l3 : sv double (outF ltD (four p0 p1 p2 p3) 4) ≤ sv double p3 := hle 3 (by omega)
  have h0 : sv double p0 ≤ sv double (outF gtD (four p0 p1 p2 p3) 4) := hge 0 (by omega)
  have h1 : sv double p1 ≤ sv double (outF gtD (four p0 p1 p2 p3) 4) := hge 1 (by omega)
  have h2 : sv double p2 ≤ sv double (outF gtD (four p0 p1 p2 p3) 4) := hge 2 (by omega)
  have h3 : sv double p3 ≤ sv double (outF gtD (four p0 p1 p2 p3) 4) := hge 3 (by omega)
  have kl : Gd (outF ltD (four p0 p1 p2 p3) 4) ∧ Bd (outF ltD (four p0 p1 p2 p3) 4) := by
    rw [show outF ltD (four p0 p1 p2 p3) 4 = four p0 p1 p2 p3 il from el]; exact (key il hil).2
  have kh : Gd (outF gtD (four p0 p1 p2 p3) 4) ∧ Bd (outF gtD (four p0 p1 p2 p3) 4) := by
    rw [show outF gtD (four p0 p1 p2 p3) 4 = four p0 p1 p2 p3 ih from eh]; exact (key ih hih).2
  clear el eh hle hge key
  obtain ⟨l, hl⟩ : ∃ l, outF ltD (four p0 p1 p2 p3) 4 = l := ⟨_, rfl⟩
  obtain ⟨h, hh⟩ : ∃ h, outF gtD (four p0 p1 p2 p3) 4 = h := ⟨_, rfl⟩
  rw [hl] at l0 l1 l2 l3 kl
  rw [hh] at h0 h1 h2 h3 kh
  have pp : (0 : Int) ≤ ((PV : Nat) : Int) := Int.natCast_nonneg _
  have q := fun {x y : Int} (e : x ≤ y) => Int.mul_le_mul_of_nonneg_right e pp
  refine ⟨p0, p1, p2, p3, l, h, e0, e1, e2, e3, hl, hh, kl.1, kh.1, (out_vs kl.2 kh.2 (Int.le_trans l0 h0)).ok, ?_⟩
  intro x y wx nx wy ny k1 k2
  exact prod_held ha hb hc hd wx nx wy ny kl.2 kh.2 (by rw [← v0]; exact q l0) (by rw [← v1]; exact q l1) (by rw [← v2]; exact q l2) (by rw [← v3]; exact q l3) (by rw [← v0]; exact q h0) (by rw [← v1]; exact q h1) (by rw [← v2]; exact q h2) (by rw [← v3]; exact q h3) k1 k2
/-- what two sums of small ends come to -/
structure Sums (a b c d l h : Nat) : Prop where
  e0 : floatBits .add .f64 (widen a) (widen c) = some l
  e1 : floatBits .add .f64 (widen b) (widen d) = some h
  gl : Gd l
  gh : Gd h
  le : leB (rdW l) (ruW h) = true
  held : ∀ x y : Nat, x < 4294967296 → isNaN single x = false → y < 4294967296 → isNaN single y = false → hdB a b (widen x) = true → hdB c d (widen y) = true → ∃ r, floatBits .add .f64 (widen x) (widen y) = some r ∧ hdB (rdW l) (ruW h) r = true
theorem add_pack {a b c d : Nat} (ha : Sm a) (hb : Sm b) (hc : Sm c) (hd : Sm d) (h1 : vW a ≤ vW b) (h2 : vW c ≤ vW d) : ∃ l h : Nat, Sums a b c d l h := by
  obtain ⟨l, e0, w0, n0, i0, v0, f0⟩ := sm_add ha hc
  obtain ⟨h, e1, w1, n1, i1, v1, f1⟩ := sm_add hb hd
  refine ⟨l, h, e0, e1, ⟨w0, i0, f0⟩, ⟨w1, i1, f1⟩, (out_vs (add_bd ha hc v0) (add_bd hb hd v1) ?_).ok, ?_⟩
  · rw [v0, v1]; exact rnd_monoD (by omega)
  · intro x y wx nx wy ny k1 k2
    exact sum_held ha hb hc hd wx nx wy ny v0 v1 k1 k2
/-- the negative of a span is as wide -/
theorem wid_neg {a b : Nat} (ha : Sm a) (hb : Sm b) (h : vW a ≤ vW b) : (FloatKind.f64.format.order (widW (Op.negFloat .f32 b) (Op.negFloat .f32 a)) (widW a b) != some .eq) = false := by
  have hl : leB a b = true := (le_fn ha.fn hb.fn).2 h
  have w1 : widB a b = true := by unfold widB; rw [hl, ha.fn, hb.fn]; rfl
  have w2 : widB (Op.negFloat .f32 b) (Op.negFloat .f32 a) = true := by unfold widB; rw [neg_le ha.1 hb.1, hl, hb.neg.fn, ha.neg.fn]; rfl
  have s1 := wid_sub w1
  have s2 := wid_sub w2
  obtain ⟨r1, e1, _, n1, _, v1⟩ := sub_valD (wid_rung hb.fn) (wid_rung ha.fn)
  obtain ⟨r2, e2, _, n2, _, v2⟩ := sub_valD (wid_rung ha.neg.fn) (wid_rung hb.neg.fn)
  rw [e1] at s1
  rw [e2] at s2
  rw [← Option.some.inj s1, ← Option.some.inj s2, ne64]
  unfold eqW
  rw [n1, n2, v1, v2]
  have x1 : sv double (widen (Op.negFloat .f32 a)) = - vW a := ng_vW ha.1 ha.fn
  have x2 : sv double (widen (Op.negFloat .f32 b)) = - vW b := ng_vW hb.1 hb.fn
  have x3 : sv double (widen a) = vW a := rfl
  have x4 : sv double (widen b) = vW b := rfl
  rw [x1, x2, x3, x4, show (-vW a - -vW b) = vW b - vW a by omega]
  simp
end Go.Proofs.Ytjmmcpeknaaaiaa.Spn

namespace Go.Proofs.Ytjmmcpeknaaaiaa.Spn
open Go.ChangeShapes Go.WideShapes Go.ChangeAt Go.RowKit Go.Deep Go.Proofs.Ytjmmcpeknaaaiaa Go.Proofs.Ytjmmcpeknaaaiaa.Flt Go.Proofs.Ytjmmcpeknaaaiaa.Mth
open Ieee (single double)
set_option linter.unusedVariables false
set_option linter.unusedSimpArgs false
set_option maxRecDepth 20000
theorem four_lst {p0 p1 p2 p3 k : Nat} {w : World} {T : TypeId} (h : Blk w k #[.float .f64 p0, .float .f64 p1, .float .f64 p2, .float .f64 p3] T) : LstD w (some ⟨k, 0, none⟩) 4 (four p0 p1 p2 p3) := by
  refine .inr ⟨k, 0, rfl, h.lt, fun i hi => ?_⟩
  rcases (show i = 0 ∨ i = 1 ∨ i = 2 ∨ i = 3 by omega) with rfl | rfl | rfl | rfl
  · exact h.cell 0 rfl
  · exact h.cell 1 rfl
  · exact h.cell 2 rfl
  · exact h.cell 3 rfl
theorem least4 {p0 p1 p2 p3 l : Nat} (hl : outF ltD (four p0 p1 p2 p3) 4 = l) (k : Nat) (w : World) {T : TypeId} (h : Blk w k #[.float .f64 p0, .float .f64 p1, .float .f64 p2, .float .f64 p3] T) :
    Calls Try.prog 102 #[.slice (some ⟨k, 0, none⟩) 4 4] w fun e w' => e = .returned (.float .f64 l) ∧ w' = w := by
  rw [← hl]
  exact least_anyD _ 4 4 _ w (by omega) (four_lst h)
theorem great4 {p0 p1 p2 p3 l : Nat} (hl : outF gtD (four p0 p1 p2 p3) 4 = l) (k : Nat) (w : World) {T : TypeId} (h : Blk w k #[.float .f64 p0, .float .f64 p1, .float .f64 p2, .float .f64 p3] T) :
    Calls Try.prog 103 #[.slice (some ⟨k, 0, none⟩) 4 4] w fun e w' => e = .returned (.float .f64 l) ∧ w' = w := by
  rw [← hl]
  exact greatest_anyD _ 4 4 _ w (by omega) (four_lst h)
theorem Blk.three {w : World} {A x y : Nat} {b : Bool} {T : TypeId} (h : Blk w A #[.float .f32 x, .float .f32 y, .bool b] T) (x' y' : Nat) (b' : Bool) :
    (((w.setCell ⟨A, 0, none⟩ (.float .f32 x')).setCell ⟨A, 1, none⟩ (.float .f32 y')).setCell ⟨A, 2, none⟩ (.bool b')).cell? ⟨A, 0, none⟩ = some (.float .f32 x') ∧
    (((w.setCell ⟨A, 0, none⟩ (.float .f32 x')).setCell ⟨A, 1, none⟩ (.float .f32 y')).setCell ⟨A, 2, none⟩ (.bool b')).cell? ⟨A, 1, none⟩ = some (.float .f32 y') ∧
    (((w.setCell ⟨A, 0, none⟩ (.float .f32 x')).setCell ⟨A, 1, none⟩ (.float .f32 y')).setCell ⟨A, 2, none⟩ (.bool b')).cell? ⟨A, 2, none⟩ = some (.bool b') := by
  have h2 : Blk (((w.setCell ⟨A, 0, none⟩ (.float .f32 x')).setCell ⟨A, 1, none⟩ (.float .f32 y')).setCell ⟨A, 2, none⟩ (.bool b')) A #[.float .f32 x', .float .f32 y', .bool b'] T := ((h.set 0 (.float .f32 x')).set 1 (.float .f32 y')).set 2 (.bool b')
  exact ⟨h2.cell 0 rfl, h2.cell 1 rfl, h2.cell 2 rfl⟩
set_option maxHeartbeats 4000000 in
theorem mulints_any (a b c d p0 p1 p2 p3 l h : Nat) (w : World) (sa : Sm a) (sb : Sm b) (sc : Sm c) (sd : Sm d) (X : Prods a b c d p0 p1 p2 p3 l h) :
    Calls Try.prog 74 #[ivv a b true, ivv c d true] w fun e w' => e = .returned (ivv (rdW l) (ruW h) (leB (rdW l) (ruW h))) ∧ Below w.heap.size w w' := by
  have f1 := fun w => finite_any a b w (fn_num sa.fn) (fn_num sb.fn)
  have f2 := fun w => finite_any c d w (fn_num sc.fn) (fn_num sd.fn)
  rw [sa.fn, sb.fn] at f1
  rw [sc.fn, sd.fn] at f2
  simp only [Bool.and_self] at f1 f2
  have hp := fun w => prods_any a b c d (widen a) (widen b) (widen c) (widen d) p0 p1 p2 p3 w (run_wid (fn_num sa.fn)) (run_wid (fn_num sb.fn)) (run_wid (fn_num sc.fn)) (run_wid (fn_num sd.fn))
    (fun w => run_float_arith (P := Try.prog) w .mul 28 .f64 _ _ _ X.e0) (fun w => run_float_arith (P := Try.prog) w .mul 28 .f64 _ _ _ X.e1) (fun w => run_float_arith (P := Try.prog) w .mul 28 .f64 _ _ _ X.e2) (fun w => run_float_arith (P := Try.prog) w .mul 28 .f64 _ _ _ X.e3)
  have c1 := Lib.hid (fun k w (hB : Blk w k #[.float .f64 p0, .float .f64 p1, .float .f64 p2, .float .f64 p3] 106) => least4 X.hl k w hB)
  have c2 := Lib.hid (fun k w (hB : Blk w k #[.float .f64 p0, .float .f64 p1, .float .f64 p2, .float .f64 p3] 106) => great4 X.hh k w hB)
  have co := fun w => outward_any l h w X.gl X.gh
  clear X sa sb sc sd
  generalize leB (rdW l) (ruW h) = ok at *
  generalize rdW l = p at *
  generalize ruW h = q at *
  unfold ivv at hp co ⊢
  go_enter Try.func74, Try.ntmps74
  go_wp2_with fail
  refine (f1 _).mono ?_
  rintro e w1 ⟨rfl, rfl⟩
  go_wp2_with fail
  refine (f2 _).mono ?_
  rintro e w1 ⟨rfl, rfl⟩
  go_wp2_with fail
  obtain ⟨w0, hw0⟩ : ∃ w0, w0 = ((((w.alloc (.cells #[.float .f32 a, .float .f32 b, .bool true] 76)).alloc (.cells #[.float .f32 c, .float .f32 d, .bool true] 76)).alloc (.cells #[.float .f32 0, .float .f32 0, .bool false] 76)).alloc (.cells #[.float .f32 a, .float .f32 b] 74)).alloc (.cells #[.float .f32 c, .float .f32 d] 74) := ⟨_, rfl⟩
  have Hb0 := Lib.hid (show Below w.heap.size w w0 by rw [hw0]; go_grown)
  have Hr0 := Lib.hid (show Blk w0 (w.heap.size + 1 + 1) #[.float .f32 0, .float .f32 0, .bool false] 76 by rw [hw0]; exact ((Blk.new (by simp)).alloc _).alloc _)
  rw [← hw0]
  clear hw0 f1 f2
  refine (hp _).mono ?_
  rintro e w1 ⟨rfl, hb1⟩
  have Hr1 := Lib.hid (Hr0.out.keep hb1)
  have Hb1 := Lib.hid (Hb0.out.trans (hb1.mono Hb0.out.size))
  clear hb1 hp
  go_wp2_with fail
  obtain ⟨w2, hw2⟩ : ∃ w2, w2 = w1.alloc (.cells #[.float .f64 p0, .float .f64 p1, .float .f64 p2, .float .f64 p3] 106) := ⟨_, rfl⟩
  have Hb2 := Lib.hid (show Below w.heap.size w w2 by rw [hw2]; exact Below.alloc Hb1.out Hb1.out.size _)
  have Hr2 := Lib.hid (show Blk w2 (w.heap.size + 1 + 1) #[.float .f32 0, .float .f32 0, .bool false] 76 by rw [hw2]; exact Hr1.out.alloc _)
  have Hs2 := Lib.hid (show Blk w2 w1.heap.size #[.float .f64 p0, .float .f64 p1, .float .f64 p2, .float .f64 p3] 106 by rw [hw2]; exact Blk.new rfl)
  rw [← hw2]
  clear hw2
  generalize w1.heap.size = S at *
  go_region_with (first
    | (go_at_call 102; (with_reducible refine (c1.out _ _ ?_).mono ?_); (focus (exact Hs2.out)); rintro e w9 ⟨rfl, hw9⟩; subst w9)
    | (go_at_call 103; (with_reducible refine (c2.out _ _ ?_).mono ?_); (focus (exact Hs2.out)); rintro e w9 ⟨rfl, hw9⟩; subst w9)
    | (go_at_call 100; (with_reducible refine (co _).mono ?_); rintro e w9 ⟨rfl, hw9⟩; have Hr9 := Lib.hid (show Blk w9 (w.heap.size + 1 + 1) #[.float .f32 0, .float .f32 0, .bool false] 76 by rw [hw9]; exact (Blk.alloc (Blk.alloc Hr2.out _) _)); have Hb9 := Lib.hid (show Below w.heap.size w w9 by rw [hw9]; exact Below.trans (Below.drew Hb2.out) (Below.mono (by go_grown) Hb2.out.size)); have t0 := Hr9.out.cell 0 rfl; have t1 := Hr9.out.cell 1 rfl; have t2 := Hr9.out.cell 2 rfl; have z0 := Hr9.out.free 0; have z1 := Hr9.out.free 1; have z2 := Hr9.out.free 2; clear hw9))
  all_goals
    go_wp2_with fail
    obtain ⟨d0, d1, d2⟩ := Hr9.out.three p q ok
    refine bodyPost_ret (by simp [results, Try.results74, go_sem, d0, d1, d2]; try rfl) rfl ?_
    refine ⟨rfl, ?_⟩
    exact (((Hb9.out.setCell (by simp; omega) _).setCell (by simp; omega) _).setCell (by simp; omega) _)
theorem ent_mulints : ∀ args w, (callFunc 74 args).run Try.prog w = .ok (.enter 74 args) w := ent _ _ _ Try.func74 (by kernel_rfl) rfl
theorem impl_mul (a b c d p0 p1 p2 p3 l h : Nat) (w : World) (sa : Sm a) (sb : Sm b) (sc : Sm c) (sd : Sm d) (X : Prods a b c d p0 p1 p2 p3 l h)
    (h1 : leB a b = true) (h2 : leB c d = true) :
    Calls Try.prog 32 #[pv a b, pv c d] w fun e w' => e = .returned (.tuple #[pv (rdW l) (ruW h), .bool true]) ∧ Below w.heap.size w w' := by
  have h3 := X.le
  have hc := fun w => combined_any _ ent_mulints a b c d (rdW l) (ruW h) (leB (rdW l) (ruW h)) w (fun _ _ w => mulints_any a b c d p0 p1 p2 p3 l h w sa sb sc sd X)
  rw [h1, h2, h3] at hc
  clear h1 h2 h3 X sa sb sc sd
  generalize rdW l = p at *
  generalize ruW h = q at *
  change ∀ w, Calls Try.prog 72 #[pv a b, pv c d, .func (.func 74) #[] #[]] w fun e w' => e = .returned (.tuple #[pv p q, .bool true]) ∧ Below w.heap.size w w' at hc
  unfold pv at hc ⊢
  go_enter Try.func32, Try.ntmps32
  go_wp2_with fail
  obtain ⟨w0, hw0⟩ : ∃ w0, w0 = ((w.alloc (.cells #[.float .f32 a, .float .f32 b] 32)).alloc (.cells #[.float .f32 c, .float .f32 d] 32)).alloc (.cells #[.float .f32 0, .float .f32 0] 32) := ⟨_, rfl⟩
  have Hb0 := Lib.hid (show Below w.heap.size w w0 by rw [hw0]; go_grown)
  have Hr0 := Lib.hid (show Blk w0 (w.heap.size + 1 + 1) #[.float .f32 0, .float .f32 0] 32 by rw [hw0]; exact Blk.new (by simp))
  rw [← hw0]
  clear hw0
  refine (hc _).mono ?_
  rintro e w1 ⟨rfl, hb1⟩
  have Hr1 := Lib.hid (Hr0.out.keep hb1)
  have Hb1 := Lib.hid (Hb0.out.trans (hb1.mono Hb0.out.size))
  have t0 := Hr1.out.cell 0 rfl
  have t1 := Hr1.out.cell 1 rfl
  have z0 := Hr1.out.free 0
  have z1 := Hr1.out.free 1
  clear hb1
  go_wp2_with fail
  obtain ⟨d0, d1, _⟩ := Hr1.out.two p q
  refine bodyPost_ret (by simp [results, Try.results32, go_sem, d0, d1]; try rfl) rfl ?_
  refine ⟨rfl, ?_⟩
  exact (Hb1.out.setCell (by simp; omega) _).setCell (by simp; omega) _
end Go.Proofs.Ytjmmcpeknaaaiaa.Spn

namespace Go.Proofs.Ytjmmcpeknaaaiaa.fnContained
open Go.ChangeShapes Go.WideShapes Go.ChangeAt Go.RowKit Go.Deep Go.Proofs.Ytjmmcpeknaaaiaa Go.Proofs.Ytjmmcpeknaaaiaa.Flt Go.Proofs.Ytjmmcpeknaaaiaa.Mth Go.Proofs.Ytjmmcpeknaaaiaa.Spn
open Ieee (single double)
set_option linter.unusedVariables false
set_option linter.unusedSimpArgs false
set_option maxRecDepth 20000
/-- the two drawn spans in memory -/
structure R2 (w : World) (P a b c d : Nat) (wr : World) : Prop where
  low : Below w.heap.size w wr
  bp : Blk wr P #[.float .f32 a, .float .f32 b] 32
  bq : Blk wr (P + 1) #[.float .f32 c, .float .f32 d] 32
theorem R2.keep {w : World} {P a b c d : Nat} {wr w' : World} (x : R2 w P a b c d wr) (hb : Below wr.heap.size wr w') : R2 w P a b c d w' :=
  ⟨x.low.trans (hb.mono x.low.size), x.bp.keep hb, x.bq.keep hb⟩
theorem R2.alloc {w : World} {P a b c d : Nat} {wr : World} (x : R2 w P a b c d wr) (o : Obj) : R2 w P a b c d (wr.alloc o) :=
  ⟨Below.alloc x.low x.low.size _, x.bp.alloc _, x.bq.alloc _⟩
theorem R2.start {w w1 : World} {a b c d : Nat} (h : Below w.heap.size w w1) :
    R2 w w1.heap.size a b c d ((w1.alloc (.cells #[.float .f32 a, .float .f32 b] 32)).alloc (.cells #[.float .f32 c, .float .f32 d] 32)) :=
  ⟨Below.alloc (Below.alloc h h.size _) (by have := h.size; simp; omega) _, Blk.alloc (Blk.new rfl) _, Blk.new (by simp)⟩
/-- and the sum, the product and the negative -/
structure R5 (w : World) (P R S T a b c d s0 s1 m0 m1 n0 n1 : Nat) (wr : World) : Prop where
  two : R2 w P a b c d wr
  br : Blk wr R #[.float .f32 s0, .float .f32 s1] 32
  bs : Blk wr S #[.float .f32 m0, .float .f32 m1] 32
  bt : Blk wr T #[.float .f32 n0, .float .f32 n1] 32
theorem R5.keep {w : World} {P R S T a b c d s0 s1 m0 m1 n0 n1 : Nat} {wr w' : World} (x : R5 w P R S T a b c d s0 s1 m0 m1 n0 n1 wr) (hb : Below wr.heap.size wr w') : R5 w P R S T a b c d s0 s1 m0 m1 n0 n1 w' :=
  ⟨x.two.keep hb, x.br.keep hb, x.bs.keep hb, x.bt.keep hb⟩
set_option maxHeartbeats 8000000 in
theorem walk (ad : Option Addr) (len cap : Nat) (zs : List Int) (w : World) (hr : IsRow .u8 w ad len cap zs) :
    Calls Try.prog 5 #[.slice ad len cap] w fun x w' => x = .returned (.bool true) ∧ Below w.heap.size w w' := by
  by_cases hl : (len : Int) ≤ 1048576
  · go_enter Try.func5, Try.ntmps5
    go_wp2_with fail
    refine (Drw.big_no _ _ _ _ hl).mono ?_
    rintro e w9 ⟨rfl, hw9⟩
    subst w9
    go_wp2_with fail
    refine (spans_any ad len cap zs _ hr).mono ?_
    rintro e w1 ⟨a, b, c, d, x, y, hab, hcd, hx, hy, rfl, hb1⟩
    obtain ⟨l, h, XS⟩ := add_pack hab.1 hab.2.1 hcd.1 hcd.2.1 hab.2.2 hcd.2.2
    obtain ⟨p0, p1, p2, p3, m, n, XP⟩ := mul_pack hab.1 hab.2.1 hcd.1 hcd.2.1
    have lab : leB a b = true := (le_fn hab.1.fn hab.2.1.fn).2 hab.2.2
    have lcd : leB c d = true := (le_fn hcd.1.fn hcd.2.1.fn).2 hcd.2.2
    have o1 : ∀ w, Calls Try.prog 30 #[pv a b] w fun e w' => e = .returned (.bool true) ∧ Below w.heap.size w w' := fun w => (impl_ok a b w).mono (fun e w' h => ⟨by rw [h.1, lab], by rw [h.2]; go_grown⟩)
    have o2 : ∀ w, Calls Try.prog 30 #[pv c d] w fun e w' => e = .returned (.bool true) ∧ Below w.heap.size w w' := fun w => (impl_ok c d w).mono (fun e w' h => ⟨by rw [h.1, lcd], by rw [h.2]; go_grown⟩)
    have hA := fun w => impl_add a b c d l h w hab.1 hab.2.1 hcd.1 hcd.2.1 XS.e0 XS.e1 XS.gl XS.gh lab lcd XS.le
    have hM := fun w => impl_mul a b c d p0 p1 p2 p3 m n w hab.1 hab.2.1 hcd.1 hcd.2.1 XP lab lcd
    have hN := fun w => impl_neg a b w hab.1.1 hab.2.1.1
    rw [show negS a b = (Op.negFloat .f32 b, Op.negFloat .f32 a) by unfold negS; rw [if_pos lab], lab] at hN
    have hW1 := fun w => impl_width (Op.negFloat .f32 b) (Op.negFloat .f32 a) w
    have hW2 := fun w => impl_width a b w
    have hW := wid_neg hab.1 hab.2.1 hab.2.2
    have kx := run_wid' hx.1
    have ky := run_wid' hy.1
    have hHa := fun w => impl_holds a b (widen x) w
    have hHb := fun w => impl_holds c d (widen y) w
    have hHs := fun v w => impl_holds (rdW l) (ruW h) v w
    have hHm := fun v w => impl_holds (rdW m) (ruW n) v w
    have hHn := fun w => impl_holds (Op.negFloat .f32 b) (Op.negFloat .f32 a) (Op.negFloat .f64 (widen x)) w
    have HS := Lib.hid (XS.held x y hx.2 hx.1 hy.2 hy.1)
    have HM := Lib.hid (XP.held x y hx.2 hx.1 hy.2 hy.1)
    have HN := Lib.hid (fun k : hdB a b (widen x) = true => neg_held hab.1 hab.2.1 (widen_wl x) k)
    have HB1 := Lib.hid (R2.start (a := a) (b := b) (c := c) (d := d) hb1)
    clear XS XP lab lcd hab hcd hx hy hb1 hr
    generalize rdW l = s0 at *
    generalize ruW h = s1 at *
    generalize rdW m = m0 at *
    generalize ruW n = m1 at *
    generalize widW (Op.negFloat .f32 b) (Op.negFloat .f32 a) = u1 at *
    generalize widW a b = u2 at *
    generalize widen x = v0 at *
    generalize widen y = v1 at *
    obtain ⟨nv, hnv⟩ : ∃ nv, nv = Op.negFloat .f64 v0 := ⟨_, rfl⟩
    rw [← hnv] at hHn HN
    generalize Op.negFloat .f32 b = n0 at *
    generalize Op.negFloat .f32 a = n1 at *
    unfold pv at o1 o2 hA hM hN hW1 hW2 hHa hHb hHs hHm hHn ⊢
    have HNV := Lib.hid hnv
    clear hnv
    go_wp2_with fail
    refine (o1 _).mono ?_
    rintro e w2 ⟨rfl, hb2⟩
    have HB2 := Lib.hid (HB1.out.keep hb2)
    clear hb2 HB1
    have a0 := HB2.out.bp.cell 0 rfl
    have a1 := HB2.out.bp.cell 1 rfl
    have q0 := HB2.out.bq.cell 0 rfl
    have q1 := HB2.out.bq.cell 1 rfl
    go_wp2_with fail
    refine (o2 _).mono ?_
    rintro e w3 ⟨rfl, hb3⟩
    have HB3 := Lib.hid (HB2.out.keep hb3)
    clear hb3 HB2 a0 a1 q0 q1
    have a0 := HB3.out.bp.cell 0 rfl
    have a1 := HB3.out.bp.cell 1 rfl
    have q0 := HB3.out.bq.cell 0 rfl
    have q1 := HB3.out.bq.cell 1 rfl
    go_wp2_with fail
    refine (hA _).mono ?_
    rintro e w4 ⟨rfl, hb4⟩
    have HB4 := Lib.hid (HB3.out.keep hb4)
    clear hb4 HB3 a0 a1 q0 q1
    have a0 := HB4.out.bp.cell 0 rfl
    have a1 := HB4.out.bp.cell 1 rfl
    have q0 := HB4.out.bq.cell 0 rfl
    have q1 := HB4.out.bq.cell 1 rfl
    have l0 := HB4.out.bp.lt
    have l1 := HB4.out.bq.lt
    go_wp2_with fail
    refine (hM _).mono ?_
    rintro e w5 ⟨rfl, hb5⟩
    have HB5 := Lib.hid (And.intro ((HB4.out.alloc _).keep hb5) (Blk.keep (R := w4.heap.size) (vs := #[.float .f32 s0, .float .f32 s1]) (T := 32) (Blk.new rfl) hb5))
    clear hb5 HB4 a0 a1 q0 q1 l0 l1
    have a0 := HB5.out.1.bp.cell 0 rfl
    have a1 := HB5.out.1.bp.cell 1 rfl
    have q0 := HB5.out.1.bq.cell 0 rfl
    have q1 := HB5.out.1.bq.cell 1 rfl
    have l0 := HB5.out.1.bp.lt
    have l1 := HB5.out.1.bq.lt
    generalize w4.heap.size = R at *
    go_wp2_with fail
    refine (hN _).mono ?_
    rintro e w6 ⟨rfl, hb6⟩
    have HB6 := Lib.hid (And.intro ((HB5.out.1.alloc _).keep hb6) (And.intro ((HB5.out.2.alloc _).keep hb6) (Blk.keep (R := w5.heap.size) (vs := #[.float .f32 m0, .float .f32 m1]) (T := 32) (Blk.new rfl) hb6)))
    clear hb6 HB5 a0 a1 q0 q1 l0 l1
    generalize w5.heap.size = S at *
    go_wp2_with fail
    obtain ⟨w7, hw7⟩ : ∃ w7, w7 = w6.alloc (.cells #[.float .f32 n0, .float .f32 n1] 32) := ⟨_, rfl⟩
    have HB7 := Lib.hid (show R5 w w1.heap.size R S w6.heap.size a b c d s0 s1 m0 m1 n0 n1 w7 by rw [hw7]; exact ⟨HB6.out.1.alloc _, HB6.out.2.1.alloc _, HB6.out.2.2.alloc _, Blk.new rfl⟩)
    rw [← hw7]
    clear hw7 HB6
    generalize w6.heap.size = T at *
    generalize w1.heap.size = P at *
    have c0 : ∀ n : Old w7, n.x.cell? ⟨P, 0, none⟩ = some (.float .f32 a) := fun n => (old_cell n HB7.out.two.bp.lt).trans (HB7.out.two.bp.cell 0 rfl)
    have c1 : ∀ n : Old w7, n.x.cell? ⟨P, 1, none⟩ = some (.float .f32 b) := fun n => (old_cell n HB7.out.two.bp.lt).trans (HB7.out.two.bp.cell 1 rfl)
    have c2 : ∀ n : Old w7, n.x.cell? ⟨T, 0, none⟩ = some (.float .f32 n0) := fun n => (old_cell n HB7.out.bt.lt).trans (HB7.out.bt.cell 0 rfl)
    have c3 : ∀ n : Old w7, n.x.cell? ⟨T, 1, none⟩ = some (.float .f32 n1) := fun n => (old_cell n HB7.out.bt.lt).trans (HB7.out.bt.cell 1 rfl)
    refine wp_region_old (by kernel_rfl) (by kernel_rfl) ?_
    repeat (go_big_quiet_step (first | (go_at_call 34; with_reducible exact old_call (hW1 _)) | (go_at_call 34; with_reducible exact old_call (hW2 _))))
    refine wpQuiet_nil ?_
    rintro _ ⟨k, rfl⟩
    have HB8 := Lib.hid (HB7.out.keep k.h)
    clear HB7 c0 c1 c2 c3
    generalize k.x = w8 at *
    have a0 := HB8.out.two.bp.cell 0 rfl
    have a1 := HB8.out.two.bp.cell 1 rfl
    have q0 := HB8.out.two.bq.cell 0 rfl
    have q1 := HB8.out.two.bq.cell 1 rfl
    go_wp2_with fail
    obtain ⟨pa, hpa⟩ : ∃ pa, hdB a b v0 = pa := ⟨_, rfl⟩
    obtain ⟨pb, hpb⟩ : ∃ pb, hdB c d v1 = pb := ⟨_, rfl⟩
    rw [hpa] at hHa HS HM HN
    rw [hpb] at hHb HS HM
    clear hpa hpb
    refine (hHa _).mono ?_
    rintro e w9 ⟨rfl, hb9⟩
    have HB9 := Lib.hid (HB8.out.keep hb9)
    clear hb9 HB8 a0 a1 q0 q1
    have q0 := HB9.out.two.bq.cell 0 rfl
    have q1 := HB9.out.two.bq.cell 1 rfl
    cases pa
    · clear HS HM HN
      go_wp2_with fail
      go_ret
      exact ⟨rfl, HB9.out.two.low⟩
    go_wp2_with fail
    refine (hHb _).mono ?_
    rintro e w10 ⟨rfl, hb10⟩
    have HB10 := Lib.hid (HB9.out.keep hb10)
    clear hb10 HB9 q0 q1
    cases pb
    · clear HS HM HN
      go_wp2_with fail
      go_ret
      exact ⟨rfl, HB10.out.two.low⟩
    obtain ⟨r, hr1, hr2⟩ := HS.out (by first | trivial | rfl) (by first | trivial | rfl)
    obtain ⟨t, ht1, ht2⟩ := HM.out (by first | trivial | rfl) (by first | trivial | rfl)
    have hn1 := HN.out (by first | trivial | rfl)
    clear HS HM HN
    replace hHs := fun w => hHs r w
    replace hHm := fun w => hHm t w
    rw [hr2] at hHs
    rw [ht2] at hHm
    rw [hn1] at hHn
    have ka := fun w => run_float_arith (P := Try.prog) w .add 28 .f64 _ _ _ hr1
    have km := fun w => run_float_arith (P := Try.prog) w .mul 28 .f64 _ _ _ ht1
    have hnv := HNV.out
    clear hr1 hr2 ht1 ht2 hn1 HNV
    have a0 := HB10.out.br.cell 0 rfl
    have a1 := HB10.out.br.cell 1 rfl
    go_wp2_with fail
    refine (hHs _).mono ?_
    rintro e w11 ⟨rfl, hb11⟩
    have HB11 := Lib.hid (HB10.out.keep hb11)
    clear hb11 HB10 a0 a1
    have a0 := HB11.out.bs.cell 0 rfl
    have a1 := HB11.out.bs.cell 1 rfl
    go_wp2_with fail
    refine (hHm _).mono ?_
    rintro e w12 ⟨rfl, hb12⟩
    have HB12 := Lib.hid (HB11.out.keep hb12)
    clear hb12 HB11 a0 a1
    have a0 := HB12.out.bt.cell 0 rfl
    have a1 := HB12.out.bt.cell 1 rfl
    subst nv
    go_wp2_with fail
    refine (hHn _).mono ?_
    rintro e w13 ⟨rfl, hb13⟩
    have HB13 := Lib.hid (HB12.out.keep hb13)
    clear hb13 HB12 a0 a1
    go_wp2_with fail
    go_ret
    exact ⟨rfl, HB13.out.two.low⟩
  · go_enter Try.func5, Try.ntmps5
    go_wp2_with fail
    refine (Drw.big_yes _ _ _ _ (by omega)).mono ?_
    rintro e w9 ⟨rfl, hw9⟩
    subst w9
    go_wp2_with fail
    go_ret
    exact ⟨rfl, Below.refl _ _⟩
end Go.Proofs.Ytjmmcpeknaaaiaa.fnContained

namespace Go.Proofs.Ytjmmcpeknaaaiaa.fnContained
open Go.ChangeShapes Go.WideShapes Go.ChangeAt Go.RowKit
open Go.ChangeMaps (open_string shut_string)
set_option linter.unusedVariables false

theorem own : ownKnob Try.prog.godebug = none := by kernel_rfl
theorem laidOut : laidOutB Try.prog = true := by kernel_rfl

set_option maxRecDepth 100000 in
theorem lifted (os : Os) (started : os.Started) (H : Type) (enc : TypeId × Value → H) :
    ReturnsInHanded {} Try.checked os 5 .any (Rows.fnContainedSpec.pre6 enc Try.prog Try.f5 Rows.fnContainedRow.domain false) (Rows.fnContainedSpec.post enc Try.prog Try.f5 false true false false) := by
  refine returnsInHanded_of_change (C := Try.checked) own started (by kernel_rfl) Try.func5
    (ChangeSpec.witness6 (enc := enc) (C := Try.checked) false ⟨#[], #[.slice none 0 0], []⟩ 8 (by kernel_rfl) (by kernel_rfl) (by kernel_rfl) (by kernel_rfl)) ?_
  intro W base args ds gs before hval0 hW hcnd _
  have hval : ∀ (j : Nat) t v, Try.f5.params[j]? = some t → args[j]? = some v → Value.okWide Try.prog W .any base t v := hval0
  have hW' := hW
  obtain ⟨p, q, hA0, hV, rfl, hfz, hnd⟩ := hW
  have hA : DataW.TrodAll enc Try.prog W 0 (fun _ => true) true Try.f5.params.toList args.toList ds p := hA0
  rw [Try.params5] at hA hval
  obtain ⟨v0, vs0, d0, ds0, p0, q0, hargs, rfl, rfl, h0, r0⟩ := trodAll_cons hA
  obtain ⟨rfl, rfl, rfl⟩ := trodAll_nil r0
  obtain rfl : args = #[v0] := by cases args; simp_all
  obtain ⟨rfl, rfl⟩ := trodVars_none hV
  obtain ⟨a0, len0, cap0, rfl⟩ := okWide_slice Try.underlying22 (hval 0 22 v0 rfl rfl)
  have k0 := h0
  have lt0 : ∀ x ∈ p0, x.block < W.heap.size := by obtain ⟨m, hm⟩ := k0; exact DataW.trod_lt m _ _ _ hm
  obtain ⟨z0, w0⟩ : ∃ zs, IsRow .u8 W a0 len0 cap0 zs := by
    obtain ⟨fuel, hf⟩ := h0
    rcases open_ints Try.underlying22 Try.underlying5 (by kernel_rfl) hf with ⟨hcs, _⟩ | ⟨x, l, c, zs, hcs, _, hl, hm, hz, _, hcell, hwz⟩
    · simp [Value.cells] at hcs
      obtain ⟨rfl, rfl, rfl⟩ := hcs
      exact ⟨[], .inl ⟨rfl, rfl, rfl, rfl⟩⟩
    · simp [Value.cells] at hcs
      obtain ⟨rfl, rfl, rfl⟩ := hcs
      exact ⟨zs, .inr ⟨_, rfl, hl, hm, by simpa using hz, hcell, hwz⟩⟩
  clear hA0 hval0
  refine (walk a0 len0 cap0 z0 W w0).mono fun e W' ⟨he, bel⟩ => ?_
  subst he
  exact ⟨_, rfl, _, _, _, [], _, [], hW', trodAll_mk1 (shut_bool Try.underlying4 _), (trodAll_cons_mk (Below.trod laidOut (by kernel_rfl) (of_decide_eq_true (by kernel_rfl)) k0 bel lt0) trodAll_mk0), rfl, bel.frame _, fun h => by cases h⟩

theorem closed : joinedFacts Try.pinned.checked.prog 5 Try.f5 Rows.fnContainedSpec Rows.fnContainedRow = true := by
  unfold joinedFacts
  rw [Facts.may_enter, Facts.make_is, Facts.lifts_final]
  kernel_rfl
theorem over : Rows.fnContainedRow.holds Try.pinned (OpenSpec.ofChange Rows.fnContainedSpec) :=
  OpenClaim.holds_of_wide 5 Try.f5 rfl rfl rfl rfl rfl rfl rfl ⟨rfl, rfl, rfl, rfl, rfl⟩ rfl rfl rfl rfl rfl (by kernel_rfl) Try.func5 closed
    (of_decide_eq_true (by kernel_rfl)) (by unfold Func.isWrapper; first | (rw [if_pos (by decide +kernel)]; kernel_rfl) | (rw [if_neg (by decide +kernel)]; exact ⟨rfl, rfl⟩))
    (fun os started H enc _ => lifted os started H enc)

theorem proved : Rows.FnContainedSaid := over
#print axioms proved
end Go.Proofs.Ytjmmcpeknaaaiaa.fnContained
