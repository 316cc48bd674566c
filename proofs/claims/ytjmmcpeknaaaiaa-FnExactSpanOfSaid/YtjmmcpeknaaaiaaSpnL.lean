/- SpanOf, in the program and in the model. -/
import Derived.Test.YtjmmcpeknaaaiaaSpnO
import Derived.Test.YtjmmcpeknaaaiaaSpnS
namespace Go.Proofs.Ytjmmcpeknaaaiaa.Spn
open Go.ChangeShapes Go.WideShapes Go.ChangeAt Go.RowKit Go.Deep Go.Proofs.Ytjmmcpeknaaaiaa Go.Proofs.Ytjmmcpeknaaaiaa.Flt Go.Proofs.Ytjmmcpeknaaaiaa.Mth
open Go.Proofs.Ytjmmcpeknaaaiaa.Sgl (LstF CellsF)
open Ieee (single double)
set_option linter.unusedVariables false
set_option linter.unusedSimpArgs false
set_option maxRecDepth 20000
theorem out_succ (P : Nat → Nat → Bool) (X : Nat → Nat) (k : Nat) : outF P X (k + 1) = if (decide (k = 0) || P (X k) (outF P X k)) = true then X k else outF P X k := rfl
theorem out_mem (P : Nat → Nat → Bool) (X : Nat → Nat) : ∀ n, 1 ≤ n → ∃ i, i < n ∧ outF P X n = X i
  | 0, h => absurd h (by omega)
  | n + 1, _ => by
    rw [out_succ]
    by_cases h0 : n = 0
    · exact ⟨n, by omega, by rw [decide_eq_true h0, Bool.true_or, if_pos rfl]⟩
    · by_cases hp : P (X n) (outF P X n) = true
      · exact ⟨n, by omega, by rw [hp, Bool.or_true, if_pos rfl]⟩
      · obtain ⟨i, hi, e⟩ := out_mem P X n (by omega)
        exact ⟨i, by omega, by rw [decide_eq_false h0, Bool.false_or, if_neg hp, e]⟩
theorem out_lt {X : Nat → Nat} : ∀ n, 1 ≤ n → (∀ i, i < n → isNaN single (X i) = false) → sv single (outF ltB X n) ≤ sv single (X 0)
  | 0, h, _ => absurd h (by omega)
  | n + 1, _, hn => by
    rw [out_succ]
    by_cases h0 : n = 0
    · rw [decide_eq_true h0, Bool.true_or, if_pos rfl, h0]; exact Int.le_refl _
    · have ih := out_lt n (by omega) (fun i hi => hn i (by omega))
      rw [decide_eq_false h0, Bool.false_or]
      by_cases hp : ltB (X n) (outF ltB X n) = true
      · rw [if_pos hp]
        have := (lt_iff.1 hp).2.2
        omega
      · rw [if_neg hp]; exact ih
theorem out_gt {X : Nat → Nat} : ∀ n, 1 ≤ n → (∀ i, i < n → isNaN single (X i) = false) → sv single (X 0) ≤ sv single (outF gtB X n)
  | 0, h, _ => absurd h (by omega)
  | n + 1, _, hn => by
    rw [out_succ]
    by_cases h0 : n = 0
    · rw [decide_eq_true h0, Bool.true_or, if_pos rfl, h0]; exact Int.le_refl _
    · have ih := out_gt n (by omega) (fun i hi => hn i (by omega))
      rw [decide_eq_false h0, Bool.false_or]
      by_cases hp : gtB (X n) (outF gtB X n) = true
      · rw [if_pos hp]
        have := (gt_iff.1 hp).2.2
        omega
      · rw [if_neg hp]; exact ih
theorem out_ok {X : Nat → Nat} {n : Nat} (h1 : 1 ≤ n) (hn : numB n X = true) : leB (outF ltB X n) (outF gtB X n) = true := by
  have hn' := num_iff.1 hn
  obtain ⟨i, hi, ei⟩ := out_mem ltB X n h1
  obtain ⟨j, hj, ej⟩ := out_mem gtB X n h1
  have a := out_lt n h1 hn'
  have b := out_gt n h1 hn'
  rw [le_iff]
  refine ⟨by rw [ei]; exact hn' i hi, by rw [ej]; exact hn' j hj, by omega⟩
/-- what SpanOf answers -/
def okL (n : Nat) (X : Nat → Nat) : Bool := decide (1 ≤ n) && (decide (n ≤ 64) && numB n X)
def loL (n : Nat) (X : Nat → Nat) : Nat := if okL n X = true then outF ltB X n else 0
def hiL (n : Nat) (X : Nat → Nat) : Nat := if okL n X = true then outF gtB X n else 0
theorem okL_no {n : Nat} {X : Nat → Nat} (h : okL n X = false) : loL n X = 0 ∧ hiL n X = 0 := by unfold loL hiL; rw [h]; exact ⟨rfl, rfl⟩
theorem okL_yes {n : Nat} {X : Nat → Nat} (h : okL n X = true) : loL n X = outF ltB X n ∧ hiL n X = outF gtB X n := by unfold loL hiL; rw [h]; exact ⟨rfl, rfl⟩
theorem okL_few {n : Nat} {X : Nat → Nat} (h : n < 1 ∨ 64 < n) : okL n X = false := by
  unfold okL
  rcases h with h | h
  · rw [decide_eq_false (by omega), Bool.false_and]
  · rw [decide_eq_false (p := n ≤ 64) (by omega), Bool.false_and, Bool.and_false]
theorem okL_num {n : Nat} {X : Nat → Nat} (h1 : 1 ≤ n) (h2 : n ≤ 64) : okL n X = numB n X := by
  unfold okL
  rw [decide_eq_true h1, decide_eq_true h2, Bool.true_and, Bool.true_and]
set_option maxHeartbeats 400000 in
theorem impl_span (a : Option Addr) (len cap : Nat) (X : Nat → Nat) (w : World) (hl : len ≤ 1048576) (h : LstF w a len X) :
    Calls Try.prog 56 #[.slice a len cap] w fun e w' => e = .returned (.tuple #[pv (loL len X) (hiL len X), .bool (okL len X)]) ∧ Below w.heap.size w w' := by
  have H := Lib.hid h
  clear h
  by_cases hf : len < 1 ∨ 64 < len
  · obtain ⟨e1, e2⟩ := okL_no (okL_few (X := X) hf)
    rw [e1, e2, okL_few hf]
    clear e1 e2
    unfold pv
    rcases hf with hf | hf
    · have hf' : (len : Int) < 1 := by omega
      go_enter Try.func56, Try.ntmps56
      go_wp2_with fail
      refine bodyPost_ret (by simp [results, Try.results56, go_sem]; try rfl) rfl ?_
      exact ⟨rfl, by go_grown⟩
    · have hf' : ¬ (len : Int) < 1 := by omega
      have hg : (64 : Int) < len := by omega
      go_enter Try.func56, Try.ntmps56
      go_wp2_with fail
      refine bodyPost_ret (by simp [results, Try.results56, go_sem]; try rfl) rfl ?_
      exact ⟨rfl, by go_grown⟩
  · have h1 : 1 ≤ len := by omega
    have h2 : len ≤ 64 := by omega
    have hf' : ¬ (len : Int) < 1 := by omega
    have hg : ¬ (64 : Int) < len := by omega
    have hc := fun W => fun hb : Below w.heap.size w W => contains_any a len cap X W hl (H.out.keep hb)
    rw [okL_num h1 h2]
    cases hn : numB len X
    · obtain ⟨e1, e2⟩ := okL_no ((okL_num (X := X) h1 h2).trans hn)
      rw [e1, e2]
      rw [hn] at hc
      have Hc := Lib.hid hc
      clear e1 e2 hn hc hf h1 h2
      unfold pv
      go_enter Try.func56, Try.ntmps56
      go_wp2_with fail
      refine Calls.mono (Hc.out _ ?_) ?_
      · go_grown
      rintro e w9 ⟨rfl, n, hw9⟩
      subst w9
      go_wp2_with fail
      refine bodyPost_ret (by simp [results, Try.results56, go_sem]; try rfl) rfl ?_
      refine ⟨rfl, ?_⟩
      repeat' (first | exact Below.refl _ _ | refine Below.setCell ?_ ?_ _ | refine Below.alloc ?_ ?_ _ | refine below_drewN ?_ _)
      all_goals (simp; try omega)
    · obtain ⟨e1, e2⟩ := okL_yes ((okL_num (X := X) h1 h2).trans hn)
      rw [e1, e2]
      rw [hn] at hc
      have hlo := fun W => fun hb : Below w.heap.size w W => least_any a len cap X W hl (H.out.keep hb)
      have hhi := fun W => fun hb : Below w.heap.size w W => greatest_any a len cap X W hl (H.out.keep hb)
      have hiv := fun W => interval_any (outF ltB X len) (outF gtB X len) W
      rw [out_ok h1 hn] at hiv
      have ho := fun W => outside_any (outF ltB X len) (outF gtB X len) true W
      have Hc := Lib.hid hc
      have Hlo := Lib.hid hlo
      have Hhi := Lib.hid hhi
      clear e1 e2 hn hc hf h1 h2 hlo hhi
      generalize outF ltB X len = lo at *
      generalize outF gtB X len = hi at *
      unfold ivv at hiv ho
      unfold pv at ho ⊢
      go_enter Try.func56, Try.ntmps56
      go_wp2_with fail
      refine Calls.mono (Hc.out _ ?_) ?_
      · go_grown
      rintro e w9 ⟨rfl, n, hw9⟩
      subst w9
      go_wp2_with fail
      refine Calls.mono (Hlo.out _ ?_) ?_
      · repeat' (first | exact Below.refl _ _ | refine Below.setCell ?_ ?_ _ | refine Below.alloc ?_ ?_ _ | refine below_drewN ?_ _)
        all_goals (simp; try omega)
      rintro e w9 ⟨rfl, hw9⟩
      subst w9
      go_wp2_with fail
      refine Calls.mono (Hhi.out _ ?_) ?_
      · repeat' (first | exact Below.refl _ _ | refine Below.setCell ?_ ?_ _ | refine Below.alloc ?_ ?_ _ | refine below_drewN ?_ _)
        all_goals (simp; try omega)
      rintro e w9 ⟨rfl, hw9⟩
      subst w9
      go_wp2_with fail
      refine (hiv _).mono ?_
      rintro e w9 ⟨rfl, rfl⟩
      go_wp2_with fail
      refine (ho _).mono ?_
      rintro e w9 ⟨rfl, rfl⟩
      go_wp2_with fail
      refine bodyPost_ret (by simp [results, Try.results56, go_sem]; try rfl) rfl ?_
      refine ⟨rfl, ?_⟩
      repeat' (first | exact Below.refl _ _ | refine Below.setCell ?_ ?_ _ | refine Below.alloc ?_ ?_ _ | refine below_drewN ?_ _)
      all_goals (simp; try omega)
end Go.Proofs.Ytjmmcpeknaaaiaa.Spn
