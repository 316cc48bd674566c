/- Plain facts: the ranges that are drawn are valid. -/
import Derived.Test.YtmnpmbliikalhaaRngOk
import Derived.Test.YtmnpmbliikalhaaRngOver
import Derived.Test.YtmnpmbliikalhaaFltS
namespace Go.Proofs.Ytmnpmbliikalhaa.Rng
open Go.ChangeShapes Go.WideShapes Go.ChangeAt Go.RowKit Go.Proofs.Ytmnpmbliikalhaa Go.Proofs.Ytmnpmbliikalhaa.Flt Go.Proofs.Ytmnpmbliikalhaa.Mth
set_option linter.unusedVariables false
theorem ge_pos {r s : Nat} (hr : r < 2139095040) (hs : s < 2139095040) : geB r s = decide (s ≤ r) := by
  unfold geB
  rw [gt32, eq32, pos_lt s r hs hr, pos_eq r s hr hs, Bool.eq_iff_iff]
  simp only [Bool.or_eq_true, decide_eq_true_eq]
  omega
theorem le_pos {r s : Nat} (hr : r < 2139095040) (hs : s < 2139095040) : leB r s = decide (r ≤ s) := by
  unfold leB
  rw [lt32, eq32, pos_lt r s hr hs, pos_eq r s hr hs, Bool.eq_iff_iff]
  simp only [Bool.or_eq_true, decide_eq_true_eq]
  omega
theorem gt_pos {r s : Nat} (hr : r < 2139095040) (hs : s < 2139095040) : gtB r s = decide (s < r) := by
  unfold gtB
  rw [gt32, pos_lt s r hs hr]
theorem isRB_mk {f d u : Nat} (h1 : 228737632 ≤ f) (h2 : f < 2139095040) (h3 : d < u) (h4 : u ≤ f) : isRB f d u = true := by
  unfold isRB finB
  rw [ge_pos (by omega) (by omega), gt_pos (by omega) (by omega), ge_pos h2 (by omega), ge_pos h2 (by omega), pos_rung h2, inf_single]
  simp only [Bool.and_eq_true, decide_eq_true_eq]
  omega
theorem isAB_mk {bf bu f d : Nat} (h1 : bf < f) (h2 : f < 2139095040) (h3 : d ≤ bu) (h4 : bu < 2139095040) : isAB bf bu f d = true := by
  unfold isAB
  rw [gt_pos h2 (by omega), le_pos (by omega) h4]
  simp only [Bool.and_eq_true, decide_eq_true_eq]
  omega
structure St (i : Nat) (X : Nat → Nat) (full last : Nat) : Prop where
  lo : 228737632 ≤ full
  hi : full ≤ Bnd i
  first : i = 0 → last = 0
  lastlt : last < 2139095040
  ok : ∀ j, j < i → okAt X j = true
  wf : ∀ j, j < i → X (j * 3) < 2139095040 ∧ X (j * 3 + 1) < 2139095040 ∧ X (j * 3 + 2) < 2139095040
  prev : ∀ j, i = j + 1 → X (j * 3) < full ∧ X (j * 3 + 2) = last
def putX (X : Nat → Nat) (i f d u : Nat) : Nat → Nat := fun j => if j = i * 3 then f else if j = i * 3 + 1 then d else if j = i * 3 + 2 then u else X j
theorem putX_old (X : Nat → Nat) (i f d u : Nat) {j : Nat} (h : j < i * 3) : putX X i f d u j = X j := by
  unfold putX
  rw [if_neg (by omega), if_neg (by omega), if_neg (by omega)]
theorem putX_0 (X : Nat → Nat) (i f d u : Nat) : putX X i f d u (i * 3) = f := by unfold putX; rw [if_pos rfl]
theorem putX_1 (X : Nat → Nat) (i f d u : Nat) : putX X i f d u (i * 3 + 1) = d := by unfold putX; rw [if_neg (by omega), if_pos rfl]
theorem putX_2 (X : Nat → Nat) (i f d u : Nat) : putX X i f d u (i * 3 + 2) = u := by unfold putX; rw [if_neg (by omega), if_neg (by omega), if_pos rfl]
theorem bnd_le {i : Nat} (h : i ≤ 6) : Bnd i ≤ 1400000000 := by unfold Bnd; omega
theorem okAt_congr {X Y : Nat → Nat} {j : Nat} (h : ∀ t, t < (j + 1) * 3 → X t = Y t) : okAt X j = okAt Y j := by
  unfold okAt
  rw [h (j * 3) (by omega), h (j * 3 + 1) (by omega), h (j * 3 + 2) (by omega), h ((j - 1) * 3) (by omega)]
  by_cases h0 : j = 0
  · subst h0; rfl
  · rw [h ((j - 1) * 3 + 2) (by omega)]
theorem St.next {i : Nat} {X : Nat → Nat} {full last : Nat} (s : St i X full last) (h5 : i < 5) {d u c : Nat} (hu : u ≤ full) (hd : d < u) (hd' : d ≤ last) (hc : 1073741824 ≤ c) (hc' : c ≤ 1098907648) :
    St (i + 1) (putX X i full d u) (mulRung Ieee.single full c) u := by
  have hb := bnd_le (i := i) (by omega)
  have hlo := s.lo
  have hhi := s.hi
  have hg := next_gt (f := full) (c := c) (by omega) (by omega) hc
  have hfull : full < 2139095040 := by omega
  refine ⟨by omega, next_le (by omega) hhi hc', fun e => by omega, by omega, fun j hj => ?_, fun j hj => ?_, fun j hj => ?_⟩
  · by_cases e : j = i
    · subst e
      unfold okAt
      rw [putX_0, putX_1, putX_2, isRB_mk hlo hfull hd hu, Bool.true_and, Bool.or_eq_true]
      by_cases h0 : j = 0
      · left; subst h0; rfl
      · right
        obtain ⟨m, rfl⟩ : ∃ m, j = m + 1 := ⟨j - 1, by omega⟩
        obtain ⟨p1, p2⟩ := s.prev m rfl
        rw [show m + 1 - 1 = m from rfl, putX_old _ _ _ _ _ (show m * 3 < (m + 1) * 3 by omega), putX_old _ _ _ _ _ (show m * 3 + 2 < (m + 1) * 3 by omega), p2]
        exact isAB_mk p1 hfull hd' s.lastlt
    · rw [okAt_congr (fun t ht => putX_old X i full d u (by omega))]
      exact s.ok j (by omega)
  · by_cases e : j = i
    · subst e
      rw [putX_0, putX_1, putX_2]
      omega
    · rw [putX_old _ _ _ _ _ (by omega), putX_old _ _ _ _ _ (by omega), putX_old _ _ _ _ _ (by omega)]
      exact s.wf j (by omega)
  · obtain rfl : i = j := by omega
    rw [putX_0, putX_2]
    exact ⟨hg, rfl⟩
theorem St.okB {n : Nat} {X : Nat → Nat} {full last : Nat} (s : St n X full last) (h1 : 1 ≤ n) (h2 : n ≤ 12) : okB n X = true := (okB_all h1 h2 s.ok).symm
theorem St.Wf {n : Nat} {X : Nat → Nat} {full last : Nat} (s : St n X full last) : Wf n X := fun i hi => by
  obtain ⟨a, b, c⟩ := s.wf i hi
  exact ⟨wf_single (by omega), wf_single (by omega), wf_single (by omega)⟩
theorem St.start {full : Nat} (h1 : 228737632 ≤ full) (h2 : full ≤ Bnd 0) : St 0 (fun _ => 0) full 0 :=
  ⟨h1, h2, fun _ => rfl, by omega, fun j hj => absurd hj (Nat.not_lt_zero _), fun j hj => absurd hj (Nat.not_lt_zero _), fun j hj => by omega⟩
/-- the cells of the list so far -/
def vals (X : Nat → Nat) (m : Nat) : List Value := (List.range m).map fun j => .float .f32 (X j)
theorem vals_len (X : Nat → Nat) (m : Nat) : (vals X m).length = m := by simp [vals]
theorem vals_put (X : Nat → Nat) (i f d u : Nat) : vals X (i * 3) ++ [.float .f32 f, .float .f32 d, .float .f32 u] = vals (putX X i f d u) ((i + 1) * 3) := by
  apply List.ext_getElem?
  intro j
  unfold vals
  by_cases h : j < i * 3
  · rw [List.getElem?_append_left (by simpa using h)]
    simp [h, show j < (i + 1) * 3 by omega, putX_old X i f d u h]
  · rw [List.getElem?_append_right (by simpa using h)]
    simp only [List.length_map, List.length_range]
    by_cases h0 : j = i * 3
    · subst h0; simp [show i * 3 < (i + 1) * 3 by omega, putX_0]
    · by_cases h1 : j = i * 3 + 1
      · subst h1; simp [show i * 3 + 1 < (i + 1) * 3 by omega, show i * 3 + 1 - i * 3 = 1 by omega, putX_1]
      · by_cases h2 : j = i * 3 + 2
        · subst h2; simp [show i * 3 + 2 < (i + 1) * 3 by omega, show i * 3 + 2 - i * 3 = 2 by omega, putX_2]
        · obtain ⟨t, ht⟩ : ∃ t, j - i * 3 = t + 3 := ⟨j - i * 3 - 3, by omega⟩
          rw [ht]
          simp [show ¬ j < (i + 1) * 3 by omega]
end Go.Proofs.Ytmnpmbliikalhaa.Rng
