/- Plain facts on stable sorting: the elements are told by their places in the list; order by value, then by place; runs that are sorted, moves to the right and to the left, rotation, the merge by symmetric comparisons. No program stands here. -/
import Derived.Test.YtlbapogmcnpmeaaAvgU
namespace Go.Proofs.Ytlbapogmcnpmeaa.Avg
open Go.ChangeShapes Go.WideShapes Go.ChangeAt Go.RowKit Go.Deep Go.Proofs.Ytlbapogmcnpmeaa Go.Proofs.Ytlbapogmcnpmeaa.Flt Go.Proofs.Ytlbapogmcnpmeaa.Mth Go.Proofs.Ytlbapogmcnpmeaa.Sgl
open Ieee (single double)
set_option linter.unusedVariables false
section
variable (X : Nat → Nat)
/-- the value of an element -/
def val (t : Nat) : Int := sv single (X t)
/-- by value, then by place -/
def ltX (t u : Nat) : Prop := val X t < val X u ∨ (val X t = val X u ∧ t < u)
end
theorem ltX.trans {X : Nat → Nat} {t u v : Nat} (h : ltX X t u) (k : ltX X u v) : ltX X t v := by unfold ltX at *; omega
theorem ltX.irr {X : Nat → Nat} {t : Nat} (h : ltX X t t) : False := by unfold ltX at h; omega
theorem ltX.asym {X : Nat → Nat} {t u : Nat} (h : ltX X t u) (k : ltX X u t) : False := (h.trans k).irr
theorem ltX.le {X : Nat → Nat} {t u : Nat} (h : ltX X t u) : val X t ≤ val X u := by unfold ltX at h; omega
/-- a run that is sorted -/
def Run (X σ : Nat → Nat) (a b : Nat) : Prop := ∀ p q, a ≤ p → p < q → q < b → ltX X (σ p) (σ q)
/-- the elements of one run stand ahead of those of the other in the list -/
def Sep (σ : Nat → Nat) (a m b : Nat) : Prop := ∀ p q, a ≤ p → p < m → m ≤ q → q < b → σ p < σ q
/-- the same elements -/
def Smp (σ σ' : Nat → Nat) (a b : Nat) : Prop := (∀ p, a ≤ p → p < b → ∃ q, a ≤ q ∧ q < b ∧ σ' p = σ q) ∧ (∀ q, a ≤ q → q < b → ∃ p, a ≤ p ∧ p < b ∧ σ' p = σ q)
/-- nothing else has turned -/
def Oth (σ σ' : Nat → Nat) (a b : Nat) : Prop := ∀ p, p < a ∨ b ≤ p → σ' p = σ p
theorem Smp.refl (σ : Nat → Nat) (a b : Nat) : Smp σ σ a b := ⟨fun p h k => ⟨p, h, k, rfl⟩, fun p h k => ⟨p, h, k, rfl⟩⟩
theorem Oth.refl (σ : Nat → Nat) (a b : Nat) : Oth σ σ a b := fun _ _ => rfl
theorem Smp.trans {σ τ υ : Nat → Nat} {a b : Nat} (h : Smp σ τ a b) (k : Smp τ υ a b) : Smp σ υ a b := by
  refine ⟨fun p h1 h2 => ?_, fun q h1 h2 => ?_⟩
  · obtain ⟨q, q1, q2, e⟩ := k.1 p h1 h2
    obtain ⟨r, r1, r2, e2⟩ := h.1 q q1 q2
    exact ⟨r, r1, r2, e.trans e2⟩
  · obtain ⟨p, p1, p2, e⟩ := h.2 q h1 h2
    obtain ⟨r, r1, r2, e2⟩ := k.2 p p1 p2
    exact ⟨r, r1, r2, e2.trans e⟩
theorem Oth.trans {σ τ υ : Nat → Nat} {a b : Nat} (h : Oth σ τ a b) (k : Oth τ υ a b) : Oth σ υ a b := fun p hp => (k p hp).trans (h p hp)
theorem Oth.mono {σ τ : Nat → Nat} {a b c d : Nat} (h : Oth σ τ c d) (h1 : a ≤ c) (h2 : d ≤ b) : Oth σ τ a b := fun p hp => h p (by omega)
theorem Smp.wide {σ τ : Nat → Nat} {a b c d : Nat} (h : Smp σ τ c d) (o : Oth σ τ c d) (h1 : a ≤ c) (h2 : d ≤ b) : Smp σ τ a b := by
  refine ⟨fun p p1 p2 => ?_, fun q q1 q2 => ?_⟩
  · by_cases hp : c ≤ p ∧ p < d
    · obtain ⟨q, q1, q2, e⟩ := h.1 p hp.1 hp.2
      exact ⟨q, by omega, by omega, e⟩
    · exact ⟨p, p1, p2, o p (by omega)⟩
  · by_cases hq : c ≤ q ∧ q < d
    · obtain ⟨p, p1, p2, e⟩ := h.2 q hq.1 hq.2
      exact ⟨p, by omega, by omega, e⟩
    · exact ⟨q, q1, q2, o q (by omega)⟩
theorem Run.same {X σ τ : Nat → Nat} {a b : Nat} (h : Run X σ a b) (e : ∀ p, a ≤ p → p < b → τ p = σ p) : Run X τ a b := fun p q h1 h2 h3 => by
  rw [e p h1 (by omega), e q (by omega) h3]; exact h p q h1 h2 h3
theorem Sep.same {σ τ : Nat → Nat} {a m b : Nat} (h : Sep σ a m b) (e : ∀ p, a ≤ p → p < b → τ p = σ p) : Sep τ a m b := fun p q h1 h2 h3 h4 => by
  rw [e p h1 (by omega), e q (by omega) h4]; exact h p q h1 h2 h3 h4
/-! one element goes to the right, or to the left -/
def rotL (σ : Nat → Nat) (a k : Nat) : Nat → Nat := fun p => if a ≤ p ∧ p < k then σ (p + 1) else if p = k then σ a else σ p
def rotR (σ : Nat → Nat) (m k : Nat) : Nat → Nat := fun p => if p = k then σ m else if k < p ∧ p ≤ m then σ (p - 1) else σ p
def swp (σ : Nat → Nat) (i j : Nat) : Nat → Nat := fun p => if p = i then σ j else if p = j then σ i else σ p
theorem rotL_zero (σ : Nat → Nat) (a : Nat) : rotL σ a a = σ := by
  funext p; unfold rotL
  rw [if_neg (by omega)]
  by_cases h : p = a
  · rw [if_pos h, h]
  · rw [if_neg h]
theorem rotR_zero (σ : Nat → Nat) (m : Nat) : rotR σ m m = σ := by
  funext p; unfold rotR
  by_cases h : p = m
  · rw [if_pos h, h]
  · rw [if_neg h, if_neg (by omega)]
theorem rotL_step (σ : Nat → Nat) {a k : Nat} (h : a ≤ k) : swp (rotL σ a k) k (k + 1) = rotL σ a (k + 1) := by
  funext p
  unfold swp
  by_cases h1 : p = k
  · rw [if_pos h1]
    unfold rotL
    rw [if_neg (by omega), if_neg (by omega), if_pos (by omega), h1]
  · rw [if_neg h1]
    by_cases h2 : p = k + 1
    · rw [if_pos h2]
      unfold rotL
      rw [if_neg (by omega), if_pos rfl, if_neg (by omega), if_pos h2]
    · rw [if_neg h2]
      unfold rotL
      by_cases h3 : a ≤ p ∧ p < k
      · rw [if_pos h3, if_pos (by omega)]
      · rw [if_neg h3, if_neg h1, if_neg (by omega), if_neg h2]
theorem rotR_step (σ : Nat → Nat) {m k : Nat} (h : k < m) : swp (rotR σ m (k + 1)) (k + 1) k = rotR σ m k := by
  funext p
  unfold swp
  by_cases h1 : p = k + 1
  · rw [if_pos h1]
    unfold rotR
    rw [if_neg (by omega), if_neg (by omega), if_neg (by omega), if_pos (by omega), h1, Nat.add_sub_cancel]
  · rw [if_neg h1]
    by_cases h2 : p = k
    · rw [if_pos h2]
      unfold rotR
      rw [if_pos rfl, if_pos h2]
    · rw [if_neg h2]
      unfold rotR
      rw [if_neg h1, if_neg h2]
      by_cases h3 : k + 1 < p ∧ p ≤ m
      · rw [if_pos h3, if_pos (by omega)]
      · rw [if_neg h3, if_neg (by omega)]
theorem rotL_smp (σ : Nat → Nat) {a k b : Nat} (h : a ≤ k) (hk : k < b) : Smp σ (rotL σ a k) a b := by
  refine ⟨fun p h1 h2 => ?_, fun q h1 h2 => ?_⟩
  · unfold rotL
    by_cases h3 : a ≤ p ∧ p < k
    · exact ⟨p + 1, by omega, by omega, by rw [if_pos h3]⟩
    · by_cases h4 : p = k
      · exact ⟨a, by omega, by omega, by rw [if_neg h3, if_pos h4]⟩
      · exact ⟨p, h1, h2, by rw [if_neg h3, if_neg h4]⟩
  · unfold rotL
    by_cases h3 : q = a
    · exact ⟨k, by omega, by omega, by rw [if_neg (by omega), if_pos rfl, h3]⟩
    · by_cases h4 : q ≤ k
      · exact ⟨q - 1, by omega, by omega, by rw [if_pos (by omega), Nat.sub_add_cancel (by omega)]⟩
      · exact ⟨q, h1, h2, by rw [if_neg (by omega), if_neg (by omega)]⟩
theorem rotL_oth (σ : Nat → Nat) {a k b : Nat} (h : a ≤ k) (hk : k < b) : Oth σ (rotL σ a k) a b := fun p hp => by
  unfold rotL; rw [if_neg (by omega), if_neg (by omega)]
theorem rotR_smp (σ : Nat → Nat) {a k m : Nat} (h : a ≤ k) (hk : k ≤ m) : Smp σ (rotR σ m k) a (m + 1) := by
  refine ⟨fun p h1 h2 => ?_, fun q h1 h2 => ?_⟩
  · unfold rotR
    by_cases h3 : p = k
    · exact ⟨m, by omega, by omega, by rw [if_pos h3]⟩
    · by_cases h4 : k < p ∧ p ≤ m
      · exact ⟨p - 1, by omega, by omega, by rw [if_neg h3, if_pos h4]⟩
      · exact ⟨p, h1, h2, by rw [if_neg h3, if_neg h4]⟩
  · unfold rotR
    by_cases h3 : q = m
    · exact ⟨k, by omega, by omega, by rw [if_pos rfl, h3]⟩
    · by_cases h4 : k ≤ q
      · exact ⟨q + 1, by omega, by omega, by rw [if_neg (by omega), if_pos (by omega), Nat.add_sub_cancel]⟩
      · exact ⟨q, h1, by omega, by rw [if_neg (by omega), if_neg (by omega)]⟩
theorem rotR_oth (σ : Nat → Nat) {a k m : Nat} (h : a ≤ k) (hk : k ≤ m) : Oth σ (rotR σ m k) a (m + 1) := fun p hp => by
  unfold rotR; rw [if_neg (by omega), if_neg (by omega)]
/-- the first element goes into the run behind it -/
theorem rotL_run {X σ : Nat → Nat} {a i b : Nat} (hi : a + 1 ≤ i) (hb : i ≤ b) (h2 : Run X σ (a + 1) b) (hs : Sep σ a (a + 1) b)
    (lo : ∀ q, a + 1 ≤ q → q < i → val X (σ q) < val X (σ a)) (hi2 : ∀ q, i ≤ q → q < b → ¬ val X (σ q) < val X (σ a)) : Run X (rotL σ a (i - 1)) a b := by
  intro p q h3 h4 h5
  have e1 : ∀ p, a ≤ p → p < i - 1 → rotL σ a (i - 1) p = σ (p + 1) := fun p k1 k2 => by unfold rotL; rw [if_pos ⟨k1, k2⟩]
  have e2 : rotL σ a (i - 1) (i - 1) = σ a := by unfold rotL; rw [if_neg (by omega), if_pos rfl]
  have e3 : ∀ p, i ≤ p → rotL σ a (i - 1) p = σ p := fun p k1 => by unfold rotL; rw [if_neg (by omega), if_neg (by omega)]
  have f2 : ∀ q, i ≤ q → q < b → ltX X (σ a) (σ q) := fun q k1 k2 => by
    have := hi2 q k1 k2
    have := hs a q (by omega) (by omega) (by omega) k2
    unfold ltX; omega
  by_cases c1 : p < i - 1
  · rw [e1 p h3 c1]
    by_cases c2 : q < i - 1
    · rw [e1 q (by omega) c2]; exact h2 _ _ (by omega) (by omega) (by omega)
    · by_cases c3 : q = i - 1
      · rw [c3, e2]; exact .inl (lo _ (by omega) (by omega))
      · rw [e3 q (by omega)]; exact h2 _ _ (by omega) (by omega) h5
  · by_cases c2 : p = i - 1
    · rw [c2, e2, e3 q (by omega)]; exact f2 q (by omega) h5
    · rw [e3 p (by omega), e3 q (by omega)]; exact h2 _ _ (by omega) h4 h5
/-- the element behind a run goes into it -/
theorem rotR_run {X σ : Nat → Nat} {a i m : Nat} (hi : a ≤ i) (him : i ≤ m) (h1 : Run X σ a m) (hs : Sep σ a m (m + 1))
    (lo : ∀ p, a ≤ p → p < i → ¬ val X (σ m) < val X (σ p)) (hi2 : ∀ p, i ≤ p → p < m → val X (σ m) < val X (σ p)) : Run X (rotR σ m i) a (m + 1) := by
  intro p q h3 h4 h5
  have e1 : ∀ p, p < i → rotR σ m i p = σ p := fun p k1 => by unfold rotR; rw [if_neg (by omega), if_neg (by omega)]
  have e2 : rotR σ m i i = σ m := by unfold rotR; rw [if_pos rfl]
  have e3 : ∀ p, i < p → p ≤ m → rotR σ m i p = σ (p - 1) := fun p k1 k2 => by unfold rotR; rw [if_neg (by omega), if_pos ⟨k1, k2⟩]
  have f1 : ∀ p, a ≤ p → p < i → ltX X (σ p) (σ m) := fun p k1 k2 => by
    have := lo p k1 k2
    have := hs p m k1 (by omega) (Nat.le_refl _) (by omega)
    unfold ltX; omega
  by_cases c1 : p < i
  · rw [e1 p c1]
    by_cases c2 : q < i
    · rw [e1 q c2]; exact h1 _ _ h3 h4 (by omega)
    · by_cases c3 : q = i
      · rw [c3, e2]; exact f1 p h3 c1
      · rw [e3 q (by omega) (by omega)]; exact h1 _ _ h3 (by omega) (by omega)
  · by_cases c2 : p = i
    · rw [c2, e2, e3 q (by omega) (by omega)]; exact .inl (hi2 _ (by omega) (by omega))
    · rw [e3 p (by omega) (by omega), e3 q (by omega) (by omega)]; exact h1 _ _ (by omega) (by omega) (by omega)
/-! rotation -/
def rtt (σ : Nat → Nat) (s m e : Nat) : Nat → Nat := fun p => if s ≤ p ∧ p < s + (e - m) then σ (p - s + m) else if s + (e - m) ≤ p ∧ p < e then σ (p - (e - m)) else σ p
def swr (σ : Nat → Nat) (p q L : Nat) : Nat → Nat := fun x => if p ≤ x ∧ x < p + L then σ (x - p + q) else if q ≤ x ∧ x < q + L then σ (x - q + p) else σ x
theorem swr_step (σ : Nat → Nat) {p q L : Nat} (h : p + L < q) : swp (swr σ p q L) (p + L) (q + L) = swr σ p q (L + 1) := by
  funext x
  unfold swp
  by_cases h1 : x = p + L
  · rw [if_pos h1]
    unfold swr
    rw [if_neg (by omega), if_neg (by omega), if_pos (by omega)]
    congr 1; omega
  · rw [if_neg h1]
    by_cases h2 : x = q + L
    · rw [if_pos h2]
      unfold swr
      rw [if_neg (by omega), if_neg (by omega), if_neg (by omega), if_pos (by omega)]
      congr 1; omega
    · rw [if_neg h2]
      unfold swr
      by_cases h3 : p ≤ x ∧ x < p + L
      · rw [if_pos h3, if_pos (by omega)]
      · rw [if_neg h3, if_neg (show ¬ (p ≤ x ∧ x < p + (L + 1)) by omega)]
        by_cases h4 : q ≤ x ∧ x < q + L
        · rw [if_pos h4, if_pos (by omega)]
        · rw [if_neg h4, if_neg (by omega)]
theorem swr_zero (σ : Nat → Nat) (p q : Nat) : swr σ p q 0 = σ := by
  funext x; unfold swr; rw [if_neg (by omega), if_neg (by omega)]
/-- what is still to be rotated: so many ahead of the middle, so many behind it -/
structure Rot (T τ : Nat → Nat) (a m b i j : Nat) : Prop where
  out : ∀ p, p < m - i ∨ m + j ≤ p → τ p = T p
  l : ∀ k, k < j → T (m - i + k) = τ (m + k)
  r : ∀ k, k < i → T (m - i + j + k) = τ (m - i + k)
theorem Rot.start (σ : Nat → Nat) {a m b : Nat} (h1 : a ≤ m) (h2 : m ≤ b) : Rot (rtt σ a m b) σ a m b (m - a) (b - m) := by
  refine ⟨fun p hp => ?_, fun k hk => ?_, fun k hk => ?_⟩
  · unfold rtt; rw [if_neg (by omega), if_neg (by omega)]
  · unfold rtt; rw [if_pos (by omega)]; congr 1; omega
  · unfold rtt; rw [if_neg (by omega), if_pos (by omega)]; congr 1; omega
theorem Rot.left {T τ : Nat → Nat} {a m b i j : Nat} (h : Rot T τ a m b i j) (him : i ≤ m) (hij : j < i) : Rot T (swr τ (m - i) m j) a m b (i - j) j := by
  refine ⟨fun p hp => ?_, fun k hk => ?_, fun k hk => ?_⟩
  · unfold swr
    by_cases c1 : m - i ≤ p ∧ p < m - i + j
    · rw [if_pos c1]
      have := h.l (p - (m - i)) (by omega)
      rw [show m - i + (p - (m - i)) = p by omega] at this
      rw [this]; congr 1; omega
    · rw [if_neg c1, if_neg (by omega)]
      exact h.out p (by omega)
  · unfold swr
    rw [if_neg (by omega), if_pos (by omega)]
    have := h.r k (by omega)
    rw [show m - (i - j) + k = m - i + j + k by omega, this]; congr 1; omega
  · unfold swr
    rw [if_neg (by omega), if_neg (by omega)]
    have := h.r (j + k) (by omega)
    rw [show m - (i - j) + j + k = m - i + j + (j + k) by omega, this]; congr 1; omega
theorem Rot.right {T τ : Nat → Nat} {a m b i j : Nat} (h : Rot T τ a m b i j) (him : i ≤ m) (hij : i < j) : Rot T (swr τ (m - i) (m + j - i) i) a m b i (j - i) := by
  refine ⟨fun p hp => ?_, fun k hk => ?_, fun k hk => ?_⟩
  · unfold swr
    by_cases c1 : m + j - i ≤ p ∧ p < m + j - i + i
    · rw [if_neg (by omega), if_pos c1]
      have := h.r (p - (m + j - i)) (by omega)
      rw [show m - i + j + (p - (m + j - i)) = p by omega] at this
      rw [this]; congr 1; omega
    · rw [if_neg (by omega), if_neg c1]
      exact h.out p (by omega)
  · unfold swr
    rw [if_neg (by omega), if_neg (by omega)]
    exact h.l k (by omega)
  · unfold swr
    rw [if_pos (by omega)]
    have := h.l (j - i + k) (by omega)
    rw [show m - i + (j - i) + k = m - i + (j - i + k) by omega, this]; congr 1; omega
theorem Rot.last {T τ : Nat → Nat} {a m b i : Nat} (h : Rot T τ a m b i i) (him : i ≤ m) : swr τ (m - i) m i = T := by
  funext p
  unfold swr
  by_cases c1 : m - i ≤ p ∧ p < m - i + i
  · rw [if_pos c1]
    have := h.l (p - (m - i)) (by omega)
    rw [show m - i + (p - (m - i)) = p by omega] at this
    rw [this]; congr 1; omega
  · rw [if_neg c1]
    by_cases c2 : m ≤ p ∧ p < m + i
    · rw [if_pos c2]
      have := h.r (p - m) (by omega)
      rw [show m - i + i + (p - m) = p by omega] at this
      rw [this]; congr 1; omega
    · rw [if_neg c2]
      exact h.out p (by omega)
theorem rtt_smp (σ : Nat → Nat) {s m e : Nat} (h1 : s ≤ m) (h2 : m ≤ e) : Smp σ (rtt σ s m e) s e := by
  refine ⟨fun p k1 k2 => ?_, fun q k1 k2 => ?_⟩
  · unfold rtt
    by_cases c : s ≤ p ∧ p < s + (e - m)
    · exact ⟨p - s + m, by omega, by omega, by rw [if_pos c]⟩
    · exact ⟨p - (e - m), by omega, by omega, by rw [if_neg c, if_pos (by omega)]⟩
  · unfold rtt
    by_cases c : q < m
    · exact ⟨q + (e - m), by omega, by omega, by rw [if_neg (by omega), if_pos (by omega), Nat.add_sub_cancel]⟩
    · exact ⟨q - m + s, by omega, by omega, by rw [if_pos (by omega)]; congr 1; omega⟩
theorem rtt_oth (σ : Nat → Nat) {s m e : Nat} (h1 : s ≤ m) (h2 : m ≤ e) : Oth σ (rtt σ s m e) s e := fun p hp => by
  unfold rtt; rw [if_neg (by omega), if_neg (by omega)]
theorem rtt_same (σ : Nat → Nat) {s m e : Nat} (h : s = m ∨ e = m) (h1 : s ≤ m) (h2 : m ≤ e) : rtt σ s m e = σ := by
  funext p; unfold rtt
  by_cases c : s ≤ p ∧ p < s + (e - m)
  · rw [if_pos c]; congr 1; omega
  · rw [if_neg c]
    by_cases d : s + (e - m) ≤ p ∧ p < e
    · rw [if_pos d]; congr 1; omega
    · rw [if_neg d]
/-! the merge -/
/-- how the two runs are cut: so many of the left one stay, so many of the right one come ahead -/
structure Cut (X σ : Nat → Nat) (a m b mid st en : Nat) : Prop where
  h1 : a ≤ st
  h2 : st ≤ m
  h3 : m ≤ en
  h4 : en ≤ b
  he : st + (en - m) = mid
  lo : ∀ p q, a ≤ p → p < st → en ≤ q → q < b → ¬ val X (σ q) < val X (σ p)
  hi : ∀ p q, st ≤ p → p < m → m ≤ q → q < en → val X (σ q) < val X (σ p)
theorem Cut.facts {X σ : Nat → Nat} {a m b mid st en : Nat} (c : Cut X σ a m b mid st en) (r1 : Run X σ a m) (r2 : Run X σ m b) (hs : Sep σ a m b) :
    Run X (rtt σ st m en) a st ∧ Run X (rtt σ st m en) st mid ∧ Sep (rtt σ st m en) a st mid ∧ Run X (rtt σ st m en) mid en ∧ Run X (rtt σ st m en) en b ∧ Sep (rtt σ st m en) mid en b ∧
    ∀ p q, a ≤ p → p < mid → mid ≤ q → q < b → ltX X (rtt σ st m en p) (rtt σ st m en q) := by
  obtain ⟨h1, h2, h3, h4, he, lo, hi⟩ := c
  have e1 : ∀ p, p < st → rtt σ st m en p = σ p := fun p k => by unfold rtt; rw [if_neg (by omega), if_neg (by omega)]
  have e2 : ∀ p, st ≤ p → p < mid → rtt σ st m en p = σ (p - st + m) := fun p k1 k2 => by unfold rtt; rw [if_pos (by omega)]
  have e3 : ∀ p, mid ≤ p → p < en → rtt σ st m en p = σ (p - (en - m)) := fun p k1 k2 => by unfold rtt; rw [if_neg (by omega), if_pos (by omega)]
  have e4 : ∀ p, en ≤ p → rtt σ st m en p = σ p := fun p k => by unfold rtt; rw [if_neg (by omega), if_neg (by omega)]
  refine ⟨?_, ?_, ?_, ?_, ?_, ?_, ?_⟩
  · intro p q k1 k2 k3
    rw [e1 p (by omega), e1 q k3]; exact r1 p q k1 k2 (by omega)
  · intro p q k1 k2 k3
    rw [e2 p k1 (by omega), e2 q (by omega) k3]; exact r2 _ _ (by omega) (by omega) (by omega)
  · intro p q k1 k2 k3 k4
    rw [e1 p k2, e2 q k3 k4]; exact hs _ _ k1 (by omega) (by omega) (by omega)
  · intro p q k1 k2 k3
    rw [e3 p k1 (by omega), e3 q (by omega) k3]; exact r1 _ _ (by omega) (by omega) (by omega)
  · intro p q k1 k2 k3
    rw [e4 p k1, e4 q (by omega)]; exact r2 _ _ (by omega) k2 k3
  · intro p q k1 k2 k3 k4
    rw [e3 p k1 k2, e4 q k3]; exact hs _ _ (by omega) (by omega) (by omega) k4
  · intro p q k1 k2 k3 k4
    by_cases c1 : p < st
    · rw [e1 p c1]
      by_cases c2 : q < en
      · rw [e3 q k3 c2]; exact r1 _ _ k1 (by omega) (by omega)
      · rw [e4 q (by omega)]
        have := lo p q k1 c1 (by omega) k4
        have := hs p q k1 (by omega) (by omega) k4
        unfold ltX; omega
    · rw [e2 p (by omega) k2]
      by_cases c2 : q < en
      · rw [e3 q k3 c2]
        exact .inl (hi _ _ (by omega) (by omega) (by omega) (by omega))
      · rw [e4 q (by omega)]; exact r2 _ _ (by omega) (by omega) k4
/-- both halves sorted, all of the one ahead of all of the other -/
theorem join_run {X σ τ υ : Nat → Nat} {a mid b : Nat} (c : ∀ p q, a ≤ p → p < mid → mid ≤ q → q < b → ltX X (σ p) (σ q))
    (r1 : Run X τ a mid) (s1 : Smp σ τ a mid) (o1 : Oth σ τ a mid) (r2 : Run X υ mid b) (s2 : Smp τ υ mid b) (o2 : Oth τ υ mid b) : Run X υ a b := by
  intro p q h1 h2 h3
  by_cases c1 : q < mid
  · rw [o2 p (by omega), o2 q (by omega)]; exact r1 p q h1 h2 c1
  · by_cases c2 : mid ≤ p
    · exact r2 p q c2 h2 h3
    · rw [o2 p (by omega)]
      obtain ⟨p', p1, p2, e1⟩ := s1.1 p h1 (by omega)
      obtain ⟨q', q1, q2, e2⟩ := s2.1 q (by omega) h3
      rw [e1, e2, o1 q' (by omega)]
      exact c _ _ p1 p2 q1 q2
/-! a stretch that is sorted and holds its own elements -/
structure Seg (X σ : Nat → Nat) (a b : Nat) : Prop where
  run : Run X σ a b
  ins : ∀ p, a ≤ p → p < b → a ≤ σ p ∧ σ p < b
  has : ∀ t, a ≤ t → t < b → ∃ p, a ≤ p ∧ p < b ∧ σ p = t
theorem Seg.same {X σ τ : Nat → Nat} {a b : Nat} (h : Seg X σ a b) (e : ∀ p, a ≤ p → p < b → τ p = σ p) : Seg X τ a b := by
  refine ⟨h.run.same e, fun p h1 h2 => by rw [e p h1 h2]; exact h.ins p h1 h2, fun t h1 h2 => ?_⟩
  obtain ⟨p, p1, p2, p3⟩ := h.has t h1 h2
  exact ⟨p, p1, p2, by rw [e p p1 p2]; exact p3⟩
theorem Seg.sep {X σ : Nat → Nat} {a m b : Nat} (h : Seg X σ a m) (k : Seg X σ m b) : Sep σ a m b := fun p q h1 h2 h3 h4 => by
  have := (h.ins p h1 h2).2
  have := (k.ins q h3 h4).1
  omega
theorem Seg.merge {X σ τ : Nat → Nat} {a m b : Nat} (h1 : a ≤ m) (h2 : m ≤ b) (h : Seg X σ a m) (k : Seg X σ m b) (r : Run X τ a b) (s : Smp σ τ a b) : Seg X τ a b := by
  refine ⟨r, fun p p1 p2 => ?_, fun t t1 t2 => ?_⟩
  · obtain ⟨q, q1, q2, e⟩ := s.1 p p1 p2
    rw [e]
    by_cases c : q < m
    · have := h.ins q q1 c; omega
    · have := k.ins q (by omega) q2; omega
  · by_cases c : t < m
    · obtain ⟨q, q1, q2, e⟩ := h.has t t1 c
      obtain ⟨p, p1, p2, e2⟩ := s.2 q q1 (by omega)
      exact ⟨p, p1, p2, e2.trans e⟩
    · obtain ⟨q, q1, q2, e⟩ := k.has t (by omega) t2
      obtain ⟨p, p1, p2, e2⟩ := s.2 q (by omega) q2
      exact ⟨p, p1, p2, e2.trans e⟩
theorem Seg.one {X σ : Nat → Nat} {m : Nat} (h : σ m = m) : Seg X σ m (m + 1) := by
  refine ⟨fun p q h1 h2 h3 => by omega, fun p h1 h2 => ?_, fun t h1 h2 => ?_⟩
  · obtain rfl : p = m := by omega
    rw [h]; omega
  · obtain rfl : t = m := by omega
    exact ⟨t, h1, h2, h⟩
theorem Seg.none (X σ : Nat → Nat) (a : Nat) : Seg X σ a a := ⟨fun p q h1 h2 h3 => by omega, fun p h1 h2 => by omega, fun t h1 h2 => by omega⟩
theorem Seg.put {X σ : Nat → Nat} {a i m : Nat} (h : Seg X σ a m) (hm : σ m = m) (hi : a ≤ i) (him : i ≤ m)
    (lo : ∀ p, a ≤ p → p < i → ¬ val X (σ m) < val X (σ p)) (hi2 : ∀ p, i ≤ p → p < m → val X (σ m) < val X (σ p)) : Seg X (rotR σ m i) a (m + 1) :=
  Seg.merge (by omega) (Nat.le_succ m) h (Seg.one hm) (rotR_run hi him h.run (h.sep (Seg.one hm)) lo hi2) (rotR_smp σ hi him)
/-- there is but one such order -/
theorem Seg.unique {X σ τ : Nat → Nat} {n : Nat} (h : Seg X σ 0 n) (k : Seg X τ 0 n) : ∀ p, p < n → σ p = τ p := by
  intro p
  induction p using Nat.strongRecOn with
  | ind p ih =>
    intro hp
    obtain ⟨q, _, q2, e⟩ := k.has (σ p) (Nat.zero_le _) (h.ins p (Nat.zero_le _) hp).2
    obtain ⟨r, _, r2, e2⟩ := h.has (τ p) (Nat.zero_le _) (k.ins p (Nat.zero_le _) hp).2
    rcases Nat.lt_trichotomy q p with c | c | c
    · have := ih q c q2
      have := h.run q p (Nat.zero_le _) c hp
      rw [ih q c q2, e] at this
      exact this.irr.elim
    · rw [← e, c]
    · rcases Nat.lt_trichotomy r p with d | d | d
      · have := k.run r p (Nat.zero_le _) d hp
        rw [← ih r d r2, e2] at this
        exact this.irr.elim
      · rw [d] at e2; exact e2
      · have x1 := k.run p q (Nat.zero_le _) c q2
        have x2 := h.run p r (Nat.zero_le _) d r2
        rw [e] at x1
        rw [e2] at x2
        exact (x1.asym x2).elim
/-- the model's sorted list is in this order -/
theorem srt_seg {X : Nat → Nat} : ∀ n, (∀ j, j < n → finB (X j) = true) → ∃ τ, Seg X τ 0 n ∧ (∀ p, n ≤ p → τ p = p) ∧ ∀ p, p < n → srt X n p = X (τ p)
  | 0, _ => ⟨fun p => p, Seg.none _ _ _, fun p _ => rfl, fun p h => absurd h (Nat.not_lt_zero _)⟩
  | n + 1, hf => by
    obtain ⟨τ, h, ho, he⟩ := srt_seg n (fun j hj => hf j (by omega))
    have hf' : ∀ j, j < n → finB (X j) = true := fun j hj => hf j (by omega)
    obtain ⟨l1, l2⟩ := posn_spec (hf n (by omega)) n (srt_fin hf') (srt_rises n hf')
    have hp := posn_le (srt X n) (X n) n
    have hn := ho n (Nat.le_refl _)
    refine ⟨rotR τ n (posn (srt X n) (X n) n), h.put hn (Nat.zero_le _) hp (fun p _ h2 => ?_) (fun p h1 h2 => ?_), fun p hpn => ?_, fun p hpn => ?_⟩
    · have := l1 p h2
      unfold val
      rw [hn, ← he p (by omega)]; omega
    · have := l2 p h1 h2
      unfold val
      rw [hn, ← he p h2]; exact this
    · unfold rotR
      rw [if_neg (by omega), if_neg (by omega)]; exact ho p (by omega)
    · show insF (srt X n) (posn (srt X n) (X n) n) (X n) p = _
      generalize posn (srt X n) (X n) n = q at *
      unfold insF rotR
      by_cases c1 : p < q
      · rw [if_pos c1, if_neg (by omega), if_neg (by omega)]; exact he p (by omega)
      · rw [if_neg c1]
        by_cases c2 : p = q
        · rw [if_pos c2, if_pos c2, hn]
        · rw [if_neg c2, if_neg c2, if_pos (by omega)]; exact he (p - 1) (by omega)
theorem seg_srt {X σ : Nat → Nat} {n : Nat} (hf : ∀ j, j < n → finB (X j) = true) (h : Seg X σ 0 n) {p : Nat} (hp : p < n) : X (σ p) = srt X n p := by
  obtain ⟨τ, k, _, he⟩ := srt_seg n hf
  rw [he p hp, h.unique k p hp]
end Go.Proofs.Ytlbapogmcnpmeaa.Avg
