/- Several texts in one: SrtP, SrtC, SrtR, SrtM, SrtN. -/
import Derived.Test.YtlbapogmcnpmeaaAvgU
import Derived.Test.YtlbapogmcnpmeaaAvgI
import Derived.Shelf.RegionOpenPlain
/- Plain facts on stable sorting: the elements are told by their places in the list; order by value, then by place; runs that are sorted, moves to the right and to the left, rotation, the merge by symmetric comparisons. No program stands here. -/
namespace Go.Proofs.Ytlbapogmcnpmeaa.Avg
open Go.ChangeShapes Go.WideShapes Go.ChangeAt Go.RowKit Go.Deep Go.Proofs.Ytlbapogmcnpmeaa Go.Proofs.Ytlbapogmcnpmeaa.Flt Go.Proofs.Ytlbapogmcnpmeaa.Mth Go.Proofs.Ytlbapogmcnpmeaa.Sgl
open Ieee (single double)
set_option linter.unusedVariables false
section
variable (X : Nat → Nat)
/-- the value of an element -/
def val (t : Nat) : Int := sv single (X t)
/-- by value, then by place -/
def ltX (t u : Nat) : Prop := val X t < val X u ∨ (val X t = val X u ∧ t < u)
end
theorem ltX.trans {X : Nat → Nat} {t u v : Nat} (h : ltX X t u) (k : ltX X u v) : ltX X t v := by unfold ltX at *; omega
theorem ltX.irr {X : Nat → Nat} {t : Nat} (h : ltX X t t) : False := by unfold ltX at h; omega
theorem ltX.asym {X : Nat → Nat} {t u : Nat} (h : ltX X t u) (k : ltX X u t) : False := (h.trans k).irr
theorem ltX.le {X : Nat → Nat} {t u : Nat} (h : ltX X t u) : val X t ≤ val X u := by unfold ltX at h; omega
/-- a run that is sorted -/
def Run (X σ : Nat → Nat) (a b : Nat) : Prop := ∀ p q, a ≤ p → p < q → q < b → ltX X (σ p) (σ q)
/-- the elements of one run stand ahead of those of the other in the list -/
def Sep (σ : Nat → Nat) (a m b : Nat) : Prop := ∀ p q, a ≤ p → p < m → m ≤ q → q < b → σ p < σ q
/-- the same elements -/
def Smp (σ σ' : Nat → Nat) (a b : Nat) : Prop := (∀ p, a ≤ p → p < b → ∃ q, a ≤ q ∧ q < b ∧ σ' p = σ q) ∧ (∀ q, a ≤ q → q < b → ∃ p, a ≤ p ∧ p < b ∧ σ' p = σ q)
/-- nothing else has turned -/
def Oth (σ σ' : Nat → Nat) (a b : Nat) : Prop := ∀ p, p < a ∨ b ≤ p → σ' p = σ p
theorem Smp.refl (σ : Nat → Nat) (a b : Nat) : Smp σ σ a b := ⟨fun p h k => ⟨p, h, k, rfl⟩, fun p h k => ⟨p, h, k, rfl⟩⟩
theorem Oth.refl (σ : Nat → Nat) (a b : Nat) : Oth σ σ a b := fun _ _ => rfl
theorem Smp.trans {σ τ υ : Nat → Nat} {a b : Nat} (h : Smp σ τ a b) (k : Smp τ υ a b) : Smp σ υ a b := by
  refine ⟨fun p h1 h2 => ?_, fun q h1 h2 => ?_⟩
  · obtain ⟨q, q1, q2, e⟩ := k.1 p h1 h2
    obtain ⟨r, r1, r2, e2⟩ := h.1 q q1 q2
    exact ⟨r, r1, r2, e.trans e2⟩
  · obtain ⟨p, p1, p2, e⟩ := h.2 q h1 h2
    obtain ⟨r, r1, r2, e2⟩ := k.2 p p1 p2
    exact ⟨r, r1, r2, e2.trans e⟩
theorem Oth.trans {σ τ υ : Nat → Nat} {a b : Nat} (h : Oth σ τ a b) (k : Oth τ υ a b) : Oth σ υ a b := fun p hp => (k p hp).trans (h p hp)
theorem Oth.mono {σ τ : Nat → Nat} {a b c d : Nat} (h : Oth σ τ c d) (h1 : a ≤ c) (h2 : d ≤ b) : Oth σ τ a b := fun p hp => h p (by omega)
theorem Smp.wide {σ τ : Nat → Nat} {a b c d : Nat} (h : Smp σ τ c d) (o : Oth σ τ c d) (h1 : a ≤ c) (h2 : d ≤ b) : Smp σ τ a b := by
  refine ⟨fun p p1 p2 => ?_, fun q q1 q2 => ?_⟩
  · by_cases hp : c ≤ p ∧ p < d
    · obtain ⟨q, q1, q2, e⟩ := h.1 p hp.1 hp.2
      exact ⟨q, by omega, by omega, e⟩
    · exact ⟨p, p1, p2, o p (by omega)⟩
  · by_cases hq : c ≤ q ∧ q < d
    · obtain ⟨p, p1, p2, e⟩ := h.2 q hq.1 hq.2
      exact ⟨p, by omega, by omega, e⟩
    · exact ⟨q, q1, q2, o q (by omega)⟩
theorem Run.same {X σ τ : Nat → Nat} {a b : Nat} (h : Run X σ a b) (e : ∀ p, a ≤ p → p < b → τ p = σ p) : Run X τ a b := fun p q h1 h2 h3 => by
  rw [e p h1 (by omega), e q (by omega) h3]; exact h p q h1 h2 h3
theorem Sep.same {σ τ : Nat → Nat} {a m b : Nat} (h : Sep σ a m b) (e : ∀ p, a ≤ p → p < b → τ p = σ p) : Sep τ a m b := fun p q h1 h2 h3 h4 => by
  rw [e p h1 (by omega), e q (by omega) h4]; exact h p q h1 h2 h3 h4
/-! one element goes to the right, or to the left -/
def rotL (σ : Nat → Nat) (a k : Nat) : Nat → Nat := fun p => if a ≤ p ∧ p < k then σ (p + 1) else if p = k then σ a else σ p
def rotR (σ : Nat → Nat) (m k : Nat) : Nat → Nat := fun p => if p = k then σ m else if k < p ∧ p ≤ m then σ (p - 1) else σ p
def swp (σ : Nat → Nat) (i j : Nat) : Nat → Nat := fun p => if p = i then σ j else if p = j then σ i else σ p
theorem rotL_zero (σ : Nat → Nat) (a : Nat) : rotL σ a a = σ := by
  funext p; unfold rotL
  rw [if_neg (by omega)]
  by_cases h : p = a
  · rw [if_pos h, h]
  · rw [if_neg h]
theorem rotR_zero (σ : Nat → Nat) (m : Nat) : rotR σ m m = σ := by
  funext p; unfold rotR
  by_cases h : p = m
  · rw [if_pos h, h]
  · rw [if_neg h, if_neg (by omega)]
theorem rotL_step (σ : Nat → Nat) {a k : Nat} (h : a ≤ k) : swp (rotL σ a k) k (k + 1) = rotL σ a (k + 1) := by
  funext p
  unfold swp
  by_cases h1 : p = k
  · rw [if_pos h1]
    unfold rotL
    rw [if_neg (by omega), if_neg (by omega), if_pos (by omega), h1]
  · rw [if_neg h1]
    by_cases h2 : p = k + 1
    · rw [if_pos h2]
      unfold rotL
      rw [if_neg (by omega), if_pos rfl, if_neg (by omega), if_pos h2]
    · rw [if_neg h2]
      unfold rotL
      by_cases h3 : a ≤ p ∧ p < k
      · rw [if_pos h3, if_pos (by omega)]
      · rw [if_neg h3, if_neg h1, if_neg (by omega), if_neg h2]
theorem rotR_step (σ : Nat → Nat) {m k : Nat} (h : k < m) : swp (rotR σ m (k + 1)) (k + 1) k = rotR σ m k := by
  funext p
  unfold swp
  by_cases h1 : p = k + 1
  · rw [if_pos h1]
    unfold rotR
    rw [if_neg (by omega), if_neg (by omega), if_neg (by omega), if_pos (by omega), h1, Nat.add_sub_cancel]
  · rw [if_neg h1]
    by_cases h2 : p = k
    · rw [if_pos h2]
      unfold rotR
      rw [if_pos rfl, if_pos h2]
    · rw [if_neg h2]
      unfold rotR
      rw [if_neg h1, if_neg h2]
      by_cases h3 : k + 1 < p ∧ p ≤ m
      · rw [if_pos h3, if_pos (by omega)]
      · rw [if_neg h3, if_neg (by omega)]
theorem rotL_smp (σ : Nat → Nat) {a k b : Nat} (h : a ≤ k) (hk : k < b) : Smp σ (rotL σ a k) a b := by
  refine ⟨fun p h1 h2 => ?_, fun q h1 h2 => ?_⟩
  · unfold rotL
    by_cases h3 : a ≤ p ∧ p < k
    · exact ⟨p + 1, by omega, by omega, by rw [if_pos h3]⟩
    · by_cases h4 : p = k
      · exact ⟨a, by omega, by omega, by rw [if_neg h3, if_pos h4]⟩
      · exact ⟨p, h1, h2, by rw [if_neg h3, if_neg h4]⟩
  · unfold rotL
    by_cases h3 : q = a
    · exact ⟨k, by omega, by omega, by rw [if_neg (by omega), if_pos rfl, h3]⟩
    · by_cases h4 : q ≤ k
      · exact ⟨q - 1, by omega, by omega, by rw [if_pos (by omega), Nat.sub_add_cancel (by omega)]⟩
      · exact ⟨q, h1, h2, by rw [if_neg (by omega), if_neg (by omega)]⟩
theorem rotL_oth (σ : Nat → Nat) {a k b : Nat} (h : a ≤ k) (hk : k < b) : Oth σ (rotL σ a k) a b := fun p hp => by
  unfold rotL; rw [if_neg (by omega), if_neg (by omega)]
theorem rotR_smp (σ : Nat → Nat) {a k m : Nat} (h : a ≤ k) (hk : k ≤ m) : Smp σ (rotR σ m k) a (m + 1) := by
  refine ⟨fun p h1 h2 => ?_, fun q h1 h2 => ?_⟩
  · unfold rotR
    by_cases h3 : p = k
    · exact ⟨m, by omega, by omega, by rw [if_pos h3]⟩
    · by_cases h4 : k < p ∧ p ≤ m
      · exact ⟨p - 1, by omega, by omega, by rw [if_neg h3, if_pos h4]⟩
      · exact ⟨p, h1, h2, by rw [if_neg h3, if_neg h4]⟩
  · unfold rotR
    by_cases h3 : q = m
    · exact ⟨k, by omega, by omega, by rw [if_pos rfl, h3]⟩
    · by_cases h4 : k ≤ q
      · exact ⟨q + 1, by omega, by omega, by rw [if_neg (by omega), if_pos (by omega), Nat.add_sub_cancel]⟩
      · exact ⟨q, h1, by omega, by rw [if_neg (by omega), if_neg (by omega)]⟩
theorem rotR_oth (σ : Nat → Nat) {a k m : Nat} (h : a ≤ k) (hk : k ≤ m) : Oth σ (rotR σ m k) a (m + 1) := fun p hp => by
  unfold rotR; rw [if_neg (by omega), if_neg (by omega)]
/-- the first element goes into the run behind it -/
theorem rotL_run {X σ : Nat → Nat} {a i b : Nat} (hi : a + 1 ≤ i) (hb : i ≤ b) (h2 : Run X σ (a + 1) b) (hs : Sep σ a (a + 1) b)
    (lo : ∀ q, a + 1 ≤ q → q < i → val X (σ q) < val X (σ a)) (hi2 : ∀ q, i ≤ q → q < b → ¬ val X (σ q) < val X (σ a)) : Run X (rotL σ a (i - 1)) a b := by
  intro p q h3 h4 h5
  have e1 : ∀ p, a ≤ p → p < i - 1 → rotL σ a (i - 1) p = σ (p + 1) := fun p k1 k2 => by unfold rotL; rw [if_pos ⟨k1, k2⟩]
  have e2 : rotL σ a (i - 1) (i - 1) = σ a := by unfold rotL; rw [if_neg (by omega), if_pos rfl]
  have e3 : ∀ p, i ≤ p → rotL σ a (i - 1) p = σ p := fun p k1 => by unfold rotL; rw [if_neg (by omega), if_neg (by omega)]
  have f2 : ∀ q, i ≤ q → q < b → ltX X (σ a) (σ q) := fun q k1 k2 => by
    have := hi2 q k1 k2
    have := hs a q (by omega) (by omega) (by omega) k2
    unfold ltX; omega
  by_cases c1 : p < i - 1
  · rw [e1 p h3 c1]
    by_cases c2 : q < i - 1
    · rw [e1 q (by omega) c2]; exact h2 _ _ (by omega) (by omega) (by omega)
    · by_cases c3 : q = i - 1
      · rw [c3, e2]; exact .inl (lo _ (by omega) (by omega))
      · rw [e3 q (by omega)]; exact h2 _ _ (by omega) (by omega) h5
  · by_cases c2 : p = i - 1
    · rw [c2, e2, e3 q (by omega)]; exact f2 q (by omega) h5
    · rw [e3 p (by omega), e3 q (by omega)]; exact h2 _ _ (by omega) h4 h5
/-- the element behind a run goes into it -/
theorem rotR_run {X σ : Nat → Nat} {a i m : Nat} (hi : a ≤ i) (him : i ≤ m) (h1 : Run X σ a m) (hs : Sep σ a m (m + 1))
    (lo : ∀ p, a ≤ p → p < i → ¬ val X (σ m) < val X (σ p)) (hi2 : ∀ p, i ≤ p → p < m → val X (σ m) < val X (σ p)) : Run X (rotR σ m i) a (m + 1) := by
  intro p q h3 h4 h5
  have e1 : ∀ p, p < i → rotR σ m i p = σ p := fun p k1 => by unfold rotR; rw [if_neg (by omega), if_neg (by omega)]
  have e2 : rotR σ m i i = σ m := by unfold rotR; rw [if_pos rfl]
  have e3 : ∀ p, i < p → p ≤ m → rotR σ m i p = σ (p - 1) := fun p k1 k2 => by unfold rotR; rw [if_neg (by omega), if_pos ⟨k1, k2⟩]
  have f1 : ∀ p, a ≤ p → p < i → ltX X (σ p) (σ m) := fun p k1 k2 => by
    have := lo p k1 k2
    have := hs p m k1 (by omega) (Nat.le_refl _) (by omega)
    unfold ltX; omega
  by_cases c1 : p < i
  · rw [e1 p c1]
    by_cases c2 : q < i
    · rw [e1 q c2]; exact h1 _ _ h3 h4 (by omega)
    · by_cases c3 : q = i
      · rw [c3, e2]; exact f1 p h3 c1
      · rw [e3 q (by omega) (by omega)]; exact h1 _ _ h3 (by omega) (by omega)
  · by_cases c2 : p = i
    · rw [c2, e2, e3 q (by omega) (by omega)]; exact .inl (hi2 _ (by omega) (by omega))
    · rw [e3 p (by omega) (by omega), e3 q (by omega) (by omega)]; exact h1 _ _ (by omega) (by omega) (by omega)
/-! rotation -/
def rtt (σ : Nat → Nat) (s m e : Nat) : Nat → Nat := fun p => if s ≤ p ∧ p < s + (e - m) then σ (p - s + m) else if s + (e - m) ≤ p ∧ p < e then σ (p - (e - m)) else σ p
def swr (σ : Nat → Nat) (p q L : Nat) : Nat → Nat := fun x => if p ≤ x ∧ x < p + L then σ (x - p + q) else if q ≤ x ∧ x < q + L then σ (x - q + p) else σ x
theorem swr_step (σ : Nat → Nat) {p q L : Nat} (h : p + L < q) : swp (swr σ p q L) (p + L) (q + L) = swr σ p q (L + 1) := by
  funext x
  unfold swp
  by_cases h1 : x = p + L
  · rw [if_pos h1]
    unfold swr
    rw [if_neg (by omega), if_neg (by omega), if_pos (by omega)]
    congr 1; omega
  · rw [if_neg h1]
    by_cases h2 : x = q + L
    · rw [if_pos h2]
      unfold swr
      rw [if_neg (by omega), if_neg (by omega), if_neg (by omega), if_pos (by omega)]
      congr 1; omega
    · rw [if_neg h2]
      unfold swr
      by_cases h3 : p ≤ x ∧ x < p + L
      · rw [if_pos h3, if_pos (by omega)]
      · rw [if_neg h3, if_neg (show ¬ (p ≤ x ∧ x < p + (L + 1)) by omega)]
        by_cases h4 : q ≤ x ∧ x < q + L
        · rw [if_pos h4, if_pos (by omega)]
        · rw [if_neg h4, if_neg (by omega)]
theorem swr_zero (σ : Nat → Nat) (p q : Nat) : swr σ p q 0 = σ := by
  funext x; unfold swr; rw [if_neg (by omega), if_neg (by omega)]
/-- what is still to be rotated: so many ahead of the middle, so many behind it -/
structure Rot (T τ : Nat → Nat) (a m b i j : Nat) : Prop where
  out : ∀ p, p < m - i ∨ m + j ≤ p → τ p = T p
  l : ∀ k, k < j → T (m - i + k) = τ (m + k)
  r : ∀ k, k < i → T (m - i + j + k) = τ (m - i + k)
theorem Rot.start (σ : Nat → Nat) {a m b : Nat} (h1 : a ≤ m) (h2 : m ≤ b) : Rot (rtt σ a m b) σ a m b (m - a) (b - m) := by
  refine ⟨fun p hp => ?_, fun k hk => ?_, fun k hk => ?_⟩
  · unfold rtt; rw [if_neg (by omega), if_neg (by omega)]
  · unfold rtt; rw [if_pos (by omega)]; congr 1; omega
  · unfold rtt; rw [if_neg (by omega), if_pos (by omega)]; congr 1; omega
theorem Rot.left {T τ : Nat → Nat} {a m b i j : Nat} (h : Rot T τ a m b i j) (him : i ≤ m) (hij : j < i) : Rot T (swr τ (m - i) m j) a m b (i - j) j := by
  refine ⟨fun p hp => ?_, fun k hk => ?_, fun k hk => ?_⟩
  · unfold swr
    by_cases c1 : m - i ≤ p ∧ p < m - i + j
    · rw [if_pos c1]
      have := h.l (p - (m - i)) (by omega)
      rw [show m - i + (p - (m - i)) = p by omega] at this
      rw [this]; congr 1; omega
    · rw [if_neg c1, if_neg (by omega)]
      exact h.out p (by omega)
  · unfold swr
    rw [if_neg (by omega), if_pos (by omega)]
    have := h.r k (by omega)
    rw [show m - (i - j) + k = m - i + j + k by omega, this]; congr 1; omega
  · unfold swr
    rw [if_neg (by omega), if_neg (by omega)]
    have := h.r (j + k) (by omega)
    rw [show m - (i - j) + j + k = m - i + j + (j + k) by omega, this]; congr 1; omega
theorem Rot.right {T τ : Nat → Nat} {a m b i j : Nat} (h : Rot T τ a m b i j) (him : i ≤ m) (hij : i < j) : Rot T (swr τ (m - i) (m + j - i) i) a m b i (j - i) := by
  refine ⟨fun p hp => ?_, fun k hk => ?_, fun k hk => ?_⟩
  · unfold swr
    by_cases c1 : m + j - i ≤ p ∧ p < m + j - i + i
    · rw [if_neg (by omega), if_pos c1]
      have := h.r (p - (m + j - i)) (by omega)
      rw [show m - i + j + (p - (m + j - i)) = p by omega] at this
      rw [this]; congr 1; omega
    · rw [if_neg (by omega), if_neg c1]
      exact h.out p (by omega)
  · unfold swr
    rw [if_neg (by omega), if_neg (by omega)]
    exact h.l k (by omega)
  · unfold swr
    rw [if_pos (by omega)]
    have := h.l (j - i + k) (by omega)
    rw [show m - i + (j - i) + k = m - i + (j - i + k) by omega, this]; congr 1; omega
theorem Rot.last {T τ : Nat → Nat} {a m b i : Nat} (h : Rot T τ a m b i i) (him : i ≤ m) : swr τ (m - i) m i = T := by
  funext p
  unfold swr
  by_cases c1 : m - i ≤ p ∧ p < m - i + i
  · rw [if_pos c1]
    have := h.l (p - (m - i)) (by omega)
    rw [show m - i + (p - (m - i)) = p by omega] at this
    rw [this]; congr 1; omega
  · rw [if_neg c1]
    by_cases c2 : m ≤ p ∧ p < m + i
    · rw [if_pos c2]
      have := h.r (p - m) (by omega)
      rw [show m - i + i + (p - m) = p by omega] at this
      rw [this]; congr 1; omega
    · rw [if_neg c2]
      exact h.out p (by omega)
theorem rtt_smp (σ : Nat → Nat) {s m e : Nat} (h1 : s ≤ m) (h2 : m ≤ e) : Smp σ (rtt σ s m e) s e := by
  refine ⟨fun p k1 k2 => ?_, fun q k1 k2 => ?_⟩
  · unfold rtt
    by_cases c : s ≤ p ∧ p < s + (e - m)
    · exact ⟨p - s + m, by omega, by omega, by rw [if_pos c]⟩
    · exact ⟨p - (e - m), by omega, by omega, by rw [if_neg c, if_pos (by omega)]⟩
  · unfold rtt
    by_cases c : q < m
    · exact ⟨q + (e - m), by omega, by omega, by rw [if_neg (by omega), if_pos (by omega), Nat.add_sub_cancel]⟩
    · exact ⟨q - m + s, by omega, by omega, by rw [if_pos (by omega)]; congr 1; omega⟩
theorem rtt_oth (σ : Nat → Nat) {s m e : Nat} (h1 : s ≤ m) (h2 : m ≤ e) : Oth σ (rtt σ s m e) s e := fun p hp => by
  unfold rtt; rw [if_neg (by omega), if_neg (by omega)]
theorem rtt_same (σ : Nat → Nat) {s m e : Nat} (h : s = m ∨ e = m) (h1 : s ≤ m) (h2 : m ≤ e) : rtt σ s m e = σ := by
  funext p; unfold rtt
  by_cases c : s ≤ p ∧ p < s + (e - m)
  · rw [if_pos c]; congr 1; omega
  · rw [if_neg c]
    by_cases d : s + (e - m) ≤ p ∧ p < e
    · rw [if_pos d]; congr 1; omega
    · rw [if_neg d]
/-! the merge -/
/-- how the two runs are cut: so many of the left one stay, so many of the right one come ahead -/
structure Cut (X σ : Nat → Nat) (a m b mid st en : Nat) : Prop where
  h1 : a ≤ st
  h2 : st ≤ m
  h3 : m ≤ en
  h4 : en ≤ b
  he : st + (en - m) = mid
  lo : ∀ p q, a ≤ p → p < st → en ≤ q → q < b → ¬ val X (σ q) < val X (σ p)
  hi : ∀ p q, st ≤ p → p < m → m ≤ q → q < en → val X (σ q) < val X (σ p)
theorem Cut.facts {X σ : Nat → Nat} {a m b mid st en : Nat} (c : Cut X σ a m b mid st en) (r1 : Run X σ a m) (r2 : Run X σ m b) (hs : Sep σ a m b) :
    Run X (rtt σ st m en) a st ∧ Run X (rtt σ st m en) st mid ∧ Sep (rtt σ st m en) a st mid ∧ Run X (rtt σ st m en) mid en ∧ Run X (rtt σ st m en) en b ∧ Sep (rtt σ st m en) mid en b ∧
    ∀ p q, a ≤ p → p < mid → mid ≤ q → q < b → ltX X (rtt σ st m en p) (rtt σ st m en q) := by
  obtain ⟨h1, h2, h3, h4, he, lo, hi⟩ := c
  have e1 : ∀ p, p < st → rtt σ st m en p = σ p := fun p k => by unfold rtt; rw [if_neg (by omega), if_neg (by omega)]
  have e2 : ∀ p, st ≤ p → p < mid → rtt σ st m en p = σ (p - st + m) := fun p k1 k2 => by unfold rtt; rw [if_pos (by omega)]
  have e3 : ∀ p, mid ≤ p → p < en → rtt σ st m en p = σ (p - (en - m)) := fun p k1 k2 => by unfold rtt; rw [if_neg (by omega), if_pos (by omega)]
  have e4 : ∀ p, en ≤ p → rtt σ st m en p = σ p := fun p k => by unfold rtt; rw [if_neg (by omega), if_neg (by omega)]
  refine ⟨?_, ?_, ?_, ?_, ?_, ?_, ?_⟩
  · intro p q k1 k2 k3
    rw [e1 p (by omega), e1 q k3]; exact r1 p q k1 k2 (by omega)
  · intro p q k1 k2 k3
    rw [e2 p k1 (by omega), e2 q (by omega) k3]; exact r2 _ _ (by omega) (by omega) (by omega)
  · intro p q k1 k2 k3 k4
    rw [e1 p k2, e2 q k3 k4]; exact hs _ _ k1 (by omega) (by omega) (by omega)
  · intro p q k1 k2 k3
    rw [e3 p k1 (by omega), e3 q (by omega) k3]; exact r1 _ _ (by omega) (by omega) (by omega)
  · intro p q k1 k2 k3
    rw [e4 p k1, e4 q (by omega)]; exact r2 _ _ (by omega) k2 k3
  · intro p q k1 k2 k3 k4
    rw [e3 p k1 k2, e4 q k3]; exact hs _ _ (by omega) (by omega) (by omega) k4
  · intro p q k1 k2 k3 k4
    by_cases c1 : p < st
    · rw [e1 p c1]
      by_cases c2 : q < en
      · rw [e3 q k3 c2]; exact r1 _ _ k1 (by omega) (by omega)
      · rw [e4 q (by omega)]
        have := lo p q k1 c1 (by omega) k4
        have := hs p q k1 (by omega) (by omega) k4
        unfold ltX; omega
    · rw [e2 p (by omega) k2]
      by_cases c2 : q < en
      · rw [e3 q k3 c2]
        exact .inl (hi _ _ (by omega) (by omega) (by omega) (by omega))
      · rw [e4 q (by omega)]; exact r2 _ _ (by omega) (by omega) k4
/-- both halves sorted, all of the one ahead of all of the other -/
theorem join_run {X σ τ υ : Nat → Nat} {a mid b : Nat} (c : ∀ p q, a ≤ p → p < mid → mid ≤ q → q < b → ltX X (σ p) (σ q))
    (r1 : Run X τ a mid) (s1 : Smp σ τ a mid) (o1 : Oth σ τ a mid) (r2 : Run X υ mid b) (s2 : Smp τ υ mid b) (o2 : Oth τ υ mid b) : Run X υ a b := by
  intro p q h1 h2 h3
  by_cases c1 : q < mid
  · rw [o2 p (by omega), o2 q (by omega)]; exact r1 p q h1 h2 c1
  · by_cases c2 : mid ≤ p
    · exact r2 p q c2 h2 h3
    · rw [o2 p (by omega)]
      obtain ⟨p', p1, p2, e1⟩ := s1.1 p h1 (by omega)
      obtain ⟨q', q1, q2, e2⟩ := s2.1 q (by omega) h3
      rw [e1, e2, o1 q' (by omega)]
      exact c _ _ p1 p2 q1 q2
/-! a stretch that is sorted and holds its own elements -/
structure Seg (X σ : Nat → Nat) (a b : Nat) : Prop where
  run : Run X σ a b
  ins : ∀ p, a ≤ p → p < b → a ≤ σ p ∧ σ p < b
  has : ∀ t, a ≤ t → t < b → ∃ p, a ≤ p ∧ p < b ∧ σ p = t
theorem Seg.same {X σ τ : Nat → Nat} {a b : Nat} (h : Seg X σ a b) (e : ∀ p, a ≤ p → p < b → τ p = σ p) : Seg X τ a b := by
  refine ⟨h.run.same e, fun p h1 h2 => by rw [e p h1 h2]; exact h.ins p h1 h2, fun t h1 h2 => ?_⟩
  obtain ⟨p, p1, p2, p3⟩ := h.has t h1 h2
  exact ⟨p, p1, p2, by rw [e p p1 p2]; exact p3⟩
theorem Seg.sep {X σ : Nat → Nat} {a m b : Nat} (h : Seg X σ a m) (k : Seg X σ m b) : Sep σ a m b := fun p q h1 h2 h3 h4 => by
  have := (h.ins p h1 h2).2
  have := (k.ins q h3 h4).1
  omega
theorem Seg.merge {X σ τ : Nat → Nat} {a m b : Nat} (h1 : a ≤ m) (h2 : m ≤ b) (h : Seg X σ a m) (k : Seg X σ m b) (r : Run X τ a b) (s : Smp σ τ a b) : Seg X τ a b := by
  refine ⟨r, fun p p1 p2 => ?_, fun t t1 t2 => ?_⟩
  · obtain ⟨q, q1, q2, e⟩ := s.1 p p1 p2
    rw [e]
    by_cases c : q < m
    · have := h.ins q q1 c; omega
    · have := k.ins q (by omega) q2; omega
  · by_cases c : t < m
    · obtain ⟨q, q1, q2, e⟩ := h.has t t1 c
      obtain ⟨p, p1, p2, e2⟩ := s.2 q q1 (by omega)
      exact ⟨p, p1, p2, e2.trans e⟩
    · obtain ⟨q, q1, q2, e⟩ := k.has t (by omega) t2
      obtain ⟨p, p1, p2, e2⟩ := s.2 q (by omega) q2
      exact ⟨p, p1, p2, e2.trans e⟩
theorem Seg.one {X σ : Nat → Nat} {m : Nat} (h : σ m = m) : Seg X σ m (m + 1) := by
  refine ⟨fun p q h1 h2 h3 => by omega, fun p h1 h2 => ?_, fun t h1 h2 => ?_⟩
  · obtain rfl : p = m := by omega
    rw [h]; omega
  · obtain rfl : t = m := by omega
    exact ⟨t, h1, h2, h⟩
theorem Seg.none (X σ : Nat → Nat) (a : Nat) : Seg X σ a a := ⟨fun p q h1 h2 h3 => by omega, fun p h1 h2 => by omega, fun t h1 h2 => by omega⟩
theorem Seg.put {X σ : Nat → Nat} {a i m : Nat} (h : Seg X σ a m) (hm : σ m = m) (hi : a ≤ i) (him : i ≤ m)
    (lo : ∀ p, a ≤ p → p < i → ¬ val X (σ m) < val X (σ p)) (hi2 : ∀ p, i ≤ p → p < m → val X (σ m) < val X (σ p)) : Seg X (rotR σ m i) a (m + 1) :=
  Seg.merge (by omega) (Nat.le_succ m) h (Seg.one hm) (rotR_run hi him h.run (h.sep (Seg.one hm)) lo hi2) (rotR_smp σ hi him)
/-- there is but one such order -/
theorem Seg.unique {X σ τ : Nat → Nat} {n : Nat} (h : Seg X σ 0 n) (k : Seg X τ 0 n) : ∀ p, p < n → σ p = τ p := by
  intro p
  induction p using Nat.strongRecOn with
  | ind p ih =>
    intro hp
    obtain ⟨q, _, q2, e⟩ := k.has (σ p) (Nat.zero_le _) (h.ins p (Nat.zero_le _) hp).2
    obtain ⟨r, _, r2, e2⟩ := h.has (τ p) (Nat.zero_le _) (k.ins p (Nat.zero_le _) hp).2
    rcases Nat.lt_trichotomy q p with c | c | c
    · have := ih q c q2
      have := h.run q p (Nat.zero_le _) c hp
      rw [ih q c q2, e] at this
      exact this.irr.elim
    · rw [← e, c]
    · rcases Nat.lt_trichotomy r p with d | d | d
      · have := k.run r p (Nat.zero_le _) d hp
        rw [← ih r d r2, e2] at this
        exact this.irr.elim
      · rw [d] at e2; exact e2
      · have x1 := k.run p q (Nat.zero_le _) c q2
        have x2 := h.run p r (Nat.zero_le _) d r2
        rw [e] at x1
        rw [e2] at x2
        exact (x1.asym x2).elim
/-- the model's sorted list is in this order -/
theorem srt_seg {X : Nat → Nat} : ∀ n, (∀ j, j < n → finB (X j) = true) → ∃ τ, Seg X τ 0 n ∧ (∀ p, n ≤ p → τ p = p) ∧ ∀ p, p < n → srt X n p = X (τ p)
  | 0, _ => ⟨fun p => p, Seg.none _ _ _, fun p _ => rfl, fun p h => absurd h (Nat.not_lt_zero _)⟩
  | n + 1, hf => by
    obtain ⟨τ, h, ho, he⟩ := srt_seg n (fun j hj => hf j (by omega))
    have hf' : ∀ j, j < n → finB (X j) = true := fun j hj => hf j (by omega)
    obtain ⟨l1, l2⟩ := posn_spec (hf n (by omega)) n (srt_fin hf') (srt_rises n hf')
    have hp := posn_le (srt X n) (X n) n
    have hn := ho n (Nat.le_refl _)
    refine ⟨rotR τ n (posn (srt X n) (X n) n), h.put hn (Nat.zero_le _) hp (fun p _ h2 => ?_) (fun p h1 h2 => ?_), fun p hpn => ?_, fun p hpn => ?_⟩
    · have := l1 p h2
      unfold val
      rw [hn, ← he p (by omega)]; omega
    · have := l2 p h1 h2
      unfold val
      rw [hn, ← he p h2]; exact this
    · unfold rotR
      rw [if_neg (by omega), if_neg (by omega)]; exact ho p (by omega)
    · show insF (srt X n) (posn (srt X n) (X n) n) (X n) p = _
      generalize posn (srt X n) (X n) n = q at *
      unfold insF rotR
      by_cases c1 : p < q
      · rw [if_pos c1, if_neg (by omega), if_neg (by omega)]; exact he p (by omega)
      · rw [if_neg c1]
        by_cases c2 : p = q
        · rw [if_pos c2, if_pos c2, hn]
        · rw [if_neg c2, if_neg c2, if_pos (by omega)]; exact he (p - 1) (by omega)
theorem seg_srt {X σ : Nat → Nat} {n : Nat} (hf : ∀ j, j < n → finB (X j) = true) (h : Seg X σ 0 n) {p : Nat} (hp : p < n) : X (σ p) = srt X n p := by
  obtain ⟨τ, k, _, he⟩ := srt_seg n hf
  rw [he p hp, h.unique k p hp]
end Go.Proofs.Ytlbapogmcnpmeaa.Avg
/- The program's stable sort, first part: the comparison, the list's own row, insertion. -/
namespace Go.Proofs.Ytlbapogmcnpmeaa.Avg
open Go.ChangeShapes Go.WideShapes Go.ChangeAt Go.RowKit Go.Deep Go.Proofs.Ytlbapogmcnpmeaa Go.Proofs.Ytlbapogmcnpmeaa.Flt Go.Proofs.Ytlbapogmcnpmeaa.Mth Go.Proofs.Ytlbapogmcnpmeaa.Sgl
open Ieee (single double)
set_option linter.unusedVariables false
set_option linter.unusedSimpArgs false
/-- what the comparison answers -/
def cmpI (x y : Nat) : Int := if sv single x < sv single y then -1 else if sv single y < sv single x then 1 else 0
theorem lt_sv0 {x y : Nat} (hx : finB x = true) (hy : finB y = true) : ltB x y = decide (sv single x < sv single y) := by
  have h := gt_sv hy hx
  rw [← h]
  unfold ltB gtB
  rw [lt32, gt32]
theorem nanF_any (x : Nat) (w : World) (h : finB x = true) : Calls Try.prog 78 #[.float .f32 x] w fun e w' => e = .returned (.bool false) ∧ w' = w := by
  have h1 : (FloatKind.f32.format.order x x != some .eq) = false := by rw [ne32, eqW_self, fin_num h]; rfl
  go_enter Try.func78, Try.ntmps78
  go_wp2
  go_ret
  exact ⟨rfl, rfl⟩
theorem cmp_any (x y : Nat) (w : World) (hx : finB x = true) (hy : finB y = true) : Calls Try.prog 69 #[.float .f32 x, .float .f32 y] w fun e w' => e = .returned (.int .i64 (cmpI x y)) ∧ w' = w := by
  have h1 := lt_sv0 hx hy
  have h2 := gt_sv hx hy
  unfold ltB at h1
  unfold gtB at h2
  by_cases c1 : sv single x < sv single y
  · have Hc := Lib.hid (show cmpI x y = -1 by unfold cmpI; rw [if_pos c1])
    rw [decide_eq_true c1] at h1
    clear c1 h2
    go_enter Try.func69, Try.ntmps69
    go_wp2_with fail
    refine (nanF_any x _ hx).mono ?_
    rintro e w9 ⟨rfl, hw9⟩; subst w9
    go_wp2_with fail
    refine (nanF_any y _ hy).mono ?_
    rintro e w9 ⟨rfl, hw9⟩; subst w9
    go_wp2_with fail
    go_ret
    exact ⟨by rw [Hc.out]; rfl, rfl⟩
  · rw [decide_eq_false c1] at h1
    by_cases c2 : sv single y < sv single x
    · have Hc := Lib.hid (show cmpI x y = 1 by unfold cmpI; rw [if_neg c1, if_pos c2])
      rw [decide_eq_true c2] at h2
      clear c1 c2
      go_enter Try.func69, Try.ntmps69
      go_wp2_with fail
      refine (nanF_any x _ hx).mono ?_
      rintro e w9 ⟨rfl, hw9⟩; subst w9
      go_wp2_with fail
      refine (nanF_any y _ hy).mono ?_
      rintro e w9 ⟨rfl, hw9⟩; subst w9
      go_wp2_with fail
      go_ret
      exact ⟨by rw [Hc.out]; rfl, rfl⟩
    · have Hc := Lib.hid (show cmpI x y = 0 by unfold cmpI; rw [if_neg c1, if_neg c2])
      rw [decide_eq_false c2] at h2
      clear c1 c2
      go_enter Try.func69, Try.ntmps69
      go_wp2_with fail
      refine (nanF_any x _ hx).mono ?_
      rintro e w9 ⟨rfl, hw9⟩; subst w9
      go_wp2_with fail
      refine (nanF_any y _ hy).mono ?_
      rintro e w9 ⟨rfl, hw9⟩; subst w9
      go_wp2_with fail
      go_ret
      exact ⟨by rw [Hc.out]; rfl, rfl⟩
theorem mixed_yes : Try.prog.follows Departure.mixedOrders = true := by kernel_rfl
theorem ent_cmp : ∀ args w, (callFunc 69 args).run Try.prog w = .ok (.enter 69 args) w := ent _ _ _ Try.func69 (by kernel_rfl) rfl
/-- the row that is sorted: at each place the element that stands there -/
def RowS (w : World) (g cap n : Nat) (X σ : Nat → Nat) : Prop := ∃ f, w.rowIs g 30 cap f ∧ n ≤ cap ∧ ∀ i, i < n → f i = .float .f32 (X (σ i))
theorem RowS.cell {w : World} {g cap n : Nat} {X σ : Nat → Nat} (h : RowS w g cap n X σ) {i : Nat} (hi : i < n) : w.cell? ⟨g, i, none⟩ = some (.float .f32 (X (σ i))) := by
  obtain ⟨f, h1, h2, h3⟩ := h
  rw [h1.cell (by omega), h3 i hi]
theorem RowS.frozen {w : World} {g cap n : Nat} {X σ : Nat → Nat} (h : RowS w g cap n X σ) (i : Nat) : w.frozen? ⟨g, i, none⟩ = false := by
  obtain ⟨f, h1, _⟩ := h
  exact h1.frozen i
theorem RowS.swap {w : World} {g cap n : Nat} {X σ : Nat → Nat} (h : RowS w g cap n X σ) {i j : Nat} (hi : i < n) (hj : j < n) (hij : i ≠ j) :
    RowS ((w.setCell ⟨g, i, none⟩ (.float .f32 (X (σ j)))).setCell ⟨g, j, none⟩ (.float .f32 (X (σ i)))) g cap n X (swp σ i j) := by
  obtain ⟨f, h1, h2, h3⟩ := h
  refine ⟨_, (h1.set i _).set j _, h2, fun p hp => ?_⟩
  unfold swp
  by_cases c1 : p = j
  · rw [if_pos c1]
    by_cases c2 : p = i
    · exact absurd (c2.symm.trans c1) hij
    · rw [if_neg c2, if_pos c1]
  · rw [if_neg c1]
    by_cases c2 : p = i
    · rw [if_pos c2, if_pos c2]
    · rw [if_neg c2, if_neg c2, if_neg c1]; exact h3 p hp
theorem RowS.drew {w : World} {g cap n : Nat} {X σ : Nat → Nat} (h : RowS w g cap n X σ) : RowS w.drew g cap n X σ := h
theorem RowS.drewN {w : World} {g cap n : Nat} {X σ : Nat → Nat} (h : RowS w g cap n X σ) (m : Nat) : RowS (w.drewN m) g cap n X σ := by
  obtain ⟨f, h1, h2, h3⟩ := h
  exact ⟨f, h1.of_block rfl, h2, h3⟩
theorem RowS.second {w : World} {g cap n : Nat} {X σ : Nat → Nat} (h : RowS w g cap n X σ) {i j : Nat} (hj : j < n) (hij : i ≠ j) (u : Value) : (w.setCell ⟨g, i, none⟩ u).cell? ⟨g, j, none⟩ = some (.float .f32 (X (σ j))) := by
  obtain ⟨f, h1, h2, h3⟩ := h
  rw [(h1.set i u).cell (by omega), if_neg (fun e => hij e.symm), h3 j hj]
def FinS (n : Nat) (X σ : Nat → Nat) : Prop := ∀ p, p < n → finB (X (σ p)) = true
theorem FinS.smp {n a b : Nat} {X σ τ : Nat → Nat} (h : FinS n X σ) (s : Smp σ τ a b) (o : Oth σ τ a b) (hb : b ≤ n) : FinS n X τ := fun p hp => by
  by_cases c : a ≤ p ∧ p < b
  · obtain ⟨q, q1, q2, e⟩ := s.1 p c.1 c.2
    rw [e]; exact h q (by omega)
  · rw [o p (by omega)]; exact h p hp
theorem cmp_lt {x y : Nat} : decide (cmpI x y < 0) = decide (sv single x < sv single y) := by
  unfold cmpI
  by_cases c : sv single x < sv single y
  · rw [if_pos c, decide_eq_true c]; rfl
  · rw [if_neg c, decide_eq_false c]
    split <;> rfl
set_option maxHeartbeats 3200000 in
/-- insertion: a stretch of the list as it stands is sorted -/
theorem ins_any (g cap n a b : Nat) (X σ : Nat → Nat) (w : World) (hab : a ≤ b) (hbn : b ≤ n) (hn : n ≤ 64) (hrow : RowS w g cap n X σ) (hfin : FinS n X σ) (hid : ∀ p, a ≤ p → p < b → σ p = p) :
    Calls Try.prog 82 #[.slice (some ⟨g, 0, none⟩) n cap, .int .i64 (a : Int), .int .i64 (b : Int), .func (.func 69) #[] #[]] w fun e w' => e = .returned (.tuple #[]) ∧ ∃ τ, RowS w' g cap n X τ ∧ Seg X τ a b ∧ Oth σ τ a b ∧ FinS n X τ ∧ Only g w w' := by
  have Hst := Lib.hid (And.intro hrow (And.intro hfin hid))
  have hcf := ent_cmp
  have mixed := mixed_yes
  clear hrow hfin hid
  have hwa : IntKind.i64.wrap ((a : Int) + 1) = ((a + 1 : Nat) : Int) := by rw [IntKind.wrap_i64]; omega
  go_enter Try.func82, Try.ntmps82
  go_wp2_with fail
  go_loopw [8] (fun iv wr => ∃ (i : Nat) (τ : Nat → Nat), iv = .int .i64 (i : Int) ∧ a < i ∧ i ≤ b + 1 ∧ Hid (RowS wr g cap n X τ ∧ Seg X τ a (min i b) ∧ Oth σ τ a b ∧ (∀ p, min i b ≤ p → τ p = σ p) ∧ FinS n X τ ∧ Only g w wr))
    (fun iv _ => b + 1 - (intOf iv).toNat)
  case atStart =>
    refine ⟨a + 1, σ, rfl, by omega, by omega, Lib.hid ⟨Hst.out.1, ?_, Oth.refl _ _ _, fun _ _ => rfl, Hst.out.2.1, Only.refl _ _⟩⟩
    by_cases c : a < b
    · rw [Nat.min_eq_left (by omega)]; exact Seg.one (Hst.out.2.2 a (Nat.le_refl _) c)
    · rw [Nat.min_eq_right (by omega), show b = a by omega]; exact Seg.none _ _ _
  case round =>
    obtain ⟨i, τ, rfl, hai, hib, HI⟩ := hrel
    by_cases hlt : i < b
    · have hlt' : (i : Int) < (b : Int) := by omega
      have hmin : min i b = i := Nat.min_eq_left (by omega)
      rw [hmin] at HI
      go_wp2_with fail
      go_loopw [9] (fun jv w2 => ∃ j : Nat, jv = .int .i64 (j : Int) ∧ a ≤ j ∧ j ≤ i ∧ Hid (RowS w2 g cap n X (rotR τ i j) ∧ (∀ p, j ≤ p → p < i → val X (τ i) < val X (τ p)) ∧ Only g w w2))
        (fun jv _ => (intOf jv).toNat)
      case atStart => exact ⟨i, rfl, by omega, Nat.le_refl _, Lib.hid ⟨by rw [rotR_zero]; exact HI.out.1, fun p h1 h2 => by omega, HI.out.2.2.2.2.2⟩⟩
      case round =>
        obtain ⟨j, rfl, haj, hji, HJ⟩ := hrel
        have hend : ((j : Int) = (a : Int) ∨ ¬ val X (τ i) < val X (τ (j - 1))) → Hid (RowS wr g cap n X (rotR τ i j) ∧ Seg X (rotR τ i j) a (min (i + 1) b) ∧ Oth σ (rotR τ i j) a b ∧ (∀ p, min (i + 1) b ≤ p → rotR τ i j p = σ p) ∧ FinS n X (rotR τ i j) ∧ Only g w wr) := fun hor => by
          obtain ⟨r1, r2, r3⟩ := HJ.out
          obtain ⟨t1, t2, t3, t4, t5, t6⟩ := HI.out
          have hi : τ i = i := by rw [t4 i (Nat.le_refl _)]; exact Hst.out.2.2 i (by omega) hlt
          have s := rotR_smp τ haj hji
          have o := rotR_oth τ haj hji
          rw [Nat.min_eq_left (by omega)]
          refine Lib.hid ⟨r1, t2.put hi haj hji (fun p h1 h2 => ?_) r2, t3.trans (o.mono (Nat.le_refl _) (by omega)), fun p hp => by rw [o p (by omega), t4 p (by omega)], t5.smp s o (by omega), r3⟩
          rcases hor with e | e
          · omega
          · by_cases c : p = j - 1
            · rw [c]; exact e
            · have := (t2.run p (j - 1) h1 (by omega) (by omega)).le
              omega
        have Hend := Lib.hid hend
        clear hend
        by_cases hja : a < j
        · have hja' : (a : Int) < (j : Int) := by omega
          obtain ⟨jp, hjp⟩ : ∃ q, q + 1 = j := ⟨j - 1, by omega⟩
          have hwj : IntKind.i64.wrap ((j : Int) - 1) = (jp : Int) := by rw [IntKind.wrap_i64]; omega
          have hjn : (j : Int) < (n : Int) := by omega
          have hjpn : (jp : Int) < (n : Int) := by omega
          have ex : rotR τ i j j = τ i := by unfold rotR; rw [if_pos rfl]
          have ey : rotR τ i j jp = τ jp := by unfold rotR; rw [if_neg (by omega), if_neg (by omega)]
          have l1 := HJ.out.1.cell (i := j) (by omega)
          have l2 := HJ.out.1.cell (i := jp) (by omega)
          rw [ex] at l1
          rw [ey] at l2
          have fx : finB (X (τ i)) = true := HI.out.2.2.2.2.1 i (by omega)
          have fy : finB (X (τ jp)) = true := HI.out.2.2.2.2.1 jp (by omega)
          have hv : decide (cmpI (X (τ i)) (X (τ jp)) < 0) = decide (val X (τ i) < val X (τ jp)) := cmp_lt
          have HJP := Lib.hid hjp
          have hjpj : j - 1 = jp := by omega
          rw [hjpj] at Hend
          obtain ⟨x, hx⟩ : ∃ x, X (τ i) = x := ⟨_, rfl⟩
          obtain ⟨y, hy⟩ : ∃ y, X (τ jp) = y := ⟨_, rfl⟩
          rw [hx] at l1 fx hv
          rw [hy] at l2 fy hv
          have Hxy := Lib.hid (And.intro hx hy)
          have HC := Lib.hid (fun q : Nat => show Calls Try.prog 69 #[.float .f32 x, .float .f32 y] (wr.drewN q) fun e w' => e = .returned (.int .i64 (cmpI x y)) ∧ ∃ m, w' = (wr.drewN q).drewN m from (cmp_any x y _ fx fy).mono (by rintro e w' ⟨rfl, hw⟩; exact ⟨rfl, 0, hw⟩))
          clear ex ey fx fy hx hy hjp hjpj
          cases hlv : decide (val X (τ i) < val X (τ jp))
          · rw [hlv] at hv
            have Hno := Lib.hid (of_decide_eq_false hlv)
            clear hlv
            go_wp2_with fail
            go_quiet (first | (with_reducible exact Calls.quiet_of (HC.out _)))
            have Hout := Hend.out (.inr Hno.out)
            have Hout2 := Lib.hid (And.intro (Hout.out.1.drewN nq) (And.intro Hout.out.2.1 (And.intro Hout.out.2.2.1 (And.intro Hout.out.2.2.2.1 (And.intro Hout.out.2.2.2.2.1 (Hout.out.2.2.2.2.2.drewN nq))))))
            clear Hout HJ HI l1 l2 hv
            generalize wr.drewN nq = w3 at Hout2 ⊢
            go_wp2_with fail
            go_roundw
            case rel => exact ⟨i + 1, rotR τ i j, by go_num, by omega, by omega, Hout2⟩
            case measure => simp [intOf]; omega
          · rw [hlv] at hv
            have Hyes := Lib.hid (of_decide_eq_true hlv)
            clear hlv
            go_wp2_with fail
            go_quiet (first | (with_reducible exact Calls.quiet_of (HC.out _)))
            obtain ⟨r1, r2, r3⟩ := HJ.out
            obtain ⟨hx, hy⟩ := Hxy.out
            have hjpj := HJP.out
            have ex : rotR τ i j j = τ i := by unfold rotR; rw [if_pos rfl]
            have ey : rotR τ i j jp = τ jp := by unfold rotR; rw [if_neg (by omega), if_neg (by omega)]
            have R2 := r1.drewN nq
            have c1 := R2.cell (i := j) (by omega)
            have c2 := R2.cell (i := jp) (by omega)
            rw [ex, hx] at c1
            rw [ey, hy] at c2
            have f1 := R2.frozen j
            have f2 := R2.frozen jp
            have c3 := R2.second (i := j) (j := jp) (by omega) (by omega) (.float .f32 y)
            rw [ey, hy] at c3
            have S3 := R2.swap (i := j) (j := jp) (by omega) (by omega) (by omega)
            rw [ex, hx, ey, hy] at S3
            have hst : swp (rotR τ i j) j jp = rotR τ i jp := by rw [← hjpj]; exact rotR_step τ (by omega)
            rw [hst] at S3
            have HS := Lib.hid (show RowS ((((wr.drewN nq).setCell ⟨g, j, none⟩ (.float .f32 y)).setCell ⟨g, jp, none⟩ (.float .f32 x)).drew) g cap n X (rotR τ i jp) ∧ (∀ p, jp ≤ p → p < i → val X (τ i) < val X (τ p)) ∧ Only g w ((((wr.drewN nq).setCell ⟨g, j, none⟩ (.float .f32 y)).setCell ⟨g, jp, none⟩ (.float .f32 x)).drew) from ⟨S3.drew, fun p h1 h2 => by
              by_cases c : p = jp
              · rw [c]; exact Hyes.out
              · exact r2 p (by omega) h2, (((r3.drewN nq).setCell j _).setCell jp _).drewN 1⟩)
            clear S3 R2 hst ex ey hx hy r1 r2 r3 HJ Hend l1 l2 hv hjpj
            generalize wr.drewN nq = w3 at *
            go_wp2_with fail
            go_big_region_o
            clear c1 c2 c3 f1 f2
            generalize ((w3.setCell ⟨g, j, none⟩ (.float .f32 y)).setCell ⟨g, jp, none⟩ (.float .f32 x)).drew = w4 at HS ⊢
            go_wp2_with fail
            go_roundw
            case rel => exact ⟨jp, by go_num, by have := HJP.out; omega, by have := HJP.out; omega, HS⟩
            case measure => have := HJP.out; simp [intOf]; omega
        · obtain rfl : j = a := by omega
          have hja' : ¬ (j : Int) < (j : Int) := by omega
          have Hout := Hend.out (.inl rfl)
          clear HJ HI
          go_wp2_with fail
          go_quiet (fail)
          have Hout2 := Lib.hid (And.intro (Hout.out.1.drewN nq) (And.intro Hout.out.2.1 (And.intro Hout.out.2.2.1 (And.intro Hout.out.2.2.2.1 (And.intro Hout.out.2.2.2.2.1 (Hout.out.2.2.2.2.2.drewN nq))))))
          clear Hout Hend
          generalize wr.drewN nq = w3 at Hout2 ⊢
          go_wp2_with fail
          go_roundw
          case rel => exact ⟨i + 1, rotR τ i j, by go_num, by omega, by omega, Hout2⟩
          case measure => simp [intOf]; omega
    · have hlt' : ¬ (i : Int) < (b : Int) := by omega
      rw [Nat.min_eq_right (by omega)] at HI
      go_wp2_with fail
      go_end0
      obtain ⟨t1, t2, t3, t4, t5, t6⟩ := HI.out
      exact ⟨rfl, τ, t1, t2, t3, t5, t6⟩
end Go.Proofs.Ytlbapogmcnpmeaa.Avg
/- The program's stable sort, second part: two stretches exchanged, rotation. -/
namespace Go.Proofs.Ytlbapogmcnpmeaa.Avg
open Go.ChangeShapes Go.WideShapes Go.ChangeAt Go.RowKit Go.Deep Go.Proofs.Ytlbapogmcnpmeaa Go.Proofs.Ytlbapogmcnpmeaa.Flt Go.Proofs.Ytlbapogmcnpmeaa.Mth Go.Proofs.Ytlbapogmcnpmeaa.Sgl
open Ieee (single double)
set_option linter.unusedVariables false
set_option linter.unusedSimpArgs false
set_option maxHeartbeats 3200000 in
theorem swr_any (g cap n p q L : Nat) (X σ : Nat → Nat) (F : Value) (w : World) (hpq : p + L ≤ q) (hqn : q + L ≤ n) (hn : n ≤ 64) (hrow : RowS w g cap n X σ) :
    Calls Try.prog 87 #[.slice (some ⟨g, 0, none⟩) n cap, .int .i64 (p : Int), .int .i64 (q : Int), .int .i64 (L : Int), F] w fun e w' => e = .returned (.tuple #[]) ∧ RowS w' g cap n X (swr σ p q L) ∧ Only g w w' := by
  have Hst := Lib.hid hrow
  have mixed := mixed_yes
  clear hrow
  go_enter Try.func87, Try.ntmps87
  go_wp2_with fail
  go_loopw [10] (fun iv wr => ∃ k : Nat, iv = .int .i64 (k : Int) ∧ k ≤ L ∧ Hid (RowS wr g cap n X (swr σ p q k) ∧ Only g w wr))
    (fun iv _ => L - (intOf iv).toNat)
  case atStart => exact ⟨0, rfl, Nat.zero_le _, Lib.hid ⟨by rw [swr_zero]; exact Hst.out, Only.refl _ _⟩⟩
  case round =>
    obtain ⟨k, rfl, hk, HI⟩ := hrel
    by_cases hlt : k < L
    · have hlt' : (k : Int) < (L : Int) := by omega
      obtain ⟨i1, h1⟩ : ∃ i, p + k = i := ⟨_, rfl⟩
      obtain ⟨i2, h2⟩ : ∃ i, q + k = i := ⟨_, rfl⟩
      have hw1 : IntKind.i64.wrap ((p : Int) + (k : Int)) = (i1 : Int) := by rw [IntKind.wrap_i64]; omega
      have hw2 : IntKind.i64.wrap ((q : Int) + (k : Int)) = (i2 : Int) := by rw [IntKind.wrap_i64]; omega
      have b1 : (i1 : Int) < (n : Int) := by omega
      have b2 : (i2 : Int) < (n : Int) := by omega
      obtain ⟨r1, r2⟩ := HI.out
      have c1 := r1.cell (i := i1) (by omega)
      have c2 := r1.cell (i := i2) (by omega)
      have f1 := r1.frozen i1
      have f2 := r1.frozen i2
      have c3 := r1.second (i := i1) (j := i2) (by omega) (by omega) (.float .f32 (X (swr σ p q k i2)))
      have S := r1.swap (i := i1) (j := i2) (by omega) (by omega) (by omega)
      have hst : swp (swr σ p q k) i1 i2 = swr σ p q (k + 1) := by rw [← h1, ← h2]; exact swr_step σ (by omega)
      rw [hst] at S
      obtain ⟨x, hx⟩ : ∃ x, X (swr σ p q k i1) = x := ⟨_, rfl⟩
      obtain ⟨y, hy⟩ : ∃ y, X (swr σ p q k i2) = y := ⟨_, rfl⟩
      rw [hx] at c1 S
      rw [hy] at c2 c3 S
      have HS := Lib.hid (show RowS (((wr.setCell ⟨g, i1, none⟩ (.float .f32 y)).setCell ⟨g, i2, none⟩ (.float .f32 x)).drew) g cap n X (swr σ p q (k + 1)) ∧ Only g w (((wr.setCell ⟨g, i1, none⟩ (.float .f32 y)).setCell ⟨g, i2, none⟩ (.float .f32 x)).drew) from ⟨S.drew, ((r2.setCell i1 _).setCell i2 _).drewN 1⟩)
      clear S r1 r2 HI hx hy hst h1 h2
      go_wp2_with fail
      go_big_region_o
      clear c1 c2 c3 f1 f2
      generalize ((wr.setCell ⟨g, i1, none⟩ (.float .f32 y)).setCell ⟨g, i2, none⟩ (.float .f32 x)).drew = w4 at HS ⊢
      go_wp2_with fail
      go_roundw
      case rel => exact ⟨k + 1, by go_num, by omega, HS⟩
      case measure => simp [intOf]; omega
    · obtain rfl : k = L := by omega
      go_wp2_with fail
      go_end0
      exact ⟨rfl, HI.out.1, HI.out.2⟩
set_option maxHeartbeats 3200000 in
theorem rot_any (g cap n a m b : Nat) (X σ : Nat → Nat) (F : Value) (w : World) (ham : a < m) (hmb : m < b) (hbn : b ≤ n) (hn : n ≤ 64) (hrow : RowS w g cap n X σ) :
    Calls Try.prog 86 #[.slice (some ⟨g, 0, none⟩) n cap, .int .i64 (a : Int), .int .i64 (m : Int), .int .i64 (b : Int), F] w fun e w' => e = .returned (.tuple #[]) ∧ RowS w' g cap n X (rtt σ a m b) ∧ Only g w w' := by
  have Hst := Lib.hid hrow
  clear hrow
  have hw1 : IntKind.i64.wrap ((m : Int) - (a : Int)) = ((m - a : Nat) : Int) := by rw [IntKind.wrap_i64]; omega
  have hw2 : IntKind.i64.wrap ((b : Int) - (m : Int)) = ((b - m : Nat) : Int) := by rw [IntKind.wrap_i64]; omega
  go_enter Try.func86, Try.ntmps86
  go_wp2_with fail
  go_loopw [10, 11] (fun iv jv wr => ∃ (i j : Nat) (τ : Nat → Nat), iv = .int .i64 (i : Int) ∧ jv = .int .i64 (j : Int) ∧ 1 ≤ i ∧ 1 ≤ j ∧ a + i ≤ m ∧ m + j ≤ b ∧ Hid (RowS wr g cap n X τ ∧ Rot (rtt σ a m b) τ a m b i j ∧ Only g w wr))
    (fun iv jv _ => (intOf iv).toNat + (intOf jv).toNat)
  case atStart => exact ⟨m - a, b - m, σ, by first | rfl | go_num, by first | rfl | go_num, by omega, by omega, by omega, by omega, Lib.hid ⟨Hst.out, Rot.start σ (by omega) (by omega), Only.refl _ _⟩⟩
  case round =>
    obtain ⟨i, j, τ, rfl, rfl, hi, hj, hia, hjb, HI⟩ := hrel
    clear hw1 hw2
    have hw3 : IntKind.i64.wrap ((m : Int) - (i : Int)) = ((m - i : Nat) : Int) := by rw [IntKind.wrap_i64]; omega
    rcases Nat.lt_trichotomy i j with c | c | c
    · have e1 : ¬ ((i : Int) = (j : Int)) := by omega
      have e2 : ¬ ((j : Int) < (i : Int)) := by omega
      have hw4 : IntKind.i64.wrap ((m : Int) + (j : Int)) = ((m + j : Nat) : Int) := by rw [IntKind.wrap_i64]; omega
      have hw5 : IntKind.i64.wrap (((m + j : Nat) : Int) - (i : Int)) = ((m + j - i : Nat) : Int) := by rw [IntKind.wrap_i64]; omega
      have hw6 : IntKind.i64.wrap ((j : Int) - (i : Int)) = ((j - i : Nat) : Int) := by rw [IntKind.wrap_i64]; omega
      obtain ⟨m1, hm1⟩ : ∃ x, m - i = x := ⟨_, rfl⟩
      obtain ⟨m2, hm2⟩ : ∃ x, m + j - i = x := ⟨_, rfl⟩
      obtain ⟨m3, hm3⟩ : ∃ x, m + j = x := ⟨_, rfl⟩
      obtain ⟨m4, hm4⟩ : ∃ x, j - i = x := ⟨_, rfl⟩
      rw [hm1] at hw3
      rw [hm3] at hw4
      rw [hm3, ← hm3, hm2, hm3] at hw5
      rw [hm4] at hw6
      have HS := Lib.hid (swr_any g cap n m1 m2 i X τ F wr (by omega) (by omega) hn HI.out.1)
      have HR := Lib.hid (show Rot (rtt σ a m b) (swr τ m1 m2 i) a m b i m4 from by rw [← hm1, ← hm2, ← hm4]; exact HI.out.2.1.right (by omega) c)
      have HB := Lib.hid (show 1 ≤ m4 ∧ m + m4 ≤ b ∧ m4 < j from by omega)
      have HO := Lib.hid HI.out.2.2
      clear HI hm1 hm2 hm3 hm4
      go_wp2_with fail
      refine HS.out.mono ?_
      rintro e w2 ⟨rfl, h1, h2⟩
      have H2 := Lib.hid (And.intro h1 (And.intro HR.out (HO.out.trans h2)))
      clear h1 h2
      go_wp2_with fail
      go_roundw
      case rel => exact ⟨i, m4, _, by first | rfl | go_num, by first | rfl | go_num, hi, HB.out.1, hia, HB.out.2.1, H2⟩
      case measure => have := HB.out.2.2; simp [intOf]; omega
    · subst c
      have HS := Lib.hid (swr_any g cap n (m - i) m i X τ F wr (by omega) (by omega) hn HI.out.1)
      have HR := HI.out.2.1.last (by omega)
      rw [HR] at HS
      have HO := Lib.hid HI.out.2.2
      clear HI HR
      obtain ⟨m1, hm1⟩ : ∃ x, m - i = x := ⟨_, rfl⟩
      rw [hm1] at hw3 HS
      clear hm1
      go_wp2_with fail
      refine HS.out.mono ?_
      rintro e w2 ⟨rfl, h1, h2⟩
      have H2 := Lib.hid (And.intro h1 (HO.out.trans h2))
      clear h1 h2
      go_wp2_with fail
      go_end0
      exact ⟨rfl, H2.out.1, H2.out.2⟩
    · have e1 : ¬ ((i : Int) = (j : Int)) := by omega
      have e2 : (j : Int) < (i : Int) := by omega
      have hw6 : IntKind.i64.wrap ((i : Int) - (j : Int)) = ((i - j : Nat) : Int) := by rw [IntKind.wrap_i64]; omega
      obtain ⟨m1, hm1⟩ : ∃ x, m - i = x := ⟨_, rfl⟩
      obtain ⟨m4, hm4⟩ : ∃ x, i - j = x := ⟨_, rfl⟩
      rw [hm1] at hw3
      rw [hm4] at hw6
      have HS := Lib.hid (swr_any g cap n m1 m j X τ F wr (by omega) (by omega) hn HI.out.1)
      have HR := Lib.hid (show Rot (rtt σ a m b) (swr τ m1 m j) a m b m4 j from by rw [← hm1, ← hm4]; exact HI.out.2.1.left (by omega) c)
      have HB := Lib.hid (show 1 ≤ m4 ∧ a + m4 ≤ m ∧ m4 < i from by omega)
      have HO := Lib.hid HI.out.2.2
      clear HI hm1 hm4
      go_wp2_with fail
      refine HS.out.mono ?_
      rintro e w2 ⟨rfl, h1, h2⟩
      have H2 := Lib.hid (And.intro h1 (And.intro HR.out (HO.out.trans h2)))
      clear h1 h2
      go_wp2_with fail
      go_roundw
      case rel => exact ⟨m4, j, _, by first | rfl | go_num, by first | rfl | go_num, HB.out.1, hj, HB.out.2.1, hjb, H2⟩
      case measure => have := HB.out.2.2; simp [intOf]; omega
end Go.Proofs.Ytlbapogmcnpmeaa.Avg
/- The program's stable sort, third part: the merge by symmetric comparisons, where one of the two runs is of one element. -/
namespace Go.Proofs.Ytlbapogmcnpmeaa.Avg
open Go.ChangeShapes Go.WideShapes Go.ChangeAt Go.RowKit Go.Deep Go.Proofs.Ytlbapogmcnpmeaa Go.Proofs.Ytlbapogmcnpmeaa.Flt Go.Proofs.Ytlbapogmcnpmeaa.Mth Go.Proofs.Ytlbapogmcnpmeaa.Sgl
open Ieee (single double)
set_option linter.unusedVariables false
set_option linter.unusedSimpArgs false
/-- the comparison of two elements, in whatever world of the walk -/
theorem cmp_walk (x y : Nat) (w : World) (fx : finB x = true) (fy : finB y = true) (q : Nat) : Calls Try.prog 69 #[.float .f32 x, .float .f32 y] (w.drewN q) fun e w' => e = .returned (.int .i64 (cmpI x y)) ∧ ∃ m, w' = (w.drewN q).drewN m :=
  (cmp_any x y _ fx fy).mono (by rintro e w' ⟨rfl, hw⟩; exact ⟨rfl, 0, hw⟩)
set_option maxRecDepth 20000 in
set_option maxHeartbeats 6400000 in
/-- the left run is of one element -/
theorem sym_left (g cap n a m b : Nat) (X σ : Nat → Nat) (w : World) (hm : a + 1 = m) (hmb : m < b) (hbn : b ≤ n) (hn : n ≤ 64) (hrow : RowS w g cap n X σ) (hfin : FinS n X σ) (h1 : Run X σ a m) (h2 : Run X σ m b) (hs : Sep σ a m b) :
    Calls Try.prog 83 #[.slice (some ⟨g, 0, none⟩) n cap, .int .i64 (a : Int), .int .i64 (m : Int), .int .i64 (b : Int), .func (.func 69) #[] #[]] w fun e w' => e = .returned (.tuple #[]) ∧ ∃ τ, RowS w' g cap n X τ ∧ Run X τ a b ∧ Smp σ τ a b ∧ Oth σ τ a b ∧ Only g w w' := by
  have Hst := Lib.hid (And.intro hrow (And.intro hfin (And.intro h1 (And.intro h2 hs))))
  have hcf := ent_cmp
  have mixed := mixed_yes
  clear hrow hfin h1 h2 hs
  have hw1 : IntKind.i64.wrap ((m : Int) - (a : Int)) = 1 := by rw [IntKind.wrap_i64]; omega
  go_enter Try.func83, Try.ntmps83
  go_wp2_with fail
  go_loopw [10, 11] (fun iv jv wr => ∃ i j : Nat, iv = .int .i64 (i : Int) ∧ jv = .int .i64 (j : Int) ∧ m ≤ i ∧ i ≤ j ∧ j ≤ b ∧ Hid (RowS wr g cap n X σ ∧ (∀ q, m ≤ q → q < i → val X (σ q) < val X (σ a)) ∧ (∀ q, j ≤ q → q < b → val X (σ a) ≤ val X (σ q)) ∧ Only g w wr))
    (fun iv jv _ => (intOf jv).toNat - (intOf iv).toNat)
  case atStart => exact ⟨m, b, rfl, rfl, Nat.le_refl _, by omega, Nat.le_refl _, Lib.hid ⟨Hst.out.1, fun q h1 h2 => by omega, fun q h1 h2 => by omega, Only.refl _ _⟩⟩
  case round =>
    obtain ⟨i, j, rfl, rfl, hmi, hij, hjb, HI⟩ := hrel
    clear hw1
    by_cases hlt : i < j
    · have hlt' : (i : Int) < (j : Int) := by omega
      obtain ⟨s, hs⟩ : ∃ s, i + j = s := ⟨_, rfl⟩
      obtain ⟨h, hh⟩ : ∃ h, s / 2 = h := ⟨_, rfl⟩
      have v1 : IntKind.i64.wrap ((i : Int) + (j : Int)) = (s : Int) := by rw [IntKind.wrap_i64]; omega
      have v2 : IntKind.u64.wrap (s : Int) = (s : Int) := by rw [IntKind.wrap_u64]; omega
      have v3 : (s : Int) / 2 = (h : Int) := by omega
      have v4 : IntKind.i64.wrap (h : Int) = (h : Int) := by rw [IntKind.wrap_i64]; omega
      have hhn : (h : Int) < (n : Int) := by omega
      have han : (a : Int) < (n : Int) := by omega
      have hhb : i ≤ h ∧ h < j := by omega
      have l1 := HI.out.1.cell (i := h) (by omega)
      have l2 := HI.out.1.cell (i := a) (by omega)
      have fx : finB (X (σ (h))) = true := Hst.out.2.1 _ (by omega)
      have fy : finB (X (σ (a))) = true := Hst.out.2.1 _ (by omega)
      have hv : decide (cmpI (X (σ (h))) (X (σ (a))) < 0) = decide (val X (σ (h)) < val X (σ (a))) := cmp_lt
      obtain ⟨x, hx⟩ : ∃ x, X (σ (h)) = x := ⟨_, rfl⟩
      obtain ⟨y, hy⟩ : ∃ y, X (σ (a)) = y := ⟨_, rfl⟩
      rw [hx] at l1 fx hv
      rw [hy] at l2 fy hv
      have HC := Lib.hid (cmp_walk x y wr fx fy)
      clear fx fy hx hy
      have Hmono := Lib.hid (show ∀ p q, m ≤ p → p ≤ q → q < b → val X (σ p) ≤ val X (σ q) from fun p q h1 h2 h3 => by
        by_cases e : p = q
        · rw [e]; exact Int.le_refl _
        · exact (Hst.out.2.2.2.1 p q h1 (by omega) h3).le)
      cases hlv : decide (val X (σ h) < val X (σ a))
      · rw [hlv] at hv
        have Hno := Lib.hid (of_decide_eq_false hlv)
        clear hlv
        go_wp2_with fail
        go_quiet (first | (with_reducible exact Calls.quiet_of (HC.out _)))
        have H2 := Lib.hid (show RowS (wr.drewN nq) g cap n X σ ∧ (∀ q, m ≤ q → q < i → val X (σ q) < val X (σ a)) ∧ (∀ q, h ≤ q → q < b → val X (σ a) ≤ val X (σ q)) ∧ Only g w (wr.drewN nq) from ⟨HI.out.1.drewN nq, HI.out.2.1, fun q h1 h2 => by have := Hmono.out h q (by omega) h1 h2; have := Hno.out; omega, HI.out.2.2.2.drewN nq⟩)
        clear HI l1 l2 hv HC
        generalize wr.drewN nq = w3 at H2 ⊢
        go_wp2_with fail
        go_roundw
        case rel => exact ⟨i, h, by first | rfl | go_num, by first | rfl | go_num, hmi, by omega, by omega, H2⟩
        case measure => simp [intOf]; omega
      · rw [hlv] at hv
        have Hyes := Lib.hid (of_decide_eq_true hlv)
        clear hlv
        have v5 : IntKind.i64.wrap ((h : Int) + 1) = ((h + 1 : Nat) : Int) := by rw [IntKind.wrap_i64]; omega
        go_wp2_with fail
        go_quiet (first | (with_reducible exact Calls.quiet_of (HC.out _)))
        have H2 := Lib.hid (show RowS (wr.drewN nq) g cap n X σ ∧ (∀ q, m ≤ q → q < h + 1 → val X (σ q) < val X (σ a)) ∧ (∀ q, j ≤ q → q < b → val X (σ a) ≤ val X (σ q)) ∧ Only g w (wr.drewN nq) from ⟨HI.out.1.drewN nq, fun q h1 h2 => by have := Hmono.out q h h1 (by omega) (by omega); have := Hyes.out; omega, HI.out.2.2.1, HI.out.2.2.2.drewN nq⟩)
        clear HI l1 l2 hv HC
        generalize wr.drewN nq = w3 at H2 ⊢
        go_wp2_with fail
        go_roundw
        case rel => exact ⟨h + 1, j, by first | rfl | go_num, by first | rfl | go_num, by omega, by omega, by omega, H2⟩
        case measure => simp [intOf]; omega
    · obtain rfl : i = j := by omega
      have hlt' : ¬ (i : Int) < (i : Int) := by omega
      have v6 : IntKind.i64.wrap ((i : Int) - 1) = ((i - 1 : Nat) : Int) := by rw [IntKind.wrap_i64]; omega
      obtain ⟨i1, hi1⟩ : ∃ i1, i - 1 = i1 := ⟨_, rfl⟩
      rw [hi1] at v6
      go_wp2_with fail
      go_loopw [13] (fun kv w2 => ∃ k : Nat, kv = .int .i64 (k : Int) ∧ a ≤ k ∧ k ≤ i1 ∧ Hid (RowS w2 g cap n X (rotL σ a k) ∧ Only g w w2))
        (fun kv _ => i1 - (intOf kv).toNat)
      case atStart => exact ⟨a, rfl, Nat.le_refl _, by omega, Lib.hid ⟨by rw [rotL_zero]; exact HI.out.1, HI.out.2.2.2⟩⟩
      case round =>
        obtain ⟨k, rfl, hak, hki, HK⟩ := hrel
        by_cases hk : k < i1
        · have hk' : (k : Int) < (i1 : Int) := by omega
          obtain ⟨k1, hk1⟩ : ∃ k1, k + 1 = k1 := ⟨_, rfl⟩
          have v7 : IntKind.i64.wrap ((k : Int) + 1) = (k1 : Int) := by rw [IntKind.wrap_i64]; omega
          have b1 : (k : Int) < (n : Int) := by omega
          have b2 : (k1 : Int) < (n : Int) := by omega
          obtain ⟨r1, r2⟩ := HK.out
          have c1 := r1.cell (i := k) (by omega)
          have c2 := r1.cell (i := k1) (by omega)
          have f1 := r1.frozen k
          have f2 := r1.frozen k1
          have c3 := r1.second (i := k) (j := k1) (by omega) (by omega) (.float .f32 (X (rotL σ a k k1)))
          have S := r1.swap (i := k) (j := k1) (by omega) (by omega) (by omega)
          have hst : swp (rotL σ a k) k k1 = rotL σ a k1 := by rw [← hk1]; exact rotL_step σ hak
          rw [hst] at S
          obtain ⟨x, hx⟩ : ∃ x, X (rotL σ a k k) = x := ⟨_, rfl⟩
          obtain ⟨y, hy⟩ : ∃ y, X (rotL σ a k k1) = y := ⟨_, rfl⟩
          rw [hx] at c1 S
          rw [hy] at c2 c3 S
          have HS := Lib.hid (show RowS (((wr.setCell ⟨g, k, none⟩ (.float .f32 y)).setCell ⟨g, k1, none⟩ (.float .f32 x)).drew) g cap n X (rotL σ a k1) ∧ Only g w (((wr.setCell ⟨g, k, none⟩ (.float .f32 y)).setCell ⟨g, k1, none⟩ (.float .f32 x)).drew) from ⟨S.drew, ((r2.setCell k _).setCell k1 _).drewN 1⟩)
          clear S hx hy hst
          clear r1 r2 HK HI
          go_wp2_with fail
          go_big_region_o
          clear c1 c2 c3 f1 f2
          generalize ((wr.setCell ⟨g, k, none⟩ (.float .f32 y)).setCell ⟨g, k1, none⟩ (.float .f32 x)).drew = w4 at HS ⊢
          go_wp2_with fail
          go_roundw
          case rel => exact ⟨k1, by first | rfl | go_num, by omega, by omega, HS⟩
          case measure => simp [intOf]; omega
        · obtain rfl : k = i1 := by omega
          have hk' : ¬ (k : Int) < (k : Int) := by omega
          have HF := Lib.hid (show Run X (rotL σ a k) a b ∧ Smp σ (rotL σ a k) a b ∧ Oth σ (rotL σ a k) a b from by
            rw [← hi1]
            exact ⟨rotL_run (by omega) (by omega) (by rw [hm]; exact Hst.out.2.2.2.1) (by rw [hm]; exact Hst.out.2.2.2.2) (by rw [hm]; exact HI.out.2.1) (fun q h1 h2 => Int.not_lt.2 (HI.out.2.2.1 q h1 h2)), rotL_smp σ (by omega) (by omega), rotL_oth σ (by omega) (by omega)⟩)
          clear HI
          go_wp2_with fail
          refine bodyPost_ret (results_none rfl _ _ _) rfl ?_
          exact ⟨rfl, _, HK.out.1, HF.out.1, HF.out.2.1, HF.out.2.2, HK.out.2⟩
end Go.Proofs.Ytlbapogmcnpmeaa.Avg
/- The program's stable sort, fourth part: the merge where the right run is of one element. -/
namespace Go.Proofs.Ytlbapogmcnpmeaa.Avg
open Go.ChangeShapes Go.WideShapes Go.ChangeAt Go.RowKit Go.Deep Go.Proofs.Ytlbapogmcnpmeaa Go.Proofs.Ytlbapogmcnpmeaa.Flt Go.Proofs.Ytlbapogmcnpmeaa.Mth Go.Proofs.Ytlbapogmcnpmeaa.Sgl
open Ieee (single double)
set_option linter.unusedVariables false
set_option linter.unusedSimpArgs false
set_option maxRecDepth 20000 in
set_option maxHeartbeats 6400000 in
/-- the right run is of one element -/
theorem sym_right (g cap n a m b : Nat) (X σ : Nat → Nat) (w : World) (ham : a + 1 < m) (hmb : m + 1 = b) (hbn : b ≤ n) (hn : n ≤ 64) (hrow : RowS w g cap n X σ) (hfin : FinS n X σ) (h1 : Run X σ a m) (h2 : Run X σ m b) (hs : Sep σ a m b) :
    Calls Try.prog 83 #[.slice (some ⟨g, 0, none⟩) n cap, .int .i64 (a : Int), .int .i64 (m : Int), .int .i64 (b : Int), .func (.func 69) #[] #[]] w fun e w' => e = .returned (.tuple #[]) ∧ ∃ τ, RowS w' g cap n X τ ∧ Run X τ a b ∧ Smp σ τ a b ∧ Oth σ τ a b ∧ Only g w w' := by
  have Hst := Lib.hid (And.intro hrow (And.intro hfin (And.intro h1 (And.intro h2 hs))))
  have hcf := ent_cmp
  have mixed := mixed_yes
  clear hrow hfin h1 h2 hs
  have e1 : ¬ ((m : Int) - (a : Int) = 1) := by omega
  have eb1 : ((m : Int) - (a : Int) == 1) = false := by rw [beq_eq_false_iff_ne]; exact e1
  have hw1 : IntKind.i64.wrap ((m : Int) - (a : Int)) = (m : Int) - (a : Int) := by rw [IntKind.wrap_i64]; omega
  have hw2 : IntKind.i64.wrap ((b : Int) - (m : Int)) = 1 := by rw [IntKind.wrap_i64]; omega
  go_enter Try.func83, Try.ntmps83
  go_wp2_with fail
  go_loopw [14, 15] (fun iv jv wr => ∃ i j : Nat, iv = .int .i64 (i : Int) ∧ jv = .int .i64 (j : Int) ∧ a ≤ i ∧ i ≤ j ∧ j ≤ m ∧ Hid (RowS wr g cap n X σ ∧ (∀ q, a ≤ q → q < i → val X (σ q) ≤ val X (σ m)) ∧ (∀ q, j ≤ q → q < m → val X (σ m) < val X (σ q)) ∧ Only g w wr))
    (fun iv jv _ => (intOf jv).toNat - (intOf iv).toNat)
  case atStart => exact ⟨a, m, rfl, rfl, Nat.le_refl _, by omega, Nat.le_refl _, Lib.hid ⟨Hst.out.1, fun q h1 h2 => by omega, fun q h1 h2 => by omega, Only.refl _ _⟩⟩
  case round =>
    obtain ⟨i, j, rfl, rfl, hmi, hij, hjb, HI⟩ := hrel
    clear hw1 hw2 e1
    by_cases hlt : i < j
    · have hlt' : (i : Int) < (j : Int) := by omega
      obtain ⟨s, hs⟩ : ∃ s, i + j = s := ⟨_, rfl⟩
      obtain ⟨h, hh⟩ : ∃ h, s / 2 = h := ⟨_, rfl⟩
      have v1 : IntKind.i64.wrap ((i : Int) + (j : Int)) = (s : Int) := by rw [IntKind.wrap_i64]; omega
      have v2 : IntKind.u64.wrap (s : Int) = (s : Int) := by rw [IntKind.wrap_u64]; omega
      have v3 : (s : Int) / 2 = (h : Int) := by omega
      have v4 : IntKind.i64.wrap (h : Int) = (h : Int) := by rw [IntKind.wrap_i64]; omega
      have hhn : (h : Int) < (n : Int) := by omega
      have hmn : (m : Int) < (n : Int) := by omega
      have hhb : i ≤ h ∧ h < j := by omega
      have l1 := HI.out.1.cell (i := m) (by omega)
      have l2 := HI.out.1.cell (i := h) (by omega)
      have fx : finB (X (σ (m))) = true := Hst.out.2.1 _ (by omega)
      have fy : finB (X (σ (h))) = true := Hst.out.2.1 _ (by omega)
      have hv : decide (cmpI (X (σ (m))) (X (σ (h))) < 0) = decide (val X (σ (m)) < val X (σ (h))) := cmp_lt
      obtain ⟨x, hx⟩ : ∃ x, X (σ (m)) = x := ⟨_, rfl⟩
      obtain ⟨y, hy⟩ : ∃ y, X (σ (h)) = y := ⟨_, rfl⟩
      rw [hx] at l1 fx hv
      rw [hy] at l2 fy hv
      have HC := Lib.hid (cmp_walk x y wr fx fy)
      clear fx fy hx hy
      have Hmono := Lib.hid (show ∀ p q, a ≤ p → p ≤ q → q < m → val X (σ p) ≤ val X (σ q) from fun p q h1 h2 h3 => by
        by_cases e : p = q
        · rw [e]; exact Int.le_refl _
        · exact (Hst.out.2.2.1 p q h1 (by omega) h3).le)
      cases hlv : decide (val X (σ m) < val X (σ h))
      · rw [hlv] at hv
        have Hno := Lib.hid (of_decide_eq_false hlv)
        clear hlv
        have v5 : IntKind.i64.wrap ((h : Int) + 1) = ((h + 1 : Nat) : Int) := by rw [IntKind.wrap_i64]; omega
        go_wp2_with fail
        go_quiet (first | (with_reducible exact Calls.quiet_of (HC.out _)))
        have H2 := Lib.hid (show RowS (wr.drewN nq) g cap n X σ ∧ (∀ q, a ≤ q → q < h + 1 → val X (σ q) ≤ val X (σ m)) ∧ (∀ q, j ≤ q → q < m → val X (σ m) < val X (σ q)) ∧ Only g w (wr.drewN nq) from ⟨HI.out.1.drewN nq, fun q h1 h2 => by have := Hmono.out q h h1 (by omega) (by omega); have := Hno.out; omega, HI.out.2.2.1, HI.out.2.2.2.drewN nq⟩)
        clear HI l1 l2 hv HC
        generalize wr.drewN nq = w3 at H2 ⊢
        go_wp2_with fail
        go_roundw
        case rel => exact ⟨h + 1, j, by first | rfl | go_num, by first | rfl | go_num, by omega, by omega, by omega, H2⟩
        case measure => simp [intOf]; omega
      · rw [hlv] at hv
        have Hyes := Lib.hid (of_decide_eq_true hlv)
        clear hlv
        go_wp2_with fail
        go_quiet (first | (with_reducible exact Calls.quiet_of (HC.out _)))
        have H2 := Lib.hid (show RowS (wr.drewN nq) g cap n X σ ∧ (∀ q, a ≤ q → q < i → val X (σ q) ≤ val X (σ m)) ∧ (∀ q, h ≤ q → q < m → val X (σ m) < val X (σ q)) ∧ Only g w (wr.drewN nq) from ⟨HI.out.1.drewN nq, HI.out.2.1, fun q h1 h2 => by have := Hmono.out h q (by omega) h1 h2; have := Hyes.out; omega, HI.out.2.2.2.drewN nq⟩)
        clear HI l1 l2 hv HC
        generalize wr.drewN nq = w3 at H2 ⊢
        go_wp2_with fail
        go_roundw
        case rel => exact ⟨i, h, by first | rfl | go_num, by first | rfl | go_num, hmi, by omega, by omega, H2⟩
        case measure => simp [intOf]; omega
    · obtain rfl : i = j := by omega
      have hlt' : ¬ (i : Int) < (i : Int) := by omega
      go_wp2_with fail
      go_loopw [17] (fun kv w2 => ∃ k : Nat, kv = .int .i64 (k : Int) ∧ i ≤ k ∧ k ≤ m ∧ Hid (RowS w2 g cap n X (rotR σ m k) ∧ Only g w w2))
        (fun kv _ => (intOf kv).toNat)
      case atStart => exact ⟨m, rfl, hjb, Nat.le_refl _, Lib.hid ⟨by rw [rotR_zero]; exact HI.out.1, HI.out.2.2.2⟩⟩
      case round =>
        obtain ⟨k, rfl, hik, hkm, HK⟩ := hrel
        by_cases hk : i < k
        · have hk' : (i : Int) < (k : Int) := by omega
          obtain ⟨k1, hk1⟩ : ∃ k1, k1 + 1 = k := ⟨k - 1, by omega⟩
          have v7 : IntKind.i64.wrap ((k : Int) - 1) = (k1 : Int) := by rw [IntKind.wrap_i64]; omega
          have b1 : (k : Int) < (n : Int) := by omega
          have b2 : (k1 : Int) < (n : Int) := by omega
          obtain ⟨r1, r2⟩ := HK.out
          have c1 := r1.cell (i := k) (by omega)
          have c2 := r1.cell (i := k1) (by omega)
          have f1 := r1.frozen k
          have f2 := r1.frozen k1
          have c3 := r1.second (i := k) (j := k1) (by omega) (by omega) (.float .f32 (X (rotR σ m k k1)))
          have S := r1.swap (i := k) (j := k1) (by omega) (by omega) (by omega)
          have hst : swp (rotR σ m k) k k1 = rotR σ m k1 := by rw [← hk1]; exact rotR_step σ (by omega)
          rw [hst] at S
          obtain ⟨x, hx⟩ : ∃ x, X (rotR σ m k k) = x := ⟨_, rfl⟩
          obtain ⟨y, hy⟩ : ∃ y, X (rotR σ m k k1) = y := ⟨_, rfl⟩
          rw [hx] at c1 S
          rw [hy] at c2 c3 S
          have HS := Lib.hid (show RowS (((wr.setCell ⟨g, k, none⟩ (.float .f32 y)).setCell ⟨g, k1, none⟩ (.float .f32 x)).drew) g cap n X (rotR σ m k1) ∧ Only g w (((wr.setCell ⟨g, k, none⟩ (.float .f32 y)).setCell ⟨g, k1, none⟩ (.float .f32 x)).drew) from ⟨S.drew, ((r2.setCell k _).setCell k1 _).drewN 1⟩)
          clear S hx hy hst
          have hkk : i ≤ k1 ∧ k1 ≤ m ∧ k1 < k := by omega
          clear r1 r2 HK HI hk1
          go_wp2_with fail
          go_big_region_o
          clear c1 c2 c3 f1 f2
          generalize ((wr.setCell ⟨g, k, none⟩ (.float .f32 y)).setCell ⟨g, k1, none⟩ (.float .f32 x)).drew = w4 at HS ⊢
          go_wp2_with fail
          go_roundw
          case rel => exact ⟨k1, by first | rfl | go_num, hkk.1, hkk.2.1, HS⟩
          case measure => simp [intOf]; omega
        · obtain rfl : k = i := by omega
          have hk' : ¬ (k : Int) < (k : Int) := by omega
          have HF := Lib.hid (show Run X (rotR σ m k) a b ∧ Smp σ (rotR σ m k) a b ∧ Oth σ (rotR σ m k) a b from by
            rw [← hmb]
            exact ⟨rotR_run hmi hjb Hst.out.2.2.1 (by rw [hmb]; exact Hst.out.2.2.2.2) (fun q h1 h2 => Int.not_lt.2 (HI.out.2.1 q h1 h2)) HI.out.2.2.1, rotR_smp σ hmi hjb, rotR_oth σ hmi hjb⟩)
          clear HI
          go_wp2_with fail
          refine bodyPost_ret (results_none rfl _ _ _) rfl ?_
          exact ⟨rfl, _, HK.out.1, HF.out.1, HF.out.2.1, HF.out.2.2, HK.out.2⟩
end Go.Proofs.Ytlbapogmcnpmeaa.Avg
