/- Values of expressions: they are words; only the slots that are named play a part; the mirrored expression. Plain facts. -/
import Derived.Test.YtjkjgichneoflaaExpM
import Derived.Test.YtjkjgichneoflaaExpA
import Derived.Test.YtjkjgichneoflaaExpS
namespace Go.Proofs.Ytjkjgichneoflaa.Ex
open Go.RowKit Go.Proofs.Ytjkjgichneoflaa Go.Proofs.Ytjkjgichneoflaa.Flt
open Ieee (double)
set_option linter.unusedVariables false
theorem slotV_some {sl : List (Nat × Nat)} {s : Int} {z : Nat × Nat} (h : slotV sl s = some z) : z ∈ sl ∧ isFinD z.1 = true ∧ isFinD z.2 = true := by
  unfold slotV at h
  cases hz : sl[s.toNat]? with
  | none => rw [hz] at h; cases h
  | some y =>
    rw [hz] at h
    simp only at h
    split at h
    · rename_i hq
      cases h
      rw [Bool.and_eq_true] at hq
      exact ⟨List.mem_of_getElem? hz, hq⟩
    · cases h
theorem evT_lt {sl : List (Nat × Nat)} (hs : wfZ sl) : ∀ (t : Tr), t.ok → ∀ z, evT sl t = some z → z.1 < 18446744073709551616 ∧ z.2 < 18446744073709551616
  | .leaf n, h, z, e => by
    obtain ⟨k, s, x, y⟩ := n
    have e' : nodeV sl ⟨k, s, x, y⟩ [] = some z := e
    unfold nodeV at e'
    rcases h.1 with hc | hc | hc
    · rw [if_pos hc.1] at e'
      cases e'
      exact hc.2.2.fin.2
    · rw [if_neg (show ¬ k = 1 by have : k = 2 := hc.1; omega), if_pos hc.1] at e'
      exact hs z (slotV_some e').1
    · have h1 : 3 ≤ k := hc.1.1
      have h2 : k ≤ 2 := h.2
      omega
  | .un k t, h, z, e => by
    have hk := h.1
    have e' : (match evT sl t with | none => none | some a => res (opO k a (0, 0))) = some z := e
    cases ht : evT sl t with
    | none => rw [ht] at e'; cases e'
    | some a =>
      rw [ht] at e'
      exact res_lt (by omega) (evT_lt hs t h.2 a ht) e'
  | .bin k a b, h, z, e => by
    have hk := h.1
    have e' : (match evT sl a with | none => none | some u => match evT sl b with | none => none | some v => res (opO k u v)) = some z := e
    cases ha : evT sl a with
    | none => rw [ha] at e'; cases e'
    | some u =>
      rw [ha] at e'
      cases hb : evT sl b with
      | none => rw [hb] at e'; cases e'
      | some v =>
        rw [hb] at e'
        exact res_lt (by omega) (evT_lt hs a h.2.1 u ha) e'
theorem evT_slots {sl ys : List (Nat × Nat)} : ∀ (t : Tr), t.ok → (∀ n ∈ pf t, n.k = 2 → slotV sl n.s = slotV ys n.s) → evT sl t = evT ys t
  | .leaf n, h, hs => by
    show nodeV sl n [] = nodeV ys n []
    unfold nodeV
    by_cases h1 : n.k = 1
    · rw [if_pos h1, if_pos h1]
    · rw [if_neg h1, if_neg h1]
      have h2 : n.k = 2 := by
        have := h.2
        rcases h.1 with hc | hc | hc
        · exact absurd hc.1 h1
        · exact hc.1
        · have := hc.1; omega
      rw [if_pos h2, if_pos h2, hs n (by simp [pf]) h2]
  | .un k t, h, hs => by
    show (match evT sl t with | none => none | some a => res (opO k a (0, 0))) = (match evT ys t with | none => none | some a => res (opO k a (0, 0)))
    rw [evT_slots t h.2 fun n hn => hs n (by simp [pf, hn])]
  | .bin k a b, h, hs => by
    show (match evT sl a with | none => none | some u => match evT sl b with | none => none | some v => res (opO k u v)) = (match evT ys a with | none => none | some u => match evT ys b with | none => none | some v => res (opO k u v))
    rw [evT_slots a h.2.1 fun n hn => hs n (by simp [pf, hn]), evT_slots b h.2.2 fun n hn => hs n (by simp [pf, hn])]
/-! mirrored -/
theorem slot_mir {sl : List (Nat × Nat)} (hw : wfZ sl) (s : Int) : (slotV sl s = none ∧ slotV (conjL sl) s = none) ∨ ∃ u u1, slotV sl s = some u ∧ slotV (conjL sl) s = some u1 ∧ MR u u1 := by
  unfold slotV conjL
  rw [List.getElem?_map]
  cases hz : sl[s.toNat]? with
  | none => exact .inl ⟨rfl, rfl⟩
  | some z =>
    have hwz := hw z (List.mem_of_getElem? hz)
    simp only [Option.map_some]
    rw [ng_fin hwz.2]
    cases hf : (isFinD z.1 && isFinD z.2)
    · exact .inl ⟨rfl, rfl⟩
    · right
      rw [Bool.and_eq_true] at hf
      exact ⟨z, (z.1, ng z.2), rfl, rfl, FW.refl hf.1, (FW.refl hf.2).neg hwz.2, hwz, hwz.1, ng_lt hwz.2⟩
theorem mr_zero : MR (0, 0) (0, 0) := ⟨zero_fw false, zero_fw true, by decide, by decide⟩
theorem res_some {a b : Nat} (ha : isFinD a = true) (hb : isFinD b = true) : res (can .f64 a, can .f64 b) = some (a, b) := by
  unfold res
  show (if (finO (can .f64 a) && finO (can .f64 b)) = true then some ((can .f64 a).getD 0, (can .f64 b).getD 0) else none) = _
  have ca : can .f64 a = some a := can_num (fin_nan ha)
  have cb : can .f64 b = some b := can_num (fin_nan hb)
  rw [finO_can, finO_can, ha, hb, ca, cb]; rfl
theorem ng_zero : FW false 0 (ng 0) := ⟨by decide, by decide, by decide, by decide, .inl (by decide)⟩
theorem evT_mir {sl : List (Nat × Nat)} (hw : wfZ sl) : ∀ (t : Tr), t.ok → noIm t →
    (evT sl t = none ∧ evT (conjL sl) (mirT t) = none) ∨ ∃ u u1, evT sl t = some u ∧ evT (conjL sl) (mirT t) = some u1 ∧ MR u u1
  | .leaf n, h, _ => by
    obtain ⟨k, s, x, y⟩ := n
    rcases h.1 with hc | hc | hc
    · obtain rfl : k = 1 := hc.1
      obtain ⟨⟨fx, fy⟩, wx, wy⟩ := hc.2.2.fin
      have e1 : evT sl (.leaf ⟨1, s, x, y⟩) = some (x, y) := rfl
      right
      by_cases hy : y = 0
      · subst hy
        have e2 : mirT (.leaf ⟨1, s, x, 0⟩) = .leaf ⟨1, s, x, 0⟩ := if_neg (by intro h'; exact h'.2 rfl)
        rw [e2]
        exact ⟨_, _, e1, rfl, FW.refl fx, zero_fw true, ⟨wx, wy⟩, ⟨wx, wy⟩⟩
      · have e2 : mirT (.leaf ⟨1, s, x, y⟩) = .un 4 (.leaf ⟨1, s, x, y⟩) := if_pos ⟨rfl, hy⟩
        have hx : x = 0 := by
          obtain ⟨f, hf, ⟨_, h2⟩ | ⟨h1, _⟩⟩ := hc.2.2
          · exact absurd h2 hy
          · exact h1
        subst hx
        have e3 : evT (conjL sl) (.un 4 (.leaf ⟨1, s, 0, y⟩)) = some (ng 0, ng y) := by
          show res (opO 4 (0, y) (0, 0)) = _
          exact res_some (by rw [ng_fin wx]; exact fx) (by rw [ng_fin wy]; exact fy)
        rw [e2]
        refine ⟨_, _, e1, e3, ng_zero, (FW.refl fy).neg wy, ⟨wx, wy⟩, ng_lt wx, ng_lt wy⟩
    · obtain rfl : k = 2 := hc.1
      have e2 : mirT (.leaf ⟨2, s, x, y⟩) = .leaf ⟨2, s, x, y⟩ := if_neg (by intro h'; exact absurd (show (2 : Int) = 1 from h'.1) (by decide))
      rw [e2]
      exact slot_mir hw s
    · have h1 : 3 ≤ k := hc.1.1
      have h2 : k ≤ 2 := h.2
      omega
  | .un k t, h, hi => by
    have hk := h.1
    show ((match evT sl t with | none => none | some a => res (opO k a (0, 0))) = none ∧ (match evT (conjL sl) (mirT t) with | none => none | some a => res (opO k a (0, 0))) = none) ∨ ∃ u u1, (match evT sl t with | none => none | some a => res (opO k a (0, 0))) = some u ∧ (match evT (conjL sl) (mirT t) with | none => none | some a => res (opO k a (0, 0))) = some u1 ∧ MR u u1
    rcases evT_mir hw t h.2 hi.2 with ⟨h1, h2⟩ | ⟨u, u1, h1, h2, hm⟩
    · rw [h1, h2]; exact .inl ⟨rfl, rfl⟩
    · rw [h1, h2]
      exact res_mir (by omega) hi.1 hm mr_zero
  | .bin k a b, h, hi => by
    have hk := h.1
    show ((match evT sl a with | none => none | some u => match evT sl b with | none => none | some v => res (opO k u v)) = none ∧ (match evT (conjL sl) (mirT a) with | none => none | some u => match evT (conjL sl) (mirT b) with | none => none | some v => res (opO k u v)) = none) ∨ ∃ u u1, (match evT sl a with | none => none | some u => match evT sl b with | none => none | some v => res (opO k u v)) = some u ∧ (match evT (conjL sl) (mirT a) with | none => none | some u => match evT (conjL sl) (mirT b) with | none => none | some v => res (opO k u v)) = some u1 ∧ MR u u1
    rcases evT_mir hw a h.2.1 hi.1 with ⟨h1, h2⟩ | ⟨u, u1, h1, h2, hm⟩
    · rw [h1, h2]; exact .inl ⟨rfl, rfl⟩
    · rw [h1, h2]
      rcases evT_mir hw b h.2.2 hi.2 with ⟨g1, g2⟩ | ⟨v, v1, g1, g2, hm2⟩
      · rw [g1, g2]; exact .inl ⟨rfl, rfl⟩
      · rw [g1, g2]
        exact res_mir (by omega) (by omega) hm hm2
/-! unary signs -/
theorem res_fin {o : Option Nat × Option Nat} {z : Nat × Nat} (h : res o = some z) : isFinD z.1 = true ∧ isFinD z.2 = true := by
  unfold res at h
  split at h
  · rename_i hq
    rw [Bool.and_eq_true] at hq
    cases h
    constructor
    · show isFinD (o.1.getD 0) = true
      cases e : o.1 with
      | none => rw [e] at hq; cases hq.1
      | some r => rw [e] at hq; exact hq.1
    · show isFinD (o.2.getD 0) = true
      cases e : o.2 with
      | none => rw [e] at hq; cases hq.2
      | some r => rw [e] at hq; exact hq.2
  · cases h
theorem evT_fin {sl : List (Nat × Nat)} : ∀ (t : Tr), t.ok → ∀ z, evT sl t = some z → isFinD z.1 = true ∧ isFinD z.2 = true
  | .leaf n, h, z, e => by
    obtain ⟨k, s, x, y⟩ := n
    have e' : nodeV sl ⟨k, s, x, y⟩ [] = some z := e
    unfold nodeV at e'
    rcases h.1 with hc | hc | hc
    · rw [if_pos hc.1] at e'
      cases e'
      exact hc.2.2.fin.1
    · rw [if_neg (show ¬ k = 1 by have : k = 2 := hc.1; omega), if_pos hc.1] at e'
      exact (slotV_some e').2
    · have h1 : 3 ≤ k := hc.1.1
      have h2 : k ≤ 2 := h.2
      omega
  | .un k t, h, z, e => by
    have e' : (match evT sl t with | none => none | some a => res (opO k a (0, 0))) = some z := e
    cases ht : evT sl t with
    | none => rw [ht] at e'; cases e'
    | some a =>
      rw [ht] at e'
      exact res_fin e'
  | .bin k a b, h, z, e => by
    have e' : (match evT sl a with | none => none | some u => match evT sl b with | none => none | some v => res (opO k u v)) = some z := e
    cases ha : evT sl a with
    | none => rw [ha] at e'; cases e'
    | some u =>
      rw [ha] at e'
      cases hb : evT sl b with
      | none => rw [hb] at e'; cases e'
      | some v => rw [hb] at e'; exact res_fin e'
theorem ng_ng {x : Nat} (h : x < 18446744073709551616) : ng (ng x) = x := by
  have h2 := ng_lt (ng_lt h)
  exact word_inj double (by rw [width_double]; exact h2) (by rw [width_double]; exact h) (by rw [ng_sgn (ng_lt h), ng_sgn h, Bool.not_not]) (by rw [ng_rung (ng_lt h), ng_rung h])
theorem evT_plus {sl : List (Nat × Nat)} {t : Tr} (h : t.ok) : evT sl (.un 3 t) = evT sl t := by
  show (match evT sl t with | none => none | some a => res (opO 3 a (0, 0))) = _
  cases ht : evT sl t with
  | none => rfl
  | some a =>
    obtain ⟨f1, f2⟩ := evT_fin t h a ht
    exact res_some f1 f2
theorem evT_minus {sl : List (Nat × Nat)} (hs : wfZ sl) {t : Tr} (h : t.ok) : evT sl (.un 4 (.un 4 t)) = evT sl t := by
  show (match (match evT sl t with | none => none | some a => res (opO 4 a (0, 0))) with | none => none | some a => res (opO 4 a (0, 0))) = _
  cases ht : evT sl t with
  | none => rfl
  | some a =>
    obtain ⟨f1, f2⟩ := evT_fin t h a ht
    obtain ⟨w1, w2⟩ := evT_lt hs t h a ht
    have e1 : res (opO 4 a (0, 0)) = some (ng a.1, ng a.2) := res_some (by rw [ng_fin w1]; exact f1) (by rw [ng_fin w2]; exact f2)
    show (match res (opO 4 a (0, 0)) with | none => none | some a => res (opO 4 a (0, 0))) = _
    rw [e1]
    show res (can .f64 (ng (ng a.1)), can .f64 (ng (ng a.2))) = _
    rw [ng_ng w1, ng_ng w2]
    exact res_some f1 f2
end Go.Proofs.Ytjkjgichneoflaa.Ex
