/- The texts that wait while an expression is written: plain facts. No walk stands here. -/
import Derived.Test.YtlngplohnknhjaaGreatDoorKExpPk
namespace Go.Proofs.YtlngplohnknhjaaGreatDoor.Px
open Go.RowKit Go.Proofs.YtlngplohnknhjaaGreatDoor Go.Proofs.YtlngplohnknhjaaGreatDoor.Flt Go.Proofs.YtlngplohnknhjaaGreatDoor.Ex Go.Proofs.YtlngplohnknhjaaGreatDoor.Sng
set_option linter.unusedVariables false
set_option linter.unusedSimpArgs false
/-- a text and its strength -/
abbrev Tp := Tx × Int
/-- the piece of a node over those that wait -/
noncomputable def nodeP (n : Nd) (st : List Tp) : Tp :=
  if n.k = 1 then (numT n.x n.y, 5)
  else if n.k = 2 then (115 :: Lib.itoa n.s, 5)
  else if n.k ≤ 4 then (txL n.k ++ wi (st.getD 0 ([], 0)).2 4 (st.getD 0 ([], 0)).1, 4)
  else if n.k ≤ 7 then (txL n.k ++ 40 :: ((st.getD 0 ([], 0)).1 ++ [41]), 5)
  else (wi (st.getD 1 ([], 0)).2 (stg n.k) (st.getD 1 ([], 0)).1 ++ 32 :: (txL n.k ++ 32 :: wi (st.getD 0 ([], 0)).2 (stg n.k + 1) (st.getD 0 ([], 0)).1), stg n.k)
noncomputable def evP : List Nd → List Tp → List Tp
  | [], st => st
  | n :: r, st => evP r (nodeP n st :: st.drop (ar n.k))
theorem evP_cons (n : Nd) (r : List Nd) (st : List Tp) : evP (n :: r) st = evP r (nodeP n st :: st.drop (ar n.k)) := rfl
theorem stg_nat {k : Int} (h : 8 ≤ k ∧ k ≤ 12) : stg k = (stgN k : Int) := by
  obtain rfl | rfl | rfl | rfl | rfl : k = 8 ∨ k = 9 ∨ k = 10 ∨ k = 11 ∨ k = 12 := by omega
  all_goals decide
theorem wi_par (t : Tr) (s : Nat) : wi (strT t : Int) (s : Int) (txT t) = par s t := by
  unfold wi par
  by_cases h : strT t < s
  · rw [if_pos h, if_pos (by omega)]
  · rw [if_neg h, if_neg (by omega)]
theorem leaf_num {n : Nd} (h : n.ok) (hk : n.k = 1) : leafL n = numT n.x n.y := by
  unfold leafL numT
  rw [if_neg (by omega)]
theorem evP_pf : ∀ (t : Tr) (r : List Nd) (st : List Tp), t.ok → evP (pf t ++ r) st = evP r ((txT t, (strT t : Int)) :: st)
  | .leaf n, r, st, h => by
    show evP r (nodeP n st :: st.drop (ar n.k)) = _
    rw [ar_leaf h.2, List.drop_zero]
    have : nodeP n st = (txT (.leaf n), ((strT (.leaf n) : Nat) : Int)) := by
      show nodeP n st = (leafL n, 5)
      unfold nodeP
      rcases h.1 with h1 | h1 | h1
      · rw [if_pos h1.1, leaf_num h.1 h1.1]
      · rw [if_neg (by omega), if_pos h1.1]
        unfold leafL; rw [if_pos h1.1]
      · have := h.2; omega
    rw [this]
  | .un k t, r, st, h => by
    have hk := h.1
    rw [show pf (.un k t) ++ r = pf t ++ (opN k :: r) by simp [pf], evP_pf t _ st h.2]
    show evP r (nodeP (opN k) ((txT t, (strT t : Int)) :: st) :: ((txT t, (strT t : Int)) :: st).drop (ar k)) = _
    rw [ar_un hk, List.drop_succ_cons, List.drop_zero]
    have : nodeP (opN k) ((txT t, (strT t : Int)) :: st) = (txT (.un k t), ((strT (.un k t) : Nat) : Int)) := by
      unfold nodeP
      rw [if_neg (show ¬ (opN k).k = 1 from by show ¬ k = 1; omega), if_neg (show ¬ (opN k).k = 2 from by show ¬ k = 2; omega)]
      by_cases h4 : k ≤ 4
      · rw [if_pos (show (opN k).k ≤ 4 from h4), txT_un t h4]
        show (txL k ++ wi (strT t : Int) 4 (txT t), (4 : Int)) = (txL k ++ par 4 t, ((if k ≤ 4 then 4 else 5 : Nat) : Int))
        rw [if_pos h4, show (4 : Int) = ((4 : Nat) : Int) from rfl, wi_par]
      · rw [if_neg (show ¬ (opN k).k ≤ 4 from h4), if_pos (show (opN k).k ≤ 7 from hk.2), txT_fn t h4]
        show (txL k ++ 40 :: (txT t ++ [41]), (5 : Int)) = (txL k ++ 40 :: (txT t ++ [41]), ((if k ≤ 4 then 4 else 5 : Nat) : Int))
        rw [if_neg h4]; rfl
    rw [this]
  | .bin k a b, r, st, h => by
    have hk := h.1
    rw [show pf (.bin k a b) ++ r = pf a ++ (pf b ++ (opN k :: r)) by simp [pf], evP_pf a _ st h.2.1, evP_pf b _ _ h.2.2]
    show evP r (nodeP (opN k) ((txT b, (strT b : Int)) :: (txT a, (strT a : Int)) :: st) :: ((txT b, (strT b : Int)) :: (txT a, (strT a : Int)) :: st).drop (ar k)) = _
    rw [ar_bin hk, List.drop_succ_cons, List.drop_succ_cons, List.drop_zero]
    have : nodeP (opN k) ((txT b, (strT b : Int)) :: (txT a, (strT a : Int)) :: st) = (txT (.bin k a b), ((strT (.bin k a b) : Nat) : Int)) := by
      unfold nodeP
      rw [if_neg (show ¬ (opN k).k = 1 from by show ¬ k = 1; omega), if_neg (show ¬ (opN k).k = 2 from by show ¬ k = 2; omega), if_neg (show ¬ (opN k).k ≤ 4 from by show ¬ k ≤ 4; omega), if_neg (show ¬ (opN k).k ≤ 7 from by show ¬ k ≤ 7; omega), txT_bin]
      show (wi (strT a : Int) (stg k) (txT a) ++ 32 :: (txL k ++ 32 :: wi (strT b : Int) (stg k + 1) (txT b)), stg k) = (_, ((stgN k : Nat) : Int))
      rw [stg_nat hk, show ((stgN k : Nat) : Int) + 1 = ((stgN k + 1 : Nat) : Int) from rfl, wi_par, wi_par]
    rw [this]
theorem evP_tree {t : Tr} (h : t.ok) : evP (pf t) [] = [(txT t, (strT t : Int))] := by
  have := evP_pf t [] [] h
  rw [List.append_nil] at this
  rw [this]; rfl
/-! lengths -/
def tot : List Tp → Nat
  | [] => 0
  | p :: r => p.1.length + tot r
theorem tot_drop : ∀ (st : List Tp) (n : Nat), tot (st.drop n) ≤ tot st
  | [], n => by simp
  | p :: r, 0 => by simp
  | p :: r, n + 1 => by rw [List.drop_succ_cons]; have := tot_drop r n; show tot (r.drop n) ≤ p.1.length + tot r; omega
theorem txL_len (k : Int) : (txL k).length ≤ 4 := by unfold txL; split <;> (try split) <;> (try split) <;> (try split) <;> (try split) <;> (try split) <;> (try split) <;> simp
theorem num_len {x y : Nat} (h : NV x y) : (numT x y).length ≤ 30 := by
  obtain ⟨f, hf, h⟩ := h
  have hb := body_len hf
  unfold numT
  rcases h with ⟨rfl, rfl⟩ | ⟨rfl, rfl, h0⟩
  · rw [if_pos rfl, nr_wid hf]; omega
  · split
    · have := body_len (f := nrF 0) (by rw [show nrF 0 = 0 from by decide +kernel]; omega); omega
    · rw [nr_wid hf, List.length_append, List.length_singleton]; omega
theorem slot_len {s : Int} (h : 0 ≤ s ∧ s ≤ 9) : (115 :: Lib.itoa s : Tx).length = 2 := by
  obtain ⟨u, rfl⟩ := Int.eq_ofNat_of_zero_le h.1
  rw [Lib.itoa_nonneg, Lib.decDigits_one (by omega)]; rfl
theorem nodeP_len {n : Nd} (h : n.ok) {st : List Tp} (ha : ar n.k ≤ st.length) : (nodeP n st).1.length + tot (st.drop (ar n.k)) ≤ tot st + 40 := by
  have l := txL_len n.k
  unfold nodeP
  rcases h with h1 | h1 | h1
  · rw [if_pos h1.1, h1.1]
    have := num_len h1.2.2
    show (numT n.x n.y).length + tot st ≤ _
    omega
  · rw [if_neg (by omega), if_pos h1.1, h1.1]
    have := slot_len h1.2.1
    show (115 :: Lib.itoa n.s : Tx).length + tot st ≤ _
    omega
  · rw [if_neg (by omega), if_neg (by omega)]
    by_cases h7 : n.k ≤ 7
    · rw [ar_un ⟨h1.1.1, h7⟩] at ha ⊢
      match st, ha with
      | p :: r, _ =>
        have w1 := wi_len p.2 4 p.1
        by_cases h4 : n.k ≤ 4
        · rw [if_pos h4]
          show (txL n.k ++ wi p.2 4 p.1).length + tot r ≤ (p.1.length + tot r) + 40
          rw [List.length_append]; omega
        · rw [if_neg h4, if_pos h7]
          show (txL n.k ++ 40 :: (p.1 ++ [41])).length + tot r ≤ (p.1.length + tot r) + 40
          simp only [List.length_append, List.length_cons, List.length_nil]; omega
    · rw [ar_bin ⟨by omega, h1.1.2⟩] at ha ⊢
      rw [if_neg (by omega), if_neg h7]
      match st, ha with
      | q :: p :: r, _ =>
        have w1 := wi_len p.2 (stg n.k) p.1
        have w2 := wi_len q.2 (stg n.k + 1) q.1
        show (wi p.2 (stg n.k) p.1 ++ 32 :: (txL n.k ++ 32 :: wi q.2 (stg n.k + 1) q.1)).length + tot r ≤ (q.1.length + (p.1.length + tot r)) + 40
        simp only [List.length_append, List.length_cons]; omega
theorem tot_mem : ∀ {st : List Tp} {p : Tp}, p ∈ st → p.1.length ≤ tot st
  | q :: r, p, h => by
    show p.1.length ≤ q.1.length + tot r
    rcases List.mem_cons.1 h with rfl | h
    · omega
    · have := tot_mem h; omega
/-- the pieces in memory -/
def pcs (st : List Tp) : List Pc := st.map fun p => pc p.1 p.2
theorem pcs_len (st : List Tp) : (pcs st).length = st.length := List.length_map ..
theorem pcs_drop (st : List Tp) (n : Nat) : pcs (st.drop n) = (pcs st).drop n := List.map_drop ..
end Go.Proofs.YtlngplohnknhjaaGreatDoor.Px
