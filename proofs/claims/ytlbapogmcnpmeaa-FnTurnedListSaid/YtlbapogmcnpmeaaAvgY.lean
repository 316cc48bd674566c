/- Plain facts: with all signs turned the sum, the mean and the drift have their signs turned, and the spread is the same. -/
import Derived.Test.YtlbapogmcnpmeaaAvgX
import Derived.Test.YtlbapogmcnpmeaaAvgK
namespace Go.Proofs.Ytlbapogmcnpmeaa.Avg
open Go.ChangeShapes Go.WideShapes Go.ChangeAt Go.RowKit Go.Deep Go.Proofs.Ytlbapogmcnpmeaa Go.Proofs.Ytlbapogmcnpmeaa.Flt Go.Proofs.Ytlbapogmcnpmeaa.Mth Go.Proofs.Ytlbapogmcnpmeaa.Sgl Go.Proofs.Ytlbapogmcnpmeaa.Drw
open Ieee (single double)
set_option linter.unusedVariables false
def ngF (X : Nat → Nat) : Nat → Nat := fun j => ng32 (X j)
theorem ng_fine {n : Nat} {X : Nat → Nat} (h : FineF n X) : FineF n (ngF X) := fun j hj => neg_fine (h j hj)
theorem ng_at {n j : Nat} {X : Nat → Nat} (h : FineF n X) (hj : j < n) : vW (ngF X j) = -vW (X j) ∧ sv single (ngF X j) = -sv single (X j) :=
  ⟨ng32_vW (lt_single' (h j hj).1) (h j hj).2, ng32_sv (lt_single' (h j hj).1)⟩
theorem fin_of {n : Nat} {X : Nat → Nat} (h : FineF n X) : ∀ j, j < n → finB (X j) = true := fun j hj => (h j hj).2
theorem sum_next {n k : Nat} {X : Nat → Nat} (hn : n ≤ 64) (h : FineF n X) (hk : k < n) : sv double (sumF 0 (els (k + 1) X)) = rndD (sv double (sumF 0 (els k X)) + vW (X k)) := by
  obtain ⟨f, l, u⟩ := all_btw (x := X k) (h k hk).2
  rw [els_succ, sumF_snoc]
  exact ((sum_bd (n := k) (X := X) (by omega) (fun j hj => (h j (by omega)).2)).step fn_lo fn_hi f l u (by omega)).2.2
theorem sum_neg {n : Nat} {X : Nat → Nat} (hn : n ≤ 64) (h : FineF n X) : ∀ k, k ≤ n → sv double (sumF 0 (els k (ngF X))) = -sv double (sumF 0 (els k X))
  | 0, _ => by
    have e : ∀ Y, sumF 0 (els 0 Y) = 0 := fun _ => rfl
    have z : sv double 0 = 0 := (sv_eq_zero double).2 (by decide)
    rw [e, e, z]; rfl
  | k + 1, hk => by
    rw [sum_next hn (ng_fine h) hk, sum_next hn h hk, sum_neg hn h k (by omega), (ng_at h (by omega)).1, ← rnd_negD]
    congr 1
    omega
/-! the mean by value -/
theorem mean_val {n s : Nat} (hn : 1 ≤ n) (hn2 : n ≤ 30000) (h : Bd 4286578687 2139095039 n s) :
    sv single (meanW s n) = if sgn double s = true then -((mg single (mn (sv double s).natAbs n) : Nat) : Int) else ((mg single (mn (sv double s).natAbs n) : Nat) : Int) := by
  have ha := h.abs
  have hr : (2139095039 : Nat) < single.infRung := by rw [inf_single]; omega
  obtain ⟨q1, q2⟩ := mn_le (N := (sv double s).natAbs) (n := n) (by omega) hr ha
  have q3 : mn (sv double s).natAbs n < single.infRung := Nat.lt_of_le_of_lt q2 hr
  obtain ⟨_, e⟩ := quo_int (y := s) (n := n) (by omega) (by omega) h.f
  rw [sv_abs] at q1 q3 ⊢
  have e2 := narrow_sgn (sgn double s) q1 q3
  have e3 : meanW s n = single.word (sgn double s) (mn (mg double (rung double s)) n) := by
    unfold meanW
    rw [e, e2]; rfl
  rw [e3, word_sv single _ (Nat.le_of_lt q3)]
theorem mn_zero (n : Nat) (h : 0 < n) : mn 0 n = 0 := by
  unfold mn nrw
  rw [rr_zero double h, Nat.zero_min, mg_zero, rr_zero single (Nat.two_pow_pos _)]
theorem sgn_turn {s s' : Nat} (h : sv double s' = -sv double s) (h0 : sv double s ≠ 0) : sgn double s' = !sgn double s := by
  unfold sv at h h0
  generalize mg double (rung double s) = p at *
  generalize mg double (rung double s') = q at *
  cases h1 : sgn double s <;> cases h2 : sgn double s' <;> simp only [h1, h2, if_true, Bool.false_eq_true, if_false] at h h0 <;> first | rfl | (exfalso; omega)
theorem mean_neg {n s s' : Nat} (hn : 1 ≤ n) (hn2 : n ≤ 30000) (h : Bd 4286578687 2139095039 n s) (h' : Bd 4286578687 2139095039 n s') (e : sv double s' = -sv double s) :
    sv single (meanW s' n) = -sv single (meanW s n) := by
  rw [mean_val hn hn2 h, mean_val hn hn2 h', e, Int.natAbs_neg]
  by_cases h0 : sv double s = 0
  · rw [h0, Int.natAbs_zero, mn_zero n (by omega), mg_zero]
    simp
  · rw [sgn_turn e h0]
    cases sgn double s <;> simp
theorem quo_neg {D y y' : Nat} (h0 : 0 < D) (hD : D < 9007199254740992) (h : rung double y < double.infRung) (h' : rung double y' < double.infRung) (e : sv double y' = -sv double y) :
    sv double (quoW y' D) = -sv double (quoW y D) := by
  have ha : mg double (rung double y') = mg double (rung double y) := by rw [← sv_abs, ← sv_abs, e, Int.natAbs_neg]
  rw [(quo_int h0 hD h).2, (quo_int h0 hD h').2, word_sv double _ (Nat.min_le_right _ _), word_sv double _ (Nat.min_le_right _ _), ha]
  by_cases z : sv double y = 0
  · have : mg double (rung double y) = 0 := by rw [← sv_abs, z]; rfl
    rw [this, rr_zero double h0, Nat.zero_min, mg_zero]
    simp
  · rw [sgn_turn e z]
    cases sgn double y <;> simp
theorem eq_turn {x y : Nat} (hx : finB x = true) (hy : finB y = true) (wy : y < 4294967296) (e : sv single y = -sv single x) : eqB x (ng32 y) = true := by
  unfold eqB
  rw [eq32]
  unfold eqW
  have hy' : finB (ng32 y) = true := by
    have := hy
    unfold finB at this ⊢
    rw [show rung single (ng32 y) = rung single y from rung_neg .f32 (lt_w32 wy)]
    exact this
  rw [fin_num hx, fin_num hy', ng32_sv wy, e, Int.neg_neg, decide_eq_true rfl]
  rfl
theorem meanB_of {n : Nat} {X : Nat → Nat} (h : FineF n X) (hn : n ≤ 64) : meanB n X = decide (1 ≤ n) := by
  unfold meanB; rw [good_of h hn, Bool.true_and]
theorem mean_turn {n : Nat} {X : Nat → Nat} (h : FineF n X) (hn : n ≤ 64) : eqB (meanN n X) (ng32 (meanN n (ngF X))) = true := by
  have f1 := meanN_fin n X
  have f2 := meanN_fin n (ngF X)
  have w2 := lt_single' (meanN_wf n (ngF X))
  refine eq_turn f1 f2 w2 ?_
  unfold meanN
  rw [meanB_of h hn, meanB_of (ng_fine h) hn]
  by_cases h1 : 1 ≤ n
  · rw [decide_eq_true h1, if_pos rfl, if_pos rfl]
    exact mean_neg h1 (by omega) (sum_bd hn (fin_of h)) (sum_bd hn (fin_of (ng_fine h))) (sum_neg hn h n (Nat.le_refl _))
  · rw [decide_eq_false h1, if_neg (by simp), if_neg (by simp)]
    rw [show sv single 0 = 0 from (sv_eq_zero single).2 (by decide)]; rfl
/-! the drift -/
theorem drS_neg {n : Nat} {X : Nat → Nat} (hn : n ≤ 64) (h : FineF n X) : ∀ k, k ≤ n → sv double (drS n (ngF X) k) = -sv double (drS n X k)
  | 0, _ => by
    have z : sv double 0 = 0 := (sv_eq_zero double).2 (by decide)
    show sv double 0 = -sv double 0
    rw [z]; rfl
  | k + 1, hk => by
    rw [(dr_step hn (fin_of (ng_fine h)) hk).2.2, (dr_step hn (fin_of h) hk).2.2, drS_neg hn h k (by omega), (ng_at h (by omega)).1, ← rnd_negD, Int.mul_neg]
    congr 1
    omega
theorem drT_fin {n : Nat} {X : Nat → Nat} (h2 : 2 ≤ n) (hn : n ≤ 64) (hf : ∀ j, j < n → fnS (X j) = true) : rung double (drT n X) < double.infRung := by
  have hb := dr_bd hn hf n (Nat.le_refl _)
  have ha := hb.abs
  obtain ⟨s1, s2, s3⟩ := sv_mul_int (m := 6) (y := drS n X n) (by omega) hb.f
  have hbt := (rnd_between (lo := 4286578687) (hi := 2139095039) (k := 30000) (z := 6 * sv double (drS n X n)) fn_loD fn_hiD (Nat.le_refl _) (by
    rw [vW_lo]; have := Nat.mul_le_mul_right (mg double (wr 2139095039)) (show 63 * n ≤ 4032 by omega); generalize mg double (wr 2139095039) = q at *; omega) (by
    rw [vW_hi]; have := Nat.mul_le_mul_right (mg double (wr 2139095039)) (show 63 * n ≤ 4032 by omega); generalize mg double (wr 2139095039) = q at *; omega)).2
  unfold drT; rw [s2]; exact hbt
theorem drift_turn {n : Nat} {X : Nat → Nat} (h : FineF n X) (hn : n ≤ 64) : (FloatKind.f64.format.order (driftN n X) (Op.negFloat .f64 (driftN n (ngF X))) == some .eq) = true := by
  have w2 := driftN_wl n (ngF X)
  have nn : ∀ Y, FineF n Y → isNaN double (driftN n Y) = false := fun Y hY => by
    unfold driftN
    split
    · rename_i hb
      unfold driftB at hb
      rw [Bool.and_eq_true, decide_eq_true_iff] at hb
      exact (dr_end hb.2 hn (fin_of hY)).2.2.2
    · decide
  have hw : driftN n (ngF X) < 2 ^ FloatKind.f64.format.width := by rw [show FloatKind.f64.format = double from rfl, width_double]; exact w2
  rw [eq64]
  unfold eqW
  rw [nn X h, show isNaN double (Op.negFloat .f64 (driftN n (ngF X))) = isNaN double (driftN n (ngF X)) from isNaN_neg .f64 hw, nn _ (ng_fine h), show sv double (Op.negFloat .f64 (driftN n (ngF X))) = -sv double (driftN n (ngF X)) from sv_neg .f64 hw]
  have key : sv double (driftN n (ngF X)) = -sv double (driftN n X) := by
    unfold driftN
    have hb : ∀ Y, FineF n Y → driftB n Y = decide (2 ≤ n) := fun Y hY => by unfold driftB; rw [good_of hY hn, Bool.true_and]
    rw [hb _ h, hb _ (ng_fine h)]
    by_cases h2 : 2 ≤ n
    · rw [decide_eq_true h2, if_pos rfl, if_pos rfl]
      have b1 := dr_bd hn (fin_of h) n (Nat.le_refl _)
      have b2 := dr_bd hn (fin_of (ng_fine h)) n (Nat.le_refl _)
      obtain ⟨s1, s2, _⟩ := sv_mul_int (m := 6) (y := drS n X n) (by omega) b1.f
      obtain ⟨t1, t2, _⟩ := sv_mul_int (m := 6) (y := drS n (ngF X) n) (by omega) b2.f
      obtain ⟨d0, d1⟩ := drD_pos h2 hn
      have e : sv double (drT n (ngF X)) = -sv double (drT n X) := by
        unfold drT
        rw [s1, t1, drS_neg hn h n (Nat.le_refl _), Int.mul_neg, rnd_negD]
      exact quo_neg d0 d1 (drT_fin h2 hn (fin_of h)) (drT_fin h2 hn (fin_of (ng_fine h))) e
    · rw [decide_eq_false h2, if_neg (by simp), if_neg (by simp)]
      rw [show sv double 0 = 0 from (sv_eq_zero double).2 (by decide)]; rfl
  rw [key, Int.neg_neg, decide_eq_true rfl]
  rfl
/-! the spread -/
theorem srt_ends {n : Nat} {X : Nat → Nat} (h : FineF n X) (h1 : 1 ≤ n) : sv single (srt (ngF X) n (n - 1)) = -sv single (srt X n 0) ∧ sv single (srt (ngF X) n 0) = -sv single (srt X n (n - 1)) := by
  obtain ⟨i, hi, ei⟩ := srt_mem (ngF X) n (n - 1) (by omega)
  obtain ⟨j, hj, ej⟩ := srt_mem (ngF X) n 0 (by omega)
  obtain ⟨k, hk, ek⟩ := srt_mem X n 0 (by omega)
  obtain ⟨l, hl, el⟩ := srt_mem X n (n - 1) (by omega)
  have a1 := (srt_least (fin_of h) hi).1
  have a2 := (srt_least (fin_of (ng_fine h)) hk).2
  have a3 := (srt_least (fin_of h) hj).2
  have a4 := (srt_least (fin_of (ng_fine h)) hl).1
  rw [(ng_at h hk).2] at a2
  rw [(ng_at h hl).2] at a4
  have b1 := (ng_at h hi).2
  have b2 := (ng_at h hj).2
  rw [← ei] at b1
  rw [← ej] at b2
  rw [ek] at a1 ⊢
  rw [el] at a3 ⊢
  omega
theorem spread_turn {n : Nat} {X : Nat → Nat} (h : FineF n X) (hn : n ≤ 64) : sprB n X = sprB n (ngF X) ∧ eqB (sprN n X) (sprN n (ngF X)) = true := by
  have hz : eqB 0 0 = true := by decide
  by_cases h1 : 1 ≤ n
  · obtain ⟨e1, e2⟩ := srt_ends h h1
    have f := srt_fin (fin_of h)
    have g := srt_fin (fin_of (ng_fine h))
    obtain ⟨r, r1, r2, r3, r4, r5⟩ := sub_val (a := srt X n (n - 1)) (b := srt X n 0) (of_decide_eq_true (f _ (by omega))) (of_decide_eq_true (f 0 (by omega)))
    obtain ⟨t, t1, t2, t3, t4, t5⟩ := sub_val (a := srt (ngF X) n (n - 1)) (b := srt (ngF X) n 0) (of_decide_eq_true (g _ (by omega))) (of_decide_eq_true (g 0 (by omega)))
    have q1 : sprD n X = r := by unfold sprD subB; rw [r1]; rfl
    have q2 : sprD n (ngF X) = t := by unfold sprD subB; rw [t1]; rfl
    have ez : sv single (srt (ngF X) n (n - 1)) - sv single (srt (ngF X) n 0) = sv single (srt X n (n - 1)) - sv single (srt X n 0) := by omega
    rw [ez] at t4 t5
    have hf : finB (sprD n X) = finB (sprD n (ngF X)) := by
      rw [q1, q2]; unfold finB; rw [r4, t4]
    have hB : sprB n X = sprB n (ngF X) := by unfold sprB; rw [meanB_of h hn, meanB_of (ng_fine h) hn, hf]
    refine ⟨hB, ?_⟩
    unfold sprN
    rw [← hB]
    split
    · rw [q1, q2]
      unfold eqB
      rw [eq32]
      unfold eqW
      rw [r3, t3, r5, t5, decide_eq_true rfl]
      rfl
    · exact hz
  · have hB : sprB n X = false ∧ sprB n (ngF X) = false := by
      unfold sprB
      rw [meanB_of h hn, meanB_of (ng_fine h) hn, decide_eq_false h1]
      exact ⟨rfl, rfl⟩
    refine ⟨hB.1.trans hB.2.symm, ?_⟩
    unfold sprN
    rw [hB.1, hB.2]
    exact hz
end Go.Proofs.Ytlbapogmcnpmeaa.Avg
