/- A table and its mirrored one; the law's comparison of lists of points. -/
import Derived.Test.YtbmojogohffhaaaTabX
import Derived.Test.YtbmojogohffhaaaMirI
import Derived.Test.YtbmojogohffhaaaLrg
namespace Go.Proofs.Ytbmojogohffhaaa.Pnt
open Go.ChangeShapes Go.WideShapes Go.ChangeAt Go.RowKit Go.Deep Go.Proofs.Ytbmojogohffhaaa Go.Proofs.Ytbmojogohffhaaa.Flt Go.Proofs.Ytbmojogohffhaaa.Mth
open Ieee (single double)
set_option linter.unusedVariables false
theorem neg_lt32 {x : Nat} (wx : (Lit.float .f32 x).wf = true) : x < 2 ^ FloatKind.f32.format.width := lt_single' wx
theorem neg_fin {x : Nat} (wx : (Lit.float .f32 x).wf = true) (h : finB x = true) : finB (Op.negFloat .f32 x) = true := by
  refine fin_iff.2 ?_
  rw [show rung single (Op.negFloat .f32 x) = rung single x from rung_neg .f32 (neg_lt32 wx)]
  exact fin_iff.1 h
theorem neg_sv {x : Nat} (wx : (Lit.float .f32 x).wf = true) : sv single (Op.negFloat .f32 x) = - sv single x := sv_neg .f32 (neg_lt32 wx)
theorem neg_neg {x : Nat} (wx : (Lit.float .f32 x).wf = true) : Op.negFloat .f32 (Op.negFloat .f32 x) = x := by
  have hx := neg_lt32 wx
  have h1 := neg_lt .f32 hx
  refine word_inj single (neg_lt .f32 h1) hx ?_ ?_
  · have a := sgn_neg .f32 h1
    have b := sgn_neg .f32 hx
    exact a.trans (by rw [b, Bool.not_not]; rfl)
  · exact (rung_neg .f32 h1).trans (rung_neg .f32 hx)
theorem neg_sub {a b : Nat} (wa : (Lit.float .f32 a).wf = true) (wb : (Lit.float .f32 b).wf = true) (fa : finB a = true) (fb : finB b = true) (h : finB (subB b a) = true) : finB (subB (Op.negFloat .f32 a) (Op.negFloat .f32 b)) = true := by
  refine fin_iff.2 ?_
  rw [(sub_is (neg_fin wa fa) (neg_fin wb fb)).1, neg_sv wa, neg_sv wb]
  have := fin_iff.1 h
  rw [(sub_is fb fa).1] at this
  rw [show -sv single a - -sv single b = sv single b - sv single a by omega]
  exact this
/-- the mirrored table is valid -/
theorem mir_ok {n : Nat} {X : Nat → Nat} (h : okP n X = true) (hw : Wf n X) : okP n (mirX n X) = true := by
  have hb := okP_bounds h
  symm
  refine okP_all hb.1 hb.2 fun i hi => ?_
  obtain ⟨e0, e1⟩ := mirX_at n X i
  have a := okPt_fin (okP_at h (j := n - 1 - i) (by omega))
  have wa := hw (n - 1 - i) (by omega)
  unfold okPt
  rw [e0, e1, neg_fin wa.1 a.1, neg_fin wa.2 a.2]
  rcases i with _ | i
  · rfl
  · obtain ⟨g0, g1⟩ := mirX_at n X i
    have b := okPt_fin (okP_at h (j := n - 1 - i) (by omega))
    have wb := hw (n - 1 - i) (by omega)
    obtain ⟨q1, q2, q3⟩ := okP_step h (k := n - 1 - (i + 1)) (by omega)
    rw [show n - 1 - (i + 1) + 1 = n - 1 - i by omega] at q1 q2 q3
    unfold isAB
    rw [show i + 1 - 1 = i from rfl, g0, g1, neg_sub wa.1 wb.1 a.1 b.1 q2, neg_sub wa.2 wb.2 a.2 b.2 q3]
    rw [leB_sv (fin_num (neg_fin wa.1 a.1)) (fin_num (neg_fin wb.1 b.1)), neg_sv wa.1, neg_sv wb.1, decide_eq_false (by omega)]
    rfl
/-- mirrored twice -/
theorem mir_mir {n : Nat} {X : Nat → Nat} (hw : Wf n X) : ∀ j, j < n * 2 → mirX n (mirX n X) j = X j := fun j hj => by
  have hi : j / 2 < n := by omega
  obtain ⟨e0, e1⟩ := mirX_at n (mirX n X) (j / 2)
  obtain ⟨g0, g1⟩ := mirX_at n X (n - 1 - j / 2)
  have w := hw (j / 2) hi
  rw [g0, show n - 1 - (n - 1 - j / 2) = j / 2 by omega] at e0
  rw [g1, show n - 1 - (n - 1 - j / 2) = j / 2 by omega] at e1
  rcases Nat.mod_two_eq_zero_or_one j with e | e
  · rw [show j / 2 * 2 = j by omega] at e0 w
    rw [e0, neg_neg w.1]
  · rw [show j / 2 * 2 + 1 = j by omega] at e1 w
    rw [e1, neg_neg w.2]
theorem lrg_ge (X : Nat → Nat) : ∀ k i, i < k → rung single (X (i * 2 + 1)) ≤ lrg X k
  | 0, i, hi => absurd hi (Nat.not_lt_zero _)
  | k + 1, i, hi => by
    unfold lrg
    by_cases e : i = k
    · subst e; omega
    · have := lrg_ge X k i (by omega); omega
theorem lrg_in (X : Nat → Nat) : ∀ k, lrg X k = 0 ∨ ∃ i, i < k ∧ lrg X k = rung single (X (i * 2 + 1))
  | 0 => .inl rfl
  | k + 1 => by
    unfold lrg
    rcases Nat.le_total (lrg X k) (rung single (X (k * 2 + 1))) with h | h
    · exact .inr ⟨k, by omega, by omega⟩
    · rcases lrg_in X k with e | ⟨i, hi, e⟩
      · exact .inr ⟨k, by omega, by omega⟩
      · exact .inr ⟨i, by omega, by omega⟩
theorem lrg_le {X Y : Nat → Nat} {n : Nat} (h : ∀ i, i < n → ∃ j, j < n ∧ rung single (X (i * 2 + 1)) = rung single (Y (j * 2 + 1))) : lrg X n ≤ lrg Y n := by
  rcases lrg_in X n with e | ⟨i, hi, e⟩
  · omega
  · obtain ⟨j, hj, e2⟩ := h i hi
    rw [e, e2]
    exact lrg_ge Y n j hj
/-- the greatest amount is the same -/
theorem mir_lrg {n : Nat} {X : Nat → Nat} (h : okP n X = true) (hw : Wf n X) : lrgV n (mirX n X) = lrgV n X := by
  unfold lrgV
  rw [mir_ok h hw, h, if_pos rfl, if_pos rfl]
  have key : ∀ i, i < n → rung single (mirX n X (i * 2 + 1)) = rung single (X ((n - 1 - i) * 2 + 1)) := fun i hi => by
    rw [(mirX_at n X i).2]
    exact rung_neg .f32 (neg_lt32 (hw (n - 1 - i) (by omega)).2)
  refine Nat.le_antisymm (lrg_le fun i hi => ⟨n - 1 - i, by omega, key i hi⟩) (lrg_le fun i hi => ⟨n - 1 - i, by omega, ?_⟩)
  rw [key (n - 1 - i) (by omega), show n - 1 - (n - 1 - i) = i by omega]
/-- mirrored once it tells the mirrored points -/
theorem mir_node {n : Nat} {X : Nat → Nat} (h : okP n X = true) (hw : Wf n X) {k : Nat} (hk : k < n) : segIn n (mirX n X) (Op.negFloat .f32 (X (k * 2))) = true ∧ ipV n (mirX n X) (Op.negFloat .f32 (X (k * 2))) = Op.negFloat .f32 (X (k * 2 + 1)) := by
  have hm := mir_ok h hw
  have h1 := node_in hm (k := n - 1 - k) (by omega)
  have h2 := node_val hm (k := n - 1 - k) (by omega)
  obtain ⟨e0, e1⟩ := mirX_at n X (n - 1 - k)
  rw [show n - 1 - (n - 1 - k) = k by omega] at e0 e1
  rw [e0] at h1 h2
  rw [e1] at h2
  exact ⟨h1, h2⟩
theorem same_old (x : Nat) (w : World) (wx : (Lit.float .f32 x).wf = true) : Calls Try.prog 19 #[.float .f32 x, .float .f32 x] w fun e w' => e = .returned (.bool true) ∧ Below w.heap.size w w' := by
  refine (same32_any _ _ _ wx wx).mono ?_
  rintro e w' ⟨rfl, n, rfl⟩
  rw [sameW_refl]
  exact ⟨rfl, below_drewN (Below.refl _ _) n⟩
set_option maxHeartbeats 800000 in
theorem samePts (b off c off' len cap cap' : Nat) (X : Nat → Nat) (w : World) (hl : len ≤ 1048576) (hb : b < w.heap.size) (hc : c < w.heap.size) (h1 : Cells w b off len X) (h2 : Cells w c off' len X) (hw : Wf len X) :
    Calls Try.prog 23 #[.slice (some ⟨b, off, none⟩) len cap, .slice (some ⟨c, off', none⟩) len cap'] w fun e w' => e = .returned (.bool true) ∧ Below w.heap.size w w' := by
  have H1 := Lib.hid h1
  have H2 := Lib.hid h2
  have HW := Lib.hid hw
  clear h1 h2 hw
  have Hst := Lib.hid (Below.refl w.heap.size w)
  generalize hB : w.heap.size = B at *
  go_enter Try.func23, Try.ntmps23
  go_wp2_with fail
  go_loopw [5] (fun i wr => ∃ k : Nat, i = .int .i64 k ∧ k ≤ len ∧ Below B w wr)
    (fun i _ => len - (intOf i).toNat)
  case atStart => exact ⟨0, rfl, Nat.zero_le _, Hst.out⟩
  case round =>
    obtain ⟨k, rfl, hk, hbel⟩ := hrel
    have Hbel := Lib.hid hbel
    by_cases hkl : k < len
    · have hkl' : (k : Int) < (len : Int) := by omega
      have hsz : B ≤ wr.heap.size := by rw [← hB]; exact hbel.size
      have cn1 : ∀ n : Old wr, Cells n.x b off len X := fun n => (H1.out.keep hb Hbel.out).keep (Nat.lt_of_lt_of_le hb hsz) n.h
      have cn2 : ∀ n : Old wr, Cells n.x c off' len X := fun n => (H2.out.keep hc Hbel.out).keep (Nat.lt_of_lt_of_le hc hsz) n.h
      have a0 := fun n => (cn1 n k hkl).1
      have a1 := fun n => (cn1 n k hkl).2
      have c0 := fun n => (cn2 n k hkl).1
      have c1 := fun n => (cn2 n k hkl).2
      obtain ⟨v0, v1⟩ := HW.out k hkl
      have hs0 := Lib.hid (fun W => same_old (X (k * 2)) W v0)
      have hs1 := Lib.hid (fun W => same_old (X (k * 2 + 1)) W v1)
      have HO := Lib.hid (show ∀ n : Old wr, Below B w n.x from fun n => Hbel.out.trans (n.h.mono hsz))
      clear cn1 cn2 v0 v1 hbel
      go_wp2_with fail
      refine wp_region_old (by kernel_rfl) (by kernel_rfl) ?_
      repeat (go_big_quiet_step (first | (go_at_call 19; first | (with_reducible exact old_call (hs0.out _)) | (with_reducible exact old_call (hs1.out _)))))
      refine wpQuiet_nil ?_
      rintro _ ⟨n, rfl⟩
      go_wp2_with fail
      go_roundw
      case rel => exact ⟨k + 1, by go_num, by omega, HO.out n⟩
      case measure => simp [intOf]; omega
    · have hkl' : ¬ (k : Int) < (len : Int) := by omega
      obtain rfl : k = len := by omega
      clear hbel
      go_wp2_with fail
      go_ret
      exact ⟨rfl, Hbel.out⟩
end Go.Proofs.Ytbmojogohffhaaa.Pnt
