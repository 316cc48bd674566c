/- The model's NodeOk and ExprOk of valid expressions; its small functions on complex numbers. -/
import Derived.Test.YtjkjgichneoflaaExpDp
import Derived.Test.YtjkjgichneoflaaExpO
import Derived.Test.YtjkjgichneoflaaMake
namespace Go.Proofs.Ytjkjgichneoflaa.Ex
open Go.ChangeShapes Go.WideShapes Go.ChangeAt Go.RowKit Go.Proofs.Ytjkjgichneoflaa Go.Proofs.Ytjkjgichneoflaa.Flt Go.Proofs.Ytjkjgichneoflaa.Mth Go.Proofs.Ytjkjgichneoflaa.Cpx
open Ieee (single double)
set_option linter.unusedVariables false
theorem fineS_any (x : Nat) (w : World) :
    Calls Try.prog 55 #[.float .f64 x] w fun e w' => e = .returned (.bool (isFinD x)) ∧ ∃ n, w' = w.drewN n := by
  cases h : isFinD x
  · obtain ⟨r, n, w1, h1, k⟩ := run_float_any (P := Try.prog) .sub hSub 37 .f64 x x w
    have hn : isNaN Ieee.double r = true := by
      rw [sub_nofin h] at h1
      rcases h1 with h1 | h1
      · cases h1
      · exact h1.2
    have ho := eq64 r 0
    rw [eqW_nan _ (by rw [hn]; rfl)] at ho
    clear h h1 hn
    go_enter Try.func55, Try.ntmps55
    go_wp2_with fail
    go_ret
    exact ⟨rfl, n, rfl⟩
  · have k := fun w => run_float_arith (P := Try.prog) w .sub 37 .f64 _ _ _ (sub_self h)
    have ho : (FloatKind.f64.format.order 0 0 == some .eq) = true := by decide
    clear h
    go_enter Try.func55, Try.ntmps55
    go_wp2_with fail
    go_ret
    exact ⟨rfl, 0, rfl⟩
theorem finS_any (x y : Nat) (w : World) :
    Calls Try.prog 31 #[.complex .f64 x y] w fun e w' => e = .returned (.bool (isFinD x && isFinD y)) ∧ ∃ n, w' = w.drewN n := by
  cases h1 : isFinD x
  · go_enter Try.func31, Try.ntmps31
    go_wp2_with (go_at_call 55; (with_reducible refine (fineS_any x _).mono ?_); rintro e w' ⟨rfl, n, rfl⟩; rw [h1])
    go_ret
    exact ⟨rfl, _, rfl⟩
  · go_enter Try.func31, Try.ntmps31
    go_wp2_with fail
    refine (fineS_any x _).mono ?_
    rintro e w' ⟨rfl, n, rfl⟩
    rw [h1]
    go_wp2_with fail
    refine (fineS_any y _).mono ?_
    rintro e w' ⟨rfl, m, rfl⟩
    go_wp2_with fail
    go_ret
    exact ⟨rfl, _, rfl⟩
theorem conjS_any (x y : Nat) (w : World) :
    Calls Try.prog 28 #[.complex .f64 x y] w fun e w' => e = .returned (.complex .f64 x (ng y)) ∧ w' = w := by
  go_enter Try.func28, Try.ntmps28
  go_wp2_with fail
  go_ret
  exact ⟨rfl, rfl⟩
theorem truth_any (b : Bool) (w : World) :
    Calls Try.prog 30 #[.bool b] w fun e w' => e = .returned (.complex .f64 (if b = true then one64 else 0) 0) ∧ w' = w := by
  cases b
  all_goals
    go_enter Try.func30, Try.ntmps30
    go_wp2_with fail
    go_ret
    exact ⟨rfl, rfl⟩
theorem timesS_any (a b c d : Nat) (w : World) : Calls Try.prog 29 #[.complex .f64 a b, .complex .f64 c d] w fun e w' =>
    ∃ u v, (u < 18446744073709551616 ∧ v < 18446744073709551616) ∧ (can .f64 u = fo .sub .f64 (fo .mul .f64 (can .f64 a) (can .f64 c)) (fo .mul .f64 (can .f64 b) (can .f64 d)) ∧ can .f64 v = fo .add .f64 (fo .mul .f64 (can .f64 a) (can .f64 d)) (fo .mul .f64 (can .f64 b) (can .f64 c))) ∧ e = .returned (.complex .f64 u v) ∧ ∃ n, w' = w.drewN n := by
  obtain ⟨r1, n1, w1, c1, k1⟩ := run_fo (P := Try.prog) .mul hMul 37 .f64 a c w
  obtain ⟨r2, n2, w2, c2, k2⟩ := run_fo (P := Try.prog) .mul hMul 37 .f64 b d (w.drewN n1)
  obtain ⟨r3, n3, w3, c3, k3⟩ := run_fo (P := Try.prog) .mul hMul 37 .f64 a d (w.drewN (n1 + n2))
  obtain ⟨r4, n4, w4, c4, k4⟩ := run_fo (P := Try.prog) .mul hMul 37 .f64 b c (w.drewN (n1 + n2 + n3))
  obtain ⟨r5, n5, w5, c5, k5⟩ := run_fo (P := Try.prog) .sub hSub 37 .f64 r1 r2 (w.drewN (n1 + n2 + n3 + n4))
  obtain ⟨r6, n6, w6, c6, k6⟩ := run_fo (P := Try.prog) .add hAdd 37 .f64 r3 r4 (w.drewN (n1 + n2 + n3 + n4 + n5))
  have H := Lib.hid (show can .f64 r5 = fo .sub .f64 (fo .mul .f64 (can .f64 a) (can .f64 c)) (fo .mul .f64 (can .f64 b) (can .f64 d)) ∧ can .f64 r6 = fo .add .f64 (fo .mul .f64 (can .f64 a) (can .f64 d)) (fo .mul .f64 (can .f64 b) (can .f64 c)) by rw [c5, c1, c2, c6, c3, c4]; exact ⟨rfl, rfl⟩)
  clear c1 c2 c3 c4 c5 c6
  go_enter Try.func29, Try.ntmps29
  go_wp2_with fail
  go_ret
  exact ⟨r5, r6, ⟨lt_double w5, lt_double w6⟩, H.out, rfl, (n1 + n2 + n3 + n4 + n5 + n6), rfl⟩
theorem takes_any (k : Int) (h : 1 ≤ k ∧ k ≤ 12) (w : World) : Calls Try.prog 27 #[.int .i64 k] w fun e w' => e = .returned (.int .i64 (ar k : Nat)) ∧ w' = w := by
  by_cases h2 : k ≤ 2
  · rw [ar_leaf h2]
    go_enter Try.func27, Try.ntmps27
    go_wp2_with fail
    go_ret
    exact ⟨rfl, rfl⟩
  · by_cases h7 : k ≤ 7
    · rw [ar_un (by omega)]
      go_enter Try.func27, Try.ntmps27
      go_wp2_with fail
      go_ret
      exact ⟨rfl, rfl⟩
    · rw [ar_bin (by omega)]
      go_enter Try.func27, Try.ntmps27
      go_wp2_with fail
      go_ret
      exact ⟨rfl, rfl⟩
/-! valid nodes -/
theorem pos_wid {f : Nat} (hf : f < 2139095040) (h0 : f ≠ 0) : (FloatKind.f64.format.order (widen f) 0 == some .gt) = true := by
  obtain ⟨h1, h2, h3⟩ := low_sgl hf
  have hn : isNaN double 0 = false := by decide
  have hz : sv double 0 = 0 := (sv_eq_zero _).2 (by decide)
  rw [gt64]
  unfold ltW
  rw [isNaN_widen, hn, hz]
  simp only [Bool.not_false, Bool.true_and]
  refine decide_eq_true ?_
  have hs : sgn double (widen f) = false := by rw [sgn_widen, h3]
  have hne : sv double (widen f) ≠ 0 := fun e => by
    rw [sv_widen (by rw [h2]; exact hf)] at e
    have e2 : sv single f = 0 := by
      rcases Int.mul_eq_zero.1 e with e | e
      · exact e
      · exact absurd e (Int.ne_of_gt (Int.pow_pos (by decide)))
    have := (sv_eq_zero single).1 e2
    rw [h2] at this
    exact h0 this
  have hge : 0 ≤ sv double (widen f) := by unfold sv; rw [hs]; exact Int.natCast_nonneg _
  omega
theorem partS_any (f : Nat) (hf : f < 2139095040) (w : World) : Calls Try.prog 69 #[.float .f64 (widen f)] w fun e w' => e = .returned (.bool true) ∧ ∃ n, w' = w.drewN n := by
  obtain ⟨f1, f2, f3⟩ := wid_f hf
  have c1 := fun W => fineS_any (widen f) W
  have c2 := fun W => SamF.l01Same_any 0 0 W (by decide) (by decide)
  have k1 := fun W => run_nar' f3 W
  have k2 := fun W => run_widen (P := Try.prog) 87 37 f (by rw [Try.underlying87]; rfl) Try.underlying37 (low_sgl hf).1 W
  have ke : (FloatKind.f64.format.order (widen f) (widen f) == some .eq) = true := by rw [eq64, eqW_self, isNaN_widen]; rfl
  rw [f1] at c1
  rw [show sameW double 0 0 = true by decide] at c2
  by_cases h0 : f = 0
  · subst h0
    rw [wid0] at c1 k1 k2 ke ⊢
    have kg : (FloatKind.f64.format.order 0 0 == some .gt) = false := by decide
    clear f1 f2 f3
    go_enter Try.func69, Try.ntmps69
    go_wp2_with fail
    refine (c1 _).mono ?_
    rintro e w' ⟨rfl, n, rfl⟩
    go_wp2_with fail
    refine (c2 _).mono ?_
    rintro e w' ⟨rfl, rfl⟩
    go_wp2_with fail
    go_ret
    exact ⟨rfl, _, rfl⟩
  · have kg := pos_wid hf h0
    generalize widen f = x at *
    clear f1 f2 f3 c2
    go_enter Try.func69, Try.ntmps69
    go_wp2_with fail
    refine (c1 _).mono ?_
    rintro e w' ⟨rfl, n, rfl⟩
    go_wp2_with fail
    go_ret
    exact ⟨rfl, _, rfl⟩
theorem sameCS_any (w : World) : Calls Try.prog 68 #[.complex .f64 0 0, .complex .f64 0 0] w fun e w' => e = .returned (.bool true) ∧ w' = w := by
  have c1 := fun W => SamF.l01Same_any 0 0 W (by decide) (by decide)
  rw [show sameW double 0 0 = true by decide] at c1
  go_enter Try.func68, Try.ntmps68
  go_wp2_with fail
  refine (c1 _).mono ?_
  rintro e w' ⟨rfl, rfl⟩
  go_wp2_with fail
  refine (c1 _).mono ?_
  rintro e w' ⟨rfl, rfl⟩
  go_wp2_with fail
  go_ret
  exact ⟨rfl, rfl⟩
set_option maxRecDepth 20000 in
set_option maxHeartbeats 3200000 in
theorem nodeS_num (x y : Nat) (h : NV x y) (w : World) : Calls Try.prog 54 #[.agg #[.int .i64 1, .int .i64 0, .complex .f64 x y]] w fun e w' => e = .returned (.bool true) ∧ Below w.heap.size w w' := by
  obtain ⟨f, g, ⟨hf, hg, hfg⟩, rfl, rfl⟩ := h.two
  have cI := fun W => Mks.in_yes 1 1 12 W (by omega) (by omega)
  have cJ := fun W => Mks.in_yes 0 0 9 W (by omega) (by omega)
  have c1 := fun W => partS_any f hf W
  have c2 := fun W => partS_any g hg W
  have hz : (FloatKind.f64.format.order (widen f) 0 == some .eq) = true ∨ (FloatKind.f64.format.order (widen f) 0 == some .eq) = false ∧ (FloatKind.f64.format.order (widen g) 0 == some .eq) = true := by
    rcases hfg with rfl | rfl
    · left; rw [wid0]; decide
    · rw [wid0]
      cases e : (FloatKind.f64.format.order (widen f) 0 == some .eq)
      · right; exact ⟨rfl, by decide⟩
      · exact .inl rfl
  clear h hf hg hfg
  generalize widen f = x at *
  generalize widen g = y at *
  rcases hz with h1 | ⟨h1, h2⟩
  all_goals
    go_enter Try.func54, Try.ntmps54
    go_wp2_with fail
    refine (cI _).mono ?_
    rintro e w' ⟨rfl, rfl⟩
    go_wp2_with fail
    refine (cJ _).mono ?_
    rintro e w' ⟨rfl, rfl⟩
    go_wp2_with fail
    refine (c1 _).mono ?_
    rintro e w' ⟨rfl, n, rfl⟩
    go_wp2_with fail
    refine (c2 _).mono ?_
    rintro e w' ⟨rfl, m, rfl⟩
    go_wp2_with fail
    go_ret
    exact ⟨rfl, below_drewN ((Below.refl _ _).alloc (Nat.le_refl _) _) (n + m)⟩
set_option maxRecDepth 20000 in
set_option maxHeartbeats 3200000 in
theorem nodeS_slot (s : Int) (h0 : 0 ≤ s) (h9 : s ≤ 9) (w : World) : Calls Try.prog 54 #[.agg #[.int .i64 2, .int .i64 s, .complex .f64 0 0]] w fun e w' => e = .returned (.bool true) ∧ Below w.heap.size w w' := by
  have cI := fun W => Mks.in_yes 2 1 12 W (by omega) (by omega)
  have cJ := fun W => Mks.in_yes s 0 9 W (by omega) (by omega)
  go_enter Try.func54, Try.ntmps54
  go_wp2_with fail
  refine (cI _).mono ?_
  rintro e w' ⟨rfl, rfl⟩
  go_wp2_with fail
  refine (cJ _).mono ?_
  rintro e w' ⟨rfl, rfl⟩
  go_wp2_with fail
  refine (sameCS_any _).mono ?_
  rintro e w' ⟨rfl, rfl⟩
  go_wp2_with fail
  go_ret
  exact ⟨rfl, by go_grown⟩
set_option maxRecDepth 20000 in
set_option maxHeartbeats 3200000 in
theorem nodeS_op (k : Int) (hk : 3 ≤ k ∧ k ≤ 12) (w : World) : Calls Try.prog 54 #[.agg #[.int .i64 k, .int .i64 0, .complex .f64 0 0]] w fun e w' => e = .returned (.bool true) ∧ Below w.heap.size w w' := by
  have cI := fun W => Mks.in_yes k 1 12 W (by omega) (by omega)
  have cJ := fun W => Mks.in_yes 0 0 9 W (by omega) (by omega)
  have b1 : (k == 1) = false := beq_eq_false_iff_ne.2 (by omega)
  have b2 : (k == 2) = false := beq_eq_false_iff_ne.2 (by omega)
  go_enter Try.func54, Try.ntmps54
  go_wp2_with fail
  refine (cI _).mono ?_
  rintro e w' ⟨rfl, rfl⟩
  go_wp2_with fail
  refine (cJ _).mono ?_
  rintro e w' ⟨rfl, rfl⟩
  go_wp2_with fail
  refine (sameCS_any _).mono ?_
  rintro e w' ⟨rfl, rfl⟩
  go_wp2_with fail
  go_ret
  exact ⟨rfl, by go_grown⟩
theorem nodeS_any (n : Nd) (hn : n.ok) (w : World) : Calls Try.prog 54 #[.agg #[.int .i64 n.k, .int .i64 n.s, .complex .f64 n.x n.y]] w fun e w' => e = .returned (.bool true) ∧ Below w.heap.size w w' := by
  obtain ⟨k, s, x, y⟩ := n
  rcases hn with h | h | h
  · obtain rfl : k = 1 := h.1
    obtain rfl : s = 0 := h.2.1
    exact nodeS_num x y h.2.2 w
  · obtain rfl : k = 2 := h.1
    obtain rfl : x = 0 := h.2.2.1
    obtain rfl : y = 0 := h.2.2.2
    exact nodeS_slot s h.2.1.1 h.2.1.2 w
  · obtain rfl : s = 0 := h.2.1
    obtain rfl : x = 0 := h.2.2.1
    obtain rfl : y = 0 := h.2.2.2
    exact nodeS_op k h.1 w
theorem Nd.ok.kind {n : Nd} (h : n.ok) : 1 ≤ n.k ∧ n.k ≤ 12 := by
  rcases h with h | h | h
  · have := h.1; omega
  · have := h.1; omega
  · have := h.1; omega
theorem wt_pos {xs : List Nd} (h : wt 0 xs = some 1) : 1 ≤ xs.length := by
  cases xs with
  | nil => cases h
  | cons n r => simp
set_option maxRecDepth 20000 in
set_option maxHeartbeats 3200000 in
theorem exprS_any (g off cap : Nat) (xs : List Nd) (w : World) (hv : Valid xs) (h : CellsN w g off xs) (hg : g < w.heap.size) :
    Calls Try.prog 26 #[.slice (some ⟨g, off, none⟩) xs.length cap] w fun e w' => e = .returned (.bool true) ∧ Below w.heap.size w w' := by
  have H := Lib.hid (And.intro hv h)
  have hlen := hv.len
  have hpos := wt_pos hv.wt
  clear hv h
  obtain ⟨n, hn⟩ : ∃ n, xs.length = n := ⟨_, rfl⟩
  rw [hn] at hlen hpos ⊢
  have cI := fun W => Mks.in_yes (n : Int) 1 60 W (by omega) (by omega)
  have Hst := Lib.hid (Below.refl w.heap.size w)
  go_enter Try.func26, Try.ntmps26
  go_wp2_with fail
  refine (cI _).mono ?_
  rintro e w' ⟨rfl, hw9⟩
  subst w'
  go_wp2_with fail
  go_loopw [3, 4] (fun vh vi wr => ∃ i h : Nat, vh = .int .i64 (h : Int) ∧ vi = .int .i64 (i : Int) ∧ i ≤ n ∧ h ≤ i ∧ Below w.heap.size w wr ∧ Hid (wt h (xs.drop i) = some 1))
    (fun _ vi _ => n - (intOf vi).toNat)
  case atStart => exact ⟨0, 0, rfl, rfl, by omega, by omega, Hst.out, Lib.hid H.out.1.wt⟩
  case round =>
    obtain ⟨i, h, rfl, rfl, hi, hhi, hbel, Hw⟩ := hrel
    have hsz := hbel.size
    by_cases hil : i < n
    · have hil' : (i : Int) < (n : Int) := by omega
      obtain ⟨nd, hs⟩ : ∃ nd, xs[i]? = some nd := ⟨_, List.getElem?_eq_getElem (by rw [hn]; exact hil)⟩
      have hok := H.out.1.ok nd (List.mem_of_getElem? hs)
      have hcell := (H.out.2.keep hg hbel)
      obtain ⟨a0, a1, a2⟩ := hcell i nd hs
      obtain ⟨hah, hwt⟩ := wt_cons (by rw [← drop_cons hs]; exact Hw.out)
      obtain ⟨k0, s0, x0, y0⟩ := nd
      have cN := fun W => nodeS_any ⟨k0, s0, x0, y0⟩ hok W
      have cT := fun W => takes_any k0 hok.kind W
      have hah : ar k0 ≤ h := hah
      have hwt : wt (h - ar k0 + 1) (xs.drop (i + 1)) = some 1 := hwt
      generalize ar k0 = a at *
      obtain ⟨h2, hh2⟩ : ∃ h2, h - a + 1 = h2 := ⟨_, rfl⟩
      rw [hh2] at hwt
      have Hw2 := Lib.hid hwt
      have e1 : ¬ (h : Int) < (a : Int) := by omega
      have e2 : (h : Int) - (a : Int) + 1 = (h2 : Int) := by omega
      have e3 : IntKind.i64.wrap (IntKind.i64.wrap ((h : Int) - (a : Int)) + 1) = (h2 : Int) := by rw [IntKind.wrap_i64, IntKind.wrap_i64]; omega
      have e4 : IntKind.i64.wrap ((h : Int) - (a : Int)) = (h : Int) - (a : Int) := by rw [IntKind.wrap_i64]; omega
      have Hbel := Lib.hid hbel
      have hgl : g < wr.heap.size := by omega
      clear hs hok hwt hcell hbel
      go_wp2_with fail
      refine (cN _).mono ?_
      rintro e w1 ⟨rfl, hb⟩
      have Hb1 := Lib.hid (Hbel.out.trans (hb.mono hsz))
      have hs1 := Hb1.out.size
      have d0 := (hb.cell (p := ⟨g, off + i * 3, none⟩) hgl).trans a0
      clear hb a0 a1 a2
      go_wp2_with fail
      refine (cT _).mono ?_
      rintro e w2 ⟨rfl, hw2⟩
      subst w2
      go_wp2_with fail
      refine (cT _).mono ?_
      rintro e w2 ⟨rfl, hw2⟩
      subst w2
      go_wp2_with fail
      go_roundw
      case rel => exact ⟨i + 1, h2, by go_num, by go_num, by omega, by omega, Hb1.out, Lib.hid Hw2.out⟩
      case measure => simp [intOf]; omega
    · obtain rfl : i = n := by omega
      have hil' : ¬ (i : Int) < (i : Int) := by omega
      have h1 : h = 1 := by
        have := Hw.out
        rw [List.drop_eq_nil_of_le (by omega)] at this
        exact Option.some.inj this
      subst h1
      have Hbel := Lib.hid hbel
      clear hbel
      go_wp2_with fail
      go_ret
      exact ⟨rfl, Hbel.out⟩
end Go.Proofs.Ytjkjgichneoflaa.Ex
