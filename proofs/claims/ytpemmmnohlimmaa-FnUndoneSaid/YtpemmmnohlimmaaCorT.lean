/- The program's turn of a complex number, and what its corrections give for a turn. -/
import Derived.Test.YtpemmmnohlimmaaCor
namespace Go.Proofs.Ytpemmmnohlimmaa.Stp
open Go.ChangeShapes Go.WideShapes Go.ChangeAt Go.RowKit Go.Proofs.Ytpemmmnohlimmaa Go.Proofs.Ytpemmmnohlimmaa.Flt Go.Proofs.Ytpemmmnohlimmaa.Mth Go.Proofs.Ytpemmmnohlimmaa.Cpx Go.Proofs.Ytpemmmnohlimmaa.Trn
set_option linter.unusedVariables false
def four (x y : Nat) : Array Value := #[.complex .f64 x y, .complex .f64 (Op.negFloat .f64 y) x, .complex .f64 (Op.negFloat .f64 x) (Op.negFloat .f64 y), .complex .f64 y (Op.negFloat .f64 x)]
theorem four_any (x y : Nat) (w : World) :
    Calls Try.prog 51 #[.complex .f64 x y] w fun e w' => e = .returned (.agg (four x y)) ∧ w' = w.alloc (.cells (four x y) 82) := by
  go_enter Try.func51, Try.ntmps51
  go_wp2_with fail
  go_returns
  exact ⟨rfl, rfl⟩
theorem idx0 (a b c d : Value) (w : World) : (Instr.index 82 (.agg #[a, b, c, d]) (.int .i64 0)).run Try.prog w = .ok a w := by kernel_rfl
theorem idx1 (a b c d : Value) (w : World) : (Instr.index 82 (.agg #[a, b, c, d]) (.int .i64 1)).run Try.prog w = .ok b w := by kernel_rfl
theorem idx2 (a b c d : Value) (w : World) : (Instr.index 82 (.agg #[a, b, c, d]) (.int .i64 2)).run Try.prog w = .ok c w := by kernel_rfl
theorem idx3 (a b c d : Value) (w : World) : (Instr.index 82 (.agg #[a, b, c, d]) (.int .i64 3)).run Try.prog w = .ok d w := by kernel_rfl
theorem pw_facts {p : Int} (h1 : -60 ≤ p) (h2 : p ≤ 60) : ∃ E : Nat, (E : Int) = p + 1023 ∧ 1 ≤ E ∧ E ≤ 2046 ∧ pw p = E * 4503599627370496 := ⟨(p + 1023).toNat, by omega, by omega, by omega, rfl⟩
def TurnOut (q p : Int) (x y : Nat) (w : World) (e : Ending) (w' : World) : Prop :=
  ∃ a b, (a < 18446744073709551616 ∧ b < 18446744073709551616) ∧ (can .f64 a = fo .mul .f64 (can .f64 (tq q x y).1) (can .f64 (pw p)) ∧ can .f64 b = fo .mul .f64 (can .f64 (tq q x y).2) (can .f64 (pw p))) ∧ e = .returned (.complex .f64 a b) ∧ Below w.heap.size w w'
theorem turned0 (p : Int) (x y : Nat) (w : World) (h1 : -60 ≤ p) (h2 : p ≤ 60) :
    Calls Try.prog 47 #[.agg #[.int .i64 0, .int .i64 p], .complex .f64 x y] w (TurnOut 0 p x y w) := by
  have i0 := idx0
  obtain ⟨E, e1, e2, e3, e4⟩ := pw_facts h1 h2
  unfold TurnOut
  rw [show tq 0 x y = (x, y) from rfl]
  obtain ⟨P, hP⟩ : ∃ P, pw p = P := ⟨_, rfl⟩
  rw [hP] at e4 ⊢
  clear h1 h2 hP
  go_enter Try.func47, Try.ntmps47
  go_wp2_with fail
  go_region_with (go_at_call 51; refine (four_any _ _ _).mono ?_; unfold four; rintro e w' ⟨rfl, rfl⟩)
  all_goals
    go_wp2_with fail
    refine (Ldexp_any p E P _ e1 e2 e3 e4).mono ?_
    rintro e w1 ⟨rfl, hw⟩
    have Hb := Lib.hid (show Below w.heap.size w w1 by rw [hw]; go_grown)
    clear hw e1 e2 e3 e4
    obtain ⟨r, n, wr, hr, kr⟩ := run_fo (P := Try.prog) .mul hMul 37 .f64 x P w1
    obtain ⟨s, m, ws, hs', ks⟩ := run_fo (P := Try.prog) .mul hMul 37 .f64 y P (w1.drewN n)
    have Hr := Lib.hid hr
    have Hs := Lib.hid hs'
    clear hr hs'
    go_wp2_with fail
    go_ret
    exact ⟨r, s, ⟨lt_double wr, lt_double ws⟩, ⟨Hr.out, Hs.out⟩, rfl, below_drewN Hb.out _⟩
theorem turned1 (p : Int) (x y : Nat) (w : World) (h1 : -60 ≤ p) (h2 : p ≤ 60) :
    Calls Try.prog 47 #[.agg #[.int .i64 1, .int .i64 p], .complex .f64 x y] w (TurnOut 1 p x y w) := by
  have i0 := idx1
  obtain ⟨E, e1, e2, e3, e4⟩ := pw_facts h1 h2
  unfold TurnOut
  rw [show tq 1 x y = ((Op.negFloat .f64 y), x) from rfl]
  obtain ⟨P, hP⟩ : ∃ P, pw p = P := ⟨_, rfl⟩
  rw [hP] at e4 ⊢
  clear h1 h2 hP
  go_enter Try.func47, Try.ntmps47
  go_wp2_with fail
  go_region_with (go_at_call 51; refine (four_any _ _ _).mono ?_; unfold four; rintro e w' ⟨rfl, rfl⟩)
  all_goals
    go_wp2_with fail
    refine (Ldexp_any p E P _ e1 e2 e3 e4).mono ?_
    rintro e w1 ⟨rfl, hw⟩
    have Hb := Lib.hid (show Below w.heap.size w w1 by rw [hw]; go_grown)
    clear hw e1 e2 e3 e4
    obtain ⟨r, n, wr, hr, kr⟩ := run_fo (P := Try.prog) .mul hMul 37 .f64 (Op.negFloat .f64 y) P w1
    obtain ⟨s, m, ws, hs', ks⟩ := run_fo (P := Try.prog) .mul hMul 37 .f64 x P (w1.drewN n)
    have Hr := Lib.hid hr
    have Hs := Lib.hid hs'
    clear hr hs'
    go_wp2_with fail
    go_ret
    exact ⟨r, s, ⟨lt_double wr, lt_double ws⟩, ⟨Hr.out, Hs.out⟩, rfl, below_drewN Hb.out _⟩
theorem turned2 (p : Int) (x y : Nat) (w : World) (h1 : -60 ≤ p) (h2 : p ≤ 60) :
    Calls Try.prog 47 #[.agg #[.int .i64 2, .int .i64 p], .complex .f64 x y] w (TurnOut 2 p x y w) := by
  have i0 := idx2
  obtain ⟨E, e1, e2, e3, e4⟩ := pw_facts h1 h2
  unfold TurnOut
  rw [show tq 2 x y = ((Op.negFloat .f64 x), (Op.negFloat .f64 y)) from rfl]
  obtain ⟨P, hP⟩ : ∃ P, pw p = P := ⟨_, rfl⟩
  rw [hP] at e4 ⊢
  clear h1 h2 hP
  go_enter Try.func47, Try.ntmps47
  go_wp2_with fail
  go_region_with (go_at_call 51; refine (four_any _ _ _).mono ?_; unfold four; rintro e w' ⟨rfl, rfl⟩)
  all_goals
    go_wp2_with fail
    refine (Ldexp_any p E P _ e1 e2 e3 e4).mono ?_
    rintro e w1 ⟨rfl, hw⟩
    have Hb := Lib.hid (show Below w.heap.size w w1 by rw [hw]; go_grown)
    clear hw e1 e2 e3 e4
    obtain ⟨r, n, wr, hr, kr⟩ := run_fo (P := Try.prog) .mul hMul 37 .f64 (Op.negFloat .f64 x) P w1
    obtain ⟨s, m, ws, hs', ks⟩ := run_fo (P := Try.prog) .mul hMul 37 .f64 (Op.negFloat .f64 y) P (w1.drewN n)
    have Hr := Lib.hid hr
    have Hs := Lib.hid hs'
    clear hr hs'
    go_wp2_with fail
    go_ret
    exact ⟨r, s, ⟨lt_double wr, lt_double ws⟩, ⟨Hr.out, Hs.out⟩, rfl, below_drewN Hb.out _⟩
theorem turned3 (p : Int) (x y : Nat) (w : World) (h1 : -60 ≤ p) (h2 : p ≤ 60) :
    Calls Try.prog 47 #[.agg #[.int .i64 3, .int .i64 p], .complex .f64 x y] w (TurnOut 3 p x y w) := by
  have i0 := idx3
  obtain ⟨E, e1, e2, e3, e4⟩ := pw_facts h1 h2
  unfold TurnOut
  rw [show tq 3 x y = (y, (Op.negFloat .f64 x)) from rfl]
  obtain ⟨P, hP⟩ : ∃ P, pw p = P := ⟨_, rfl⟩
  rw [hP] at e4 ⊢
  clear h1 h2 hP
  go_enter Try.func47, Try.ntmps47
  go_wp2_with fail
  go_region_with (go_at_call 51; refine (four_any _ _ _).mono ?_; unfold four; rintro e w' ⟨rfl, rfl⟩)
  all_goals
    go_wp2_with fail
    refine (Ldexp_any p E P _ e1 e2 e3 e4).mono ?_
    rintro e w1 ⟨rfl, hw⟩
    have Hb := Lib.hid (show Below w.heap.size w w1 by rw [hw]; go_grown)
    clear hw e1 e2 e3 e4
    obtain ⟨r, n, wr, hr, kr⟩ := run_fo (P := Try.prog) .mul hMul 37 .f64 y P w1
    obtain ⟨s, m, ws, hs', ks⟩ := run_fo (P := Try.prog) .mul hMul 37 .f64 (Op.negFloat .f64 x) P (w1.drewN n)
    have Hr := Lib.hid hr
    have Hs := Lib.hid hs'
    clear hr hs'
    go_wp2_with fail
    go_ret
    exact ⟨r, s, ⟨lt_double wr, lt_double ws⟩, ⟨Hr.out, Hs.out⟩, rfl, below_drewN Hb.out _⟩
theorem turned_any (q p : Int) (x y : Nat) (w : World) (ok : okT q p = true) :
    Calls Try.prog 47 #[.agg #[.int .i64 q, .int .i64 p], .complex .f64 x y] w (TurnOut q p x y w) := by
  obtain ⟨⟨a1, a2⟩, a3, a4⟩ := okT_iff.1 ok
  obtain rfl | rfl | rfl | rfl : q = 0 ∨ q = 1 ∨ q = 2 ∨ q = 3 := by omega
  · exact turned0 p x y w a3 a4
  · exact turned1 p x y w a3 a4
  · exact turned2 p x y w a3 a4
  · exact turned3 p x y w a3 a4
theorem act7 (s : Stp) (x y : Nat) (w : World) (hk : s.k = 7) (ok : s.ok = true) : Calls Try.prog 46 #[.agg s.c, .complex .f64 x y] w (ActOut s x y w) := by
  have ho : stepO s x y = (fo .mul .f64 (can .f64 (tq s.q x y).1) (can .f64 (pw s.p)), fo .mul .f64 (can .f64 (tq s.q x y).2) (can .f64 (pw s.p))) := by unfold stepO; rw [if_neg (by omega), if_neg (by omega), if_neg (by omega), if_neg (by omega), if_neg (by omega), if_neg (by omega)]
  unfold Stp.ok at ok
  rw [if_neg (by omega), if_neg (by omega), if_neg (by omega), if_pos hk, Bool.and_eq_true] at ok
  have Ho := Lib.hid ok.2
  unfold ActOut
  rw [ho]
  unfold Stp.c
  clear hk ho ok
  go_enter Try.func46, Try.ntmps46
  go_wp2_with fail
  refine (turned_any _ _ _ _ _ Ho.out).mono ?_
  rintro e w1 ⟨a, b, wf, hc, rfl, hb⟩
  have Hb := Lib.hid (show Below w.heap.size w w1 from below_on hb (by go_grown) (by simp))
  have Hc := Lib.hid hc
  clear hc hb
  go_wp2_with fail
  go_ret
  exact ⟨a, b, wf, Hc.out, rfl, Hb.out⟩
end Go.Proofs.Ytpemmmnohlimmaa.Stp
