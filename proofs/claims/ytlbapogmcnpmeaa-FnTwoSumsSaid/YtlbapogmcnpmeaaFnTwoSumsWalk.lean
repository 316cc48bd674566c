/- The walk of FnTwoSums: it returns true. -/
import Derived.Test.YtlbapogmcnpmeaaRows
import Derived.Test.YtlbapogmcnpmeaaAvgX
namespace Go.Proofs.Ytlbapogmcnpmeaa.fnTwoSums
open Go.ChangeShapes Go.WideShapes Go.ChangeAt Go.RowKit Go.Deep Go.Proofs.Ytlbapogmcnpmeaa Go.Proofs.Ytlbapogmcnpmeaa.Flt Go.Proofs.Ytlbapogmcnpmeaa.Mth Go.Proofs.Ytlbapogmcnpmeaa.Sgl Go.Proofs.Ytlbapogmcnpmeaa.Avg Go.Proofs.Ytlbapogmcnpmeaa.Drw
open Ieee (single double)
set_option linter.unusedVariables false
set_option maxHeartbeats 1600000 in
theorem walk (a : Option Addr) (len cap : Nat) (zs : List Int) (w : World) (hr : IsRow .u8 w a len cap zs) :
    Calls Try.prog 15 #[.slice a len cap] w fun x w' => x = .returned (.bool true) ∧ Below w.heap.size w w' := by
  by_cases hl : (len : Int) ≤ 1048576
  · go_enter Try.func15, Try.ntmps15
    go_wp2_with fail
    refine (Drw.big_no _ _ _ _ hl).mono ?_
    rintro e w9 ⟨rfl, hw9⟩
    subst w9
    go_wp2_with fail
    refine (drawList a len cap zs _ hr).mono ?_
    rintro e w1 ⟨r, g, cp, X, k, hr9, hk, hX, rfl, hown, hb1⟩
    obtain ⟨hcp, hcm⟩ := own_cap hown
    have hgood := good_of hX.out (by omega)
    have HL := Lib.hid (lst_of hown hX.out)
    have H1 := Lib.hid hb1
    clear hr hown hb1
    go_wp2_with fail
    refine (impl_sum _ _ _ X _ (by omega) HL.out).mono ?_
    rintro e w2 ⟨rfl, hb2⟩
    have H2 := Lib.hid (And.intro (H1.out.trans (hb2.mono H1.out.size)) (HL.out.keep hb2))
    clear hb2
    rw [hgood]
    go_wp2_with fail
    refine (impl_pair _ _ _ X _ hcp (by omega) hcm H2.out.2).mono ?_
    rintro e w3 ⟨rfl, hb3⟩
    have H3 := Lib.hid (And.intro (H2.out.1.trans (hb3.mono H2.out.1.size)) (H2.out.2.keep hb3))
    clear hb3
    rw [hgood]
    clear hgood
    obtain ⟨d, p, d', e1, e2, e3, e4, e5⟩ := two_leq hX.out (by omega)
    have k1 := fun w => run_float_arith (P := Try.prog) w .sub 23 .f64 _ _ _ e1
    have k2 := fun w => run_float_arith (P := Try.prog) w .sub 23 .f64 _ _ _ e4
    have k3 := fun w => run_float_arith (P := Try.prog) w .mul 23 .f64 _ _ _ e2
    obtain ⟨s1, hs1⟩ : ∃ s, sumN r X = s := ⟨_, rfl⟩
    obtain ⟨s2, hs2⟩ : ∃ s, pairN r X = s := ⟨_, rfl⟩
    rw [hs1, hs2] at k1 k2
    rw [hs1, hs2]
    obtain ⟨M, hM⟩ : ∃ M, mosF 0 (els r X) = M := ⟨_, rfl⟩
    rw [hM] at k3
    have HM := Lib.hid hM
    have K := Lib.hid (And.intro k1 (And.intro k2 (And.intro k3 (And.intro e3 e5))))
    clear k1 k2 k3 e1 e2 e3 e4 e5 hs1 hs2 hM
    go_wp2_with fail
    go_loopw [9, 10] (fun s i wr => ∃ k : Nat, i = .int .i64 k ∧ s = .float .f64 (mosF 0 (els k X)) ∧ k ≤ r ∧ wr = w3)
      (fun _ i _ => r - (intOf i).toNat)
    case atStart => exact ⟨0, rfl, rfl, Nat.zero_le _, by first | rfl | trivial⟩
    case round =>
      obtain ⟨j, rfl, rfl, hj, hwr⟩ := hrel
      subst hwr
      by_cases hjr : j < r
      · obtain ⟨b, off, ha, hlt, hc⟩ := LstF.cells H3.out.2 (by omega)
        cases ha
        have a0 := hc j hjr
        rw [Nat.zero_add] at a0
        have hjr' : (j : Int) < r := by omega
        have hm := mos_at (by omega) hjr hX.out
        have hlt0 := lt_zero (hX.out j hjr).2
        have kw := run_widF (hX.out j hjr).2
        clear hc
        generalize mosF 0 (els j X) = s0 at *
        obtain ⟨s9, hs9⟩ : ∃ s, mosF 0 (els (j + 1) X) = s := ⟨_, rfl⟩
        rw [hs9] at hm
        have Hs9 := Lib.hid hs9
        clear hs9
        unfold ltB at hlt0
        by_cases hn : sv single (X j) < 0
        · rw [decide_eq_true hn] at hlt0
          rw [if_pos hn] at hm
          have k1 := fun w => run_float_arith (P := Try.prog) w .sub 23 .f64 _ _ _ hm
          clear hm hn
          go_wp2_with fail
          go_roundw
          case rel => exact ⟨j + 1, by go_num, by rw [Hs9.out], by omega, by first | rfl | trivial⟩
          case measure => simp [intOf]; omega
        · rw [decide_eq_false hn] at hlt0
          rw [if_neg hn] at hm
          have k1 := fun w => run_float_arith (P := Try.prog) w .add 23 .f64 _ _ _ hm
          clear hm hn
          go_wp2_with fail
          go_roundw
          case rel => exact ⟨j + 1, by go_num, by rw [Hs9.out], by omega, by first | rfl | trivial⟩
          case measure => simp [intOf]; omega
      · obtain rfl : j = r := by omega
        rw [HM.out]
        obtain ⟨k1, k2, k3, e3, e5⟩ := K.out
        go_wp2_with fail
        go_ret
        exact ⟨ret_bool (by first | rfl | (rw [e5]) | simp [e3, e5]), H3.out.1⟩
  · go_enter Try.func15, Try.ntmps15
    go_wp2_with fail
    refine (Drw.big_yes _ _ _ _ (by omega)).mono ?_
    rintro e w' ⟨rfl, rfl⟩
    go_wp2_with fail
    go_ret
    exact ⟨rfl, Below.refl _ _⟩
end Go.Proofs.Ytlbapogmcnpmeaa.fnTwoSums
