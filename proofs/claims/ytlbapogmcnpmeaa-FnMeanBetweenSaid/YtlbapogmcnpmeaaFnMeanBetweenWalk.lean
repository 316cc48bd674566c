/- The walk of FnMeanBetween: it returns true. -/
import Derived.Test.YtlbapogmcnpmeaaRows
import Derived.Test.YtlbapogmcnpmeaaAvgB
import Derived.Test.YtlbapogmcnpmeaaSrtB
namespace Go.Proofs.Ytlbapogmcnpmeaa.fnMeanBetween
open Go.ChangeShapes Go.WideShapes Go.ChangeAt Go.RowKit Go.Deep Go.Proofs.Ytlbapogmcnpmeaa Go.Proofs.Ytlbapogmcnpmeaa.Flt Go.Proofs.Ytlbapogmcnpmeaa.Mth Go.Proofs.Ytlbapogmcnpmeaa.Sgl Go.Proofs.Ytlbapogmcnpmeaa.Avg Go.Proofs.Ytlbapogmcnpmeaa.Drw
open Ieee (single double)
set_option linter.unusedVariables false
set_option linter.unusedSimpArgs false
theorem meanB_eq {n : Nat} {X : Nat → Nat} (h : FineF n X) (hn : n ≤ 64) : meanB n X = decide (1 ≤ n) := by
  unfold meanB; rw [good_of h hn, Bool.true_and]
theorem mvB_eq {n k : Nat} {X : Nat → Nat} (h : FineF n X) (hn : n ≤ 64) (hk : k ≤ n) : mvB n X (k : Int) = decide (1 ≤ k) := by
  unfold mvB
  rw [good_of h hn, Bool.true_and]
  by_cases c : 1 ≤ k
  · rw [decide_eq_true c, decide_eq_true (by omega)]
  · rw [decide_eq_false c, decide_eq_false (by omega)]
set_option maxHeartbeats 6400000 in
theorem walk (a : Option Addr) (len cap : Nat) (zs : List Int) (w : World) (hr : IsRow .u8 w a len cap zs) :
    Calls Try.prog 12 #[.slice a len cap] w fun x w' => x = .returned (.bool true) ∧ Below w.heap.size w w' := by
  by_cases hl : (len : Int) ≤ 1048576
  · go_enter Try.func12, Try.ntmps12
    go_wp2_with fail
    refine (Drw.big_no _ _ _ _ hl).mono ?_
    rintro e w9 ⟨rfl, hw9⟩
    subst w9
    go_wp2_with fail
    refine (drawList a len cap zs _ hr).mono ?_
    rintro e w1 ⟨r, g, cp, X, kk, hr9, hkk, hX, rfl, hown, hb1⟩
    obtain ⟨hcp, hcm⟩ := own_cap hown
    have HL := Lib.hid (lst_of hown hX.out)
    have H1 := Lib.hid hb1
    have hj2 : r ≤ 1048576 := by omega
    have C1 := Lib.hid (fun W (h : LstF W (some ⟨g, 0, none⟩) r X) => impl_mean (some ⟨g, 0, none⟩) r cp X W hj2 h)
    have C2 := Lib.hid (fun W (h : LstF W (some ⟨g, 0, none⟩) r X) => impl_middle (some ⟨g, 0, none⟩) r cp X W hj2 h)
    have C3 := Lib.hid (fun W (h : LstF W (some ⟨g, 0, none⟩) r X) => impl_moving (some ⟨g, 0, none⟩) r cp X (kk : Int) W hj2 hcp h)
    rw [mvB_eq hX.out (by omega) hkk] at C3
    have hmB := meanB_eq hX.out (by omega : r ≤ 64)
    rw [hmB] at C1 C2
    have f1 := meanN_fin r X
    have f2 := midN_fin r X
    have Hmem := Lib.hid (midN_mem r X)
    have Hmean := Lib.hid (fun lo hi => mean_in (lo := lo) (hi := hi) (n := r) hX.out)
    clear hr hown hb1
    obtain ⟨m1, hm1⟩ : ∃ m1, meanN r X = m1 := ⟨_, rfl⟩
    obtain ⟨m2, hm2⟩ : ∃ m2, midN r X = m2 := ⟨_, rfl⟩
    rw [hm1] at C1 f1 Hmean
    rw [hm2] at C2 f2 Hmem
    have F := Lib.hid (And.intro f1 f2)
    have Hm1 := Lib.hid hm1
    clear f1 f2 hm2 hm1
    by_cases h1 : 1 ≤ r
    · rw [decide_eq_true h1] at C1 C2
      rw [hmB, decide_eq_true h1] at Hmem
      have h1' : (0 : Int) < (r : Int) := by omega
      have hx0 : finB (X 0) = true := (hX.out 0 (by omega)).2
      go_wp2_with fail
      refine (C1.out _ HL.out).mono ?_
      rintro e w2 ⟨rfl, hb⟩
      have H2 := Lib.hid (And.intro (H1.out.trans (hb.mono H1.out.size)) (HL.out.keep hb))
      clear hb
      go_wp2_with fail
      refine (C2.out _ H2.out.2).mono ?_
      rintro e w3 ⟨rfl, hb⟩
      have H3 := Lib.hid (And.intro (H2.out.1.trans (hb.mono H2.out.1.size)) (H2.out.2.keep hb))
      clear hb
      obtain ⟨b, off, ha, hlt, hc⟩ := LstF.cells H3.out.2 (by omega)
      cases ha
      have a0 : w3.cell? ⟨g, 0, none⟩ = some (.float .f32 (X 0)) := hc 0 (by omega)
      have Hc := Lib.hid hc
      clear hc
      obtain ⟨x0, hx0'⟩ : ∃ x0, X 0 = x0 := ⟨_, rfl⟩
      rw [hx0'] at a0 hx0
      have Hx0 := Lib.hid hx0
      clear hx0' hx0 hmB
      go_wp2_with fail
      go_loopw [9, 10, 11] (fun lv hv iv wr => ∃ (j lo hi : Nat), iv = .int .i64 (j : Int) ∧ lv = .float .f32 lo ∧ hv = .float .f32 hi ∧ j ≤ r ∧ wr = w3 ∧ Hid (Lies lo hi j X))
        (fun _ _ iv _ => r - (intOf iv).toNat)
      case atStart => exact ⟨0, x0, x0, rfl, rfl, rfl, Nat.zero_le _, by first | rfl | trivial, Lib.hid ⟨Hx0.out, Hx0.out, fun j hj => absurd hj (Nat.not_lt_zero _)⟩⟩
      case round =>
        obtain ⟨j, lo, hi, rfl, rfl, rfl, hj, hwr, HB⟩ := hrel
        subst hwr
        clear a0
        by_cases hjr : j < r
        · have hjr' : (j : Int) < (r : Int) := by omega
          have aj := Hc.out j hjr
          rw [Nat.zero_add] at aj
          have fj := (hX.out j hjr).2
          obtain ⟨x, hx⟩ : ∃ x, X j = x := ⟨_, rfl⟩
          rw [hx] at aj fj
          obtain ⟨lo', l1, l2, l3, l4⟩ := run_minF HB.out.1 fj
          obtain ⟨hi', u1, u2, u3, u4⟩ := run_maxF HB.out.2.1 fj
          have kmin := l4 Try.prog
          have kmax := u4 Try.prog
          have HB' := Lib.hid (show Lies lo' hi' (j + 1) X from ⟨l1, u1, fun i hi9 => by
            by_cases c : i = j
            · rw [c, hx]; exact ⟨l3, u3⟩
            · have := HB.out.2.2 i (by omega); omega⟩)
          clear l1 l2 l3 l4 u1 u2 u3 u4 HB hx fj
          go_wp2_with fail
          go_roundw
          case rel => exact ⟨j + 1, lo', hi', by go_num, rfl, rfl, by omega, by first | rfl | trivial, HB'⟩
          case measure => simp [intOf]; omega
        · obtain rfl : j = r := by omega
          have hjr' : ¬ (j : Int) < (j : Int) := by omega
          obtain ⟨i0, hi0, e0⟩ := Hmem.out (by first | rfl | trivial)
          have q1 := (Hmean.out lo hi h1 (by omega) HB.out)
          have q2 := HB.out.2.2 i0 hi0
          rw [← e0] at q2
          have g1 := ge_of F.out.1 HB.out.1 q1.1
          have g2 := le_of F.out.1 HB.out.2.1 q1.2
          have g3 := ge_of F.out.2 HB.out.1 q2.1
          have g4 := le_of F.out.2 HB.out.2.1 q2.2
          have hcn : 0 < cntN j X m2 := by
            unfold cntN
            rw [if_pos (by omega), e0]
            exact cnt_pos (by rw [← e0]; exact F.out.2) j hi0
          have hcn' : (0 : Int) < (cntN j X m2 : Int) := by omega
          have HCnt := Lib.hid (fun W (h : LstF W (some ⟨g, 0, none⟩) j X) => impl_count (some ⟨g, 0, none⟩) j cp X m2 W hj2 h)
          generalize cntN j X m2 = cn at *
          have G := Lib.hid (And.intro g1 (And.intro g2 (And.intro g3 (And.intro g4 hcn'))))
          clear g1 g2 g3 g4 hcn hcn' q1 q2 e0 hi0
          go_wp2_with fail
          refine (C3.out _ H3.out.2).mono ?_
          rintro e w4 ⟨v, rfl, ho, hb⟩
          have H4 := Lib.hid (And.intro (H3.out.1.trans (hb.mono H3.out.1.size)) (And.intro (H3.out.2.keep hb) ho))
          clear hb ho
          by_cases hk1 : 1 ≤ kk
          · have hk1' : (0 : Int) < (kk : Int) := by omega
            rw [decide_eq_true hk1]
            have hN : mvN j X (kk : Int) = j + 1 - kk := by
              unfold mvN
              rw [mvB_eq hX.out (by omega) hkk, decide_eq_true hk1, if_pos rfl, Int.toNat_natCast]
            have ho := H4.out.2.2
            rw [hN, Int.toNat_natCast] at ho
            obtain ⟨a9, c9, rfl, h0 | ⟨g9, rfl, _, _, hcell⟩⟩ := ownF_form ho
            · omega
            have Hc9 := Lib.hid hcell
            have hw1 : IntKind.i64.wrap ((j : Int) - (kk : Int)) = ((j - kk : Nat) : Int) := by rw [IntKind.wrap_i64]; omega
            have hw2 : IntKind.i64.wrap (((j - kk : Nat) : Int) + 1) = ((j + 1 - kk : Nat) : Int) := by rw [IntKind.wrap_i64]; omega
            have Hsub := Lib.hid (fun i (hi9 : i + kk ≤ j) => sub_in (i := i) hX.out hk1 (by omega) hi9 HB.out)
            have Hfm := Lib.hid (fun i => (show finB (mvX X kk i) = true from meanN_fin _ _))
            clear ho hN hcell
            obtain ⟨d, hd⟩ : ∃ d, j - kk = d := ⟨_, rfl⟩
            obtain ⟨N, hN2⟩ : ∃ N, j + 1 - kk = N := ⟨_, rfl⟩
            rw [hd] at hw1 hw2
            rw [hN2] at hw2 Hc9
            rw [hN2]
            have hNd : N = d + 1 ∧ d + kk = j := by omega
            clear hd hN2
            go_wp2_with fail
            go_loopw [14] (fun iv wr => ∃ i : Nat, iv = .int .i64 (i : Int) ∧ i ≤ N ∧ wr = w4) (fun iv _ => N - (intOf iv).toNat)
            case atStart => exact ⟨0, rfl, Nat.zero_le _, by first | rfl | trivial⟩
            case round =>
              obtain ⟨i, rfl, hiN, hwr⟩ := hrel
              subst hwr
              by_cases hi9 : i < N
              · have hi9' : (i : Int) < (N : Int) := by omega
                have ai := Hc9.out i hi9
                rw [Nat.zero_add] at ai
                have s1 := Hsub.out i (by omega)
                have s2 := Hfm.out i
                obtain ⟨y, hy⟩ : ∃ y, mvX X kk i = y := ⟨_, rfl⟩
                rw [hy] at ai s1 s2
                have n1 := not_lt_of s2 HB.out.1 s1.1
                have n2 := not_gt_of s2 HB.out.2.1 s1.2
                clear s1 s2 hy hw1 hw2
                go_wp2_with fail
                go_roundw
                case rel => exact ⟨i + 1, by go_num, by omega, by first | rfl | trivial⟩
                case measure => simp [intOf]; omega
              · obtain rfl : i = N := by omega
                have hi9' : ¬ (i : Int) < (i : Int) := by omega
                obtain ⟨g1, g2, g3, g4, g5⟩ := G.out
                have HC4 := Lib.hid (HCnt.out wr H4.out.2.1)
                go_wp2_with fail
                refine HC4.out.mono ?_
                rintro e w5 ⟨rfl, hw5⟩
                subst w5
                go_wp2_with fail
                go_ret
                exact ⟨ret_bool (by first | rfl | exact decide_eq_true (by omega)), H4.out.1⟩
          · have hk0 : kk = 0 := by omega
            have hk1' : ¬ (0 : Int) < (kk : Int) := by omega
            rw [decide_eq_false hk1]
            have hN : mvN j X (kk : Int) = 0 := by
              unfold mvN
              rw [mvB_eq hX.out (by omega) hkk, decide_eq_false hk1]; rfl
            have ho := H4.out.2.2
            rw [hN] at ho
            obtain ⟨a9, c9, rfl, _⟩ := ownF_form ho
            clear ho hN
            have HC4 := Lib.hid (HCnt.out w4 H4.out.2.1)
            have Hk0 := Lib.hid hk0
            clear hk0
            go_wp2_with fail
            refine wp_loop_rounds 1 ?_
            rw [rounds_succ]
            obtain ⟨g1, g2, g3, g4, g5⟩ := G.out
            go_wp2_with fail
            refine HC4.out.mono ?_
            rintro e w5 ⟨rfl, hw5⟩
            subst w5
            go_wp2_with fail
            go_ret
            exact ⟨ret_bool (by first | rfl | exact decide_eq_true (by omega)), H4.out.1⟩
    · rw [decide_eq_false h1] at C1 C2
      have h1' : ¬ (0 : Int) < (r : Int) := by omega
      have hz : (FloatKind.f32.format.order m1 0 == some .eq) = true := by
        have : m1 = 0 := by
          rw [← Hm1.out]
          unfold meanN
          rw [hmB, decide_eq_false h1, if_neg (by simp)]
        rw [this]; decide
      clear hmB
      go_wp2_with fail
      refine (C1.out _ HL.out).mono ?_
      rintro e w2 ⟨rfl, hb⟩
      have H2 := Lib.hid (And.intro (H1.out.trans (hb.mono H1.out.size)) (HL.out.keep hb))
      clear hb
      go_wp2_with fail
      refine (C2.out _ H2.out.2).mono ?_
      rintro e w3 ⟨rfl, hb⟩
      have H3 := Lib.hid (H2.out.1.trans (hb.mono H2.out.1.size))
      clear hb
      go_wp2_with fail
      go_ret
      exact ⟨ret_bool (by first | rfl | exact hz), H3.out⟩
  · go_enter Try.func12, Try.ntmps12
    go_wp2_with fail
    refine (Drw.big_yes _ _ _ _ (by omega)).mono ?_
    rintro e w' ⟨rfl, rfl⟩
    go_wp2_with fail
    go_ret
    exact ⟨rfl, Below.refl _ _⟩
end Go.Proofs.Ytlbapogmcnpmeaa.fnMeanBetween
