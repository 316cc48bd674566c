/- The walk of FnSettles: it returns true. -/
import Derived.Test.YtmnpmbliikalhaaRows
import Derived.Test.YtmnpmbliikalhaaRngNear
import Derived.Test.YtmnpmbliikalhaaRngSettle
import Derived.Test.YtmnpmbliikalhaaRngBest
namespace Go.Proofs.Ytmnpmbliikalhaa.fnSettles
open Go.ChangeShapes Go.WideShapes Go.ChangeAt Go.RowKit Go.Proofs.Ytmnpmbliikalhaa Go.Proofs.Ytmnpmbliikalhaa.Flt Go.Proofs.Ytmnpmbliikalhaa.Mth Go.Proofs.Ytmnpmbliikalhaa.Rng
set_option linter.unusedVariables false
theorem settle_dir {len : Nat} {X : Nat → Nat} {x : Nat} (ho : okB len X = true) : ∀ (f k : Nat), k < len → left len X x k ≤ f →
    (stepN len X x k = k + 1 → k < settleN len X x k) ∧ (stepN len X x k + 1 = k → settleN len X x k < k) ∧ stepN len X x (settleN len X x k) = settleN len X x k := by
  intro f
  induction f with
  | zero =>
    intro k hk h
    by_cases e : stepN len X x k = k
    · have := settle_same e
      rw [this]
      exact ⟨fun h => by omega, fun h => by omega, e⟩
    · have := left_step ho hk e; omega
  | succ f ih =>
    intro k hk h
    by_cases e : stepN len X x k = k
    · have := settle_same e
      rw [this]
      exact ⟨fun h => by omega, fun h => by omega, e⟩
    · have hd := left_step ho hk e
      have hs := settle_step ho hk e
      obtain ⟨i1, i2, i3⟩ := ih (stepN len X x k) (stepN_lt hk) (by omega)
      rw [hs] at i1 i2 i3
      refine ⟨fun h1 => ?_, fun h1 => ?_, i3⟩
      · rw [h1] at i1 hs
        rcases stepN_ways len X x (k + 1) with ⟨_, _, g⟩ | ⟨g1, g2, g⟩ | g
        · have := i1 g; omega
        · rcases stepN_ways len X x k with ⟨u1, u2, _⟩ | ⟨_, _, u⟩ | u
          · rw [gt_not_lt u2 (down_up ho u1)] at g2; cases g2
          · omega
          · omega
        · have := settle_same g; omega
      · obtain ⟨m, rfl⟩ : ∃ m, k = m + 1 := ⟨k - 1, by omega⟩
        have e1 : stepN len X x (m + 1) = m := by omega
        rw [e1] at i2 hs
        rcases stepN_ways len X x m with ⟨g1, g2, g⟩ | ⟨_, _, g⟩ | g
        · rcases stepN_ways len X x (m + 1) with ⟨_, _, u⟩ | ⟨_, u2, _⟩ | u
          · omega
          · rw [lt_not_gt u2 (down_up ho hk)] at g2; cases g2
          · omega
        · have := i2 g; omega
        · have := settle_same g; omega
set_option maxHeartbeats 1600000 in
theorem walk (a : Option Addr) (len cap : Nat) (zs : List Int) (w : World) (hr : IsRow .u8 w a len cap zs) :
    Calls Try.prog 3 #[.slice a len cap] w fun x w' => x = .returned (.bool true) ∧ Below w.heap.size w w' := by
  by_cases hl : (len : Int) ≤ 1048576
  · go_enter Try.func3, Try.ntmps3
    go_wp2_with fail
    refine (Drw.big_no _ _ _ _ hl).mono ?_
    rintro e w ⟨rfl, rfl⟩
    go_wp2_with fail
    refine (draw_ranges a len cap zs _ hr).mono ?_
    rintro e w1 ⟨g, n, cp, X, x, rfl, n1, n5, hok, hwf, hg, hc, wx, hb⟩
    have HL := Lib.hid (show Lst w1 (some ⟨g, 0, none⟩) n X from ⟨hwf, .inr ⟨g, 0, rfl, hg, hc⟩⟩)
    have Hb := Lib.hid hb
    have HO := Lib.hid hok
    have hn20 : n ≤ 1048576 := by omega
    have hh : ∀ k : Nat, k < n → hasB n X (k : Int) = true := fun k hk => by unfold hasB; rw [hok, Bool.true_and]; exact decide_eq_true (by omega)
    have HH := Lib.hid hh
    clear hr hl hwf hc hb hh
    go_wp2_with fail
    refine (okI_any _ _ _ X _ hn20 HL.out).mono ?_
    rintro e w2 ⟨rfl, hb2⟩
    have H0 := Lib.hid hb2
    clear hb2
    rw [hok]
    go_wp2_with fail
    go_loopw [5] (fun i wr => ∃ k : Nat, i = .int .i64 k ∧ k ≤ n ∧ Below w1.heap.size w1 wr)
      (fun i _ => n - (intOf i).toNat)
    case atStart => exact ⟨0, rfl, Nat.zero_le _, H0.out⟩
    case round =>
      obtain ⟨k, rfl, hk, hbel⟩ := hrel
      have Hr := Lib.hid hbel
      have hsz := hbel.size
      clear hbel
      by_cases hkl : k < n
      · have hd := settle_dir (x := x) HO.out n k hkl (left_le hkl)
        have hsl : settleN n X x k < n := settle_lt _ _ hkl
        obtain ⟨s, hs⟩ : ∃ s, settleN n X x k = s := ⟨_, rfl⟩
        obtain ⟨t, ht⟩ : ∃ t, stepN n X x k = t := ⟨_, rfl⟩
        have hways := stepN_ways n X x k
        rw [hs, ht] at hd
        rw [ht] at hways
        rw [hs] at hsl
        have Hs := Lib.hid (show setV n X (k : Int) x = (s : Int) by rw [← setV_yes (HH.out k hkl), hs])
        have Ht := Lib.hid (show stepV n X (k : Int) x = (t : Int) by rw [← stepV_yes (HH.out k hkl), stepB_cast, ht])
        have Hss := Lib.hid (show stepV n X (s : Int) x = (s : Int) by rw [← stepV_yes (HH.out s hsl), stepB_cast, hd.2.2])
        have hcmp : (t = k + 1 ∧ k < s) ∨ (t + 1 = k ∧ s < k) ∨ (t = k ∧ s = k) := by
          rcases hways with ⟨_, _, e⟩ | ⟨_, _, e⟩ | e
          · exact .inl ⟨e, hd.1 e⟩
          · exact .inr (.inl ⟨e, hd.2.1 e⟩)
          · exact .inr (.inr ⟨e, by rw [← hs]; exact settle_same (by rw [ht, e])⟩)
        clear hd hs ht hways
        go_wp2_with fail
        refine (implSettle _ _ _ X _ x wx _ hn20 (HL.out.keep Hr.out)).mono ?_
        rintro e w3 ⟨rfl, hb3⟩
        have H3 := Lib.hid (Hr.out.trans (hb3.mono hsz))
        clear hb3
        rw [Hs.out]
        go_wp2_with fail
        refine (implStep _ _ _ X _ x wx _ hn20 (HL.out.keep H3.out)).mono ?_
        rintro e w4 ⟨rfl, hb4⟩
        have H4 := Lib.hid (H3.out.trans (hb4.mono H3.out.size))
        clear hb4
        rw [Ht.out]
        go_wp2_with fail
        refine (implStep _ _ _ X _ x wx _ hn20 (HL.out.keep H4.out)).mono ?_
        rintro e w5 ⟨rfl, hb5⟩
        have H5 := Lib.hid (H4.out.trans (hb5.mono H4.out.size))
        clear hb5
        rw [Hss.out]
        rcases hcmp with ⟨h1, h2⟩ | ⟨h1, h2⟩ | ⟨h1, h2⟩
        · subst h1
          have hq1 : decide (s < k) = false := decide_eq_false (by omega)
          have hq2 : decide ((k : Int) + 1 < (k : Int)) = false := decide_eq_false (by omega)
          go_wp2_with fail
          go_roundw
          case rel => exact ⟨k + 1, by go_num, by omega, H5.out⟩
          case measure => simp [intOf]; omega
        · obtain ⟨h3, h4⟩ : t < k ∧ ¬ k < t := by omega
          go_wp2_with fail
          go_roundw
          case rel => exact ⟨k + 1, by go_num, by omega, H5.out⟩
          case measure => simp [intOf]; omega
        · subst h1
          subst h2
          go_wp2_with fail
          go_roundw
          case rel => exact ⟨s + 1, by go_num, by omega, H5.out⟩
          case measure => simp [intOf]; omega
      · obtain rfl : k = n := by omega
        have Hno := Lib.hid (setV_no (x := x) (show hasB k X (k : Int) = false by unfold hasB; rw [show decide ((0 : Int) ≤ (k : Int) ∧ (k : Int) < (k : Int)) = false from decide_eq_false (by omega), Bool.and_false]))
        go_wp2_with fail
        refine (implSettle _ _ _ X _ x wx _ hn20 (HL.out.keep Hr.out)).mono ?_
        rintro e w3 ⟨rfl, hb3⟩
        have H3 := Lib.hid (Hr.out.trans (hb3.mono hsz))
        clear hb3
        rw [← Hno.out]
        go_wp2_with fail
        go_ret
        exact ⟨rfl, Hb.out.trans (H3.out.mono Hb.out.size)⟩
  · go_enter Try.func3, Try.ntmps3
    go_wp2_with fail
    refine (Drw.big_yes _ _ _ _ (by omega)).mono ?_
    rintro e w ⟨rfl, rfl⟩
    go_wp2_with fail
    go_ret
    exact ⟨rfl, Below.refl _ _⟩
end Go.Proofs.Ytmnpmbliikalhaa.fnSettles
