/- The walk of FnCodeSigns: it returns true. -/
import Derived.Test.YtmnpmbliikalhaaRows
import Derived.Test.YtmnpmbliikalhaaRngNear
import Derived.Test.YtmnpmbliikalhaaRngCode
namespace Go.Proofs.Ytmnpmbliikalhaa.fnCodeSigns
open Go.ChangeShapes Go.WideShapes Go.ChangeAt Go.RowKit Go.Proofs.Ytmnpmbliikalhaa Go.Proofs.Ytmnpmbliikalhaa.Flt Go.Proofs.Ytmnpmbliikalhaa.Mth Go.Proofs.Ytmnpmbliikalhaa.Rng
set_option linter.unusedVariables false
theorem codeB_neg {n : Nat} {X : Nat → Nat} {k x : Nat} (ho : okB n X = true) (hk : k < n) (wx : (Lit.float .f32 x).wf = true) : codeB n X (k : Int) (Op.negFloat .f32 x) = codeB n X (k : Int) x := by
  unfold codeB
  have hF := full_at ho hk
  rw [Int.toNat_natCast, le_full wx hF, le_full (neg_wf wx) hF, show rung Ieee.single (Op.negFloat .f32 x) = rung Ieee.single x from rung_neg .f32 (lt_single' wx)]
theorem codeI_neg {x F : Nat} (wx : (Lit.float .f32 x).wf = true) : codeI (Op.negFloat .f32 x) F = - codeI x F := by
  unfold codeI
  rw [show rung Ieee.single (Op.negFloat .f32 x) = rung Ieee.single x from rung_neg .f32 (lt_single' wx), show sgn Ieee.single (Op.negFloat .f32 x) = !sgn Ieee.single x from sgn_neg .f32 (lt_single' wx)]
  cases sgn Ieee.single x <;> cases sgn Ieee.single F <;> simp
theorem codeV_neg {n : Nat} {X : Nat → Nat} {k x : Nat} (ho : okB n X = true) (hk : k < n) (wx : (Lit.float .f32 x).wf = true) : codeV n X (k : Int) (Op.negFloat .f32 x) = - codeV n X (k : Int) x := by
  unfold codeV
  rw [codeB_neg ho hk wx]
  split
  · exact codeI_neg wx
  · rfl
theorem codeV_bounds {n : Nat} {X : Nat → Nat} {k x : Nat} (ho : okB n X = true) (hk : k < n) (wx : (Lit.float .f32 x).wf = true) : -32767 ≤ codeV n X (k : Int) x ∧ codeV n X (k : Int) x ≤ 32767 := by
  unfold codeV
  split
  · rename_i h
    unfold codeB at h
    have hF := full_at ho hk
    rw [Int.toNat_natCast, le_full wx hF, Bool.and_eq_true] at h
    exact codeI_bounds hF.2.1 (of_decide_eq_true h.2)
  · omega
theorem over_code {n : Nat} {X : Nat → Nat} {k x : Nat} (hh : hasB n X (k : Int) = true) : overB n X (k : Int) x = !codeB n X (k : Int) x := by
  unfold overB codeB
  rw [hh]; rfl
set_option maxHeartbeats 1600000 in
theorem walk (a : Option Addr) (len cap : Nat) (zs : List Int) (w : World) (hr : IsRow .u8 w a len cap zs) :
    Calls Try.prog 4 #[.slice a len cap] w fun x w' => x = .returned (.bool true) ∧ Below w.heap.size w w' := by
  by_cases hl : (len : Int) ≤ 1048576
  · go_enter Try.func4, Try.ntmps4
    go_wp2_with fail
    refine (Drw.big_no _ _ _ _ hl).mono ?_
    rintro e w ⟨rfl, rfl⟩
    go_wp2_with fail
    refine (draw_ranges a len cap zs _ hr).mono ?_
    rintro e w1 ⟨g, n, cp, X, x, rfl, n1, n5, hok, hwf, hg, hc, wx, hb⟩
    have HL := Lib.hid (show Lst w1 (some ⟨g, 0, none⟩) n X from ⟨hwf, .inr ⟨g, 0, rfl, hg, hc⟩⟩)
    have Hb := Lib.hid hb
    have HO := Lib.hid hok
    have hn20 : n ≤ 1048576 := by omega
    have hh : ∀ k : Nat, k < n → hasB n X (k : Int) = true := fun k hk => by unfold hasB; rw [hok, Bool.true_and]; exact decide_eq_true (by omega)
    have HH := Lib.hid hh
    clear hr hl hwf hc hb hh
    have H0 := Lib.hid (Below.refl w1.heap.size w1)
    go_wp2_with fail
    go_loopw [5] (fun i wr => ∃ k : Nat, i = .int .i64 k ∧ k ≤ n ∧ Below w1.heap.size w1 wr)
      (fun i _ => n - (intOf i).toNat)
    case atStart => exact ⟨0, rfl, Nat.zero_le _, H0.out⟩
    case round =>
      obtain ⟨k, rfl, hk, hbel⟩ := hrel
      have Hr := Lib.hid hbel
      have hsz := hbel.size
      clear hbel
      by_cases hkl : k < n
      · obtain ⟨c, hcv⟩ : ∃ c, codeV n X (k : Int) x = c := ⟨_, rfl⟩
        obtain ⟨b, hcb⟩ : ∃ b, codeB n X (k : Int) x = b := ⟨_, rfl⟩
        have hbd := codeV_bounds HO.out hkl wx
        rw [hcv] at hbd
        have Hc := Lib.hid (And.intro hcv hcb)
        have Hc' := Lib.hid (show codeV n X (k : Int) (Op.negFloat .f32 x) = -c ∧ codeB n X (k : Int) (Op.negFloat .f32 x) = b by rw [codeV_neg HO.out hkl wx, codeB_neg HO.out hkl wx, hcv, hcb]; exact ⟨rfl, rfl⟩)
        have Hov := Lib.hid (show overB n X (k : Int) x = !b by rw [over_code (HH.out k hkl), hcb])
        clear hcv hcb
        go_wp2_with fail
        refine (implCode _ _ _ X _ x wx _ hn20 (HL.out.keep Hr.out)).mono ?_
        rintro e w3 ⟨rfl, hb3⟩
        have H3 := Lib.hid (Hr.out.trans (hb3.mono hsz))
        clear hb3
        rw [Hc.out.1, Hc.out.2]
        go_wp2_with fail
        refine (implCode _ _ _ X _ _ (neg_wf wx) _ hn20 (HL.out.keep H3.out)).mono ?_
        rintro e w4 ⟨rfl, hb4⟩
        have H4 := Lib.hid (H3.out.trans (hb4.mono H3.out.size))
        clear hb4
        rw [Hc'.out.1, Hc'.out.2]
        go_wp2_with fail
        refine (implOver _ _ _ X _ x wx _ hn20 (HL.out.keep H4.out)).mono ?_
        rintro e w5 ⟨rfl, hb5⟩
        have H5 := Lib.hid (H4.out.trans (hb5.mono H4.out.size))
        clear hb5
        rw [Hov.out]
        cases b
        all_goals
          go_wp2_with fail
          go_roundw
          case rel => exact ⟨k + 1, by go_num, by omega, H5.out⟩
          case measure => simp [intOf]; omega
      · obtain rfl : k = n := by omega
        go_wp2_with fail
        go_ret
        exact ⟨rfl, Hb.out.trans (Hr.out.mono Hb.out.size)⟩
  · go_enter Try.func4, Try.ntmps4
    go_wp2_with fail
    refine (Drw.big_yes _ _ _ _ (by omega)).mono ?_
    rintro e w ⟨rfl, rfl⟩
    go_wp2_with fail
    go_ret
    exact ⟨rfl, Below.refl _ _⟩
end Go.Proofs.Ytmnpmbliikalhaa.fnCodeSigns
