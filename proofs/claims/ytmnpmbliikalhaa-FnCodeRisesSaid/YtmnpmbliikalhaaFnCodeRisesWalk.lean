/- The walk of FnCodeRises: it returns true. -/
import Derived.Test.YtmnpmbliikalhaaRows
import Derived.Test.YtmnpmbliikalhaaRngNear
import Derived.Test.YtmnpmbliikalhaaRngCode
import Derived.Test.YtmnpmbliikalhaaRngBest
namespace Go.Proofs.Ytmnpmbliikalhaa.fnCodeRises
open Go.ChangeShapes Go.WideShapes Go.ChangeAt Go.RowKit Go.Proofs.Ytmnpmbliikalhaa Go.Proofs.Ytmnpmbliikalhaa.Flt Go.Proofs.Ytmnpmbliikalhaa.Mth Go.Proofs.Ytmnpmbliikalhaa.Rng
set_option linter.unusedVariables false
theorem codeN_mono {r r' s : Nat} (hs : s ≠ 0) (h : r ≤ r') (hr : r' ≤ s) : codeN r s ≤ codeN r' s := by
  unfold codeN
  exact Nat.div_le_div_right ((mg_le_iff Ieee.single).2 (mul_mono (quo_mono h (Nat.le_refl s) hs) (Nat.le_refl _)))
/-- half of a finite single -/
theorem half_bits {x : Nat} (hx : rung Ieee.single x < Ieee.single.infRung) : floatBits .quo .f32 x 1073741824 = some (Ieee.single.word (sgn Ieee.single x) (quoRung Ieee.single (rung Ieee.single x) 1073741824)) := by
  have h := div_rr Ieee.single least_le hx (y := 1073741824) (by rw [pos_rung (by omega), inf_single]; omega) (by rw [pos_rung (by omega)]; omega)
  rw [pos_rung (r := 1073741824) (by omega), pos_sgn (r := 1073741824) (by omega), Bool.xor_false] at h
  exact h
theorem rise_arith (s : Bool) (c d : Nat) (hc : c ≤ 32767) (hd : d ≤ c) (c0 d0 : Int) (h1 : c0 = if s = true then -(c : Int) else (c : Int)) (h2 : d0 = if s = true then -(d : Int) else (d : Int)) :
    (0 ≤ d0 * d0 ∧ d0 * d0 ≤ c0 * c0 ∧ c0 * c0 ≤ 1073676289) ∧ ((0 < c0 ∧ 0 ≤ d0) ∨ (c0 < 0 ∧ d0 ≤ 0) ∨ c0 = 0) := by
  have e1 : c0 * c0 = ((c * c : Nat) : Int) := by
    rw [h1, Int.natCast_mul]
    cases s
    · rw [if_neg Bool.false_ne_true]
    · rw [if_pos rfl, Int.neg_mul_neg]
  have e2 : d0 * d0 = ((d * d : Nat) : Int) := by
    rw [h2, Int.natCast_mul]
    cases s
    · rw [if_neg Bool.false_ne_true]
    · rw [if_pos rfl, Int.neg_mul_neg]
  have e3 : c * c ≤ 1073676289 := Nat.mul_le_mul hc hc
  have e4 : d * d ≤ c * c := Nat.mul_le_mul hd hd
  refine ⟨⟨by omega, by omega, by omega⟩, ?_⟩
  cases s
  · rw [if_neg Bool.false_ne_true] at h1 h2; omega
  · rw [if_pos rfl] at h1 h2; omega
/-- what a code and half's code are to each other -/
theorem rises {n : Nat} {X : Nat → Nat} {k x y : Nat} (ho : okB n X = true) (hk : k < n) (wx : (Lit.float .f32 x).wf = true) (wy : (Lit.float .f32 y).wf = true) (hb : codeB n X (k : Int) x = true)
    (hy : floatBits .quo .f32 x 1073741824 = some y ∨ (floatBits .quo .f32 x 1073741824 = none ∧ isNaN FloatKind.f32.format y = true)) :
    codeB n X (k : Int) y = true ∧ ∃ (s : Bool) (c d : Nat), c ≤ 32767 ∧ d ≤ c ∧ codeV n X (k : Int) x = (if s then -(c : Int) else (c : Int)) ∧ codeV n X (k : Int) y = (if s then -(d : Int) else (d : Int)) := by
  have hF := full_at ho hk
  have hb' := hb
  unfold codeB at hb'
  rw [Int.toNat_natCast, le_full wx hF, Bool.and_eq_true] at hb'
  have hle : rung Ieee.single x ≤ rung Ieee.single (X (k * 3)) := of_decide_eq_true hb'.2
  have hx : rung Ieee.single x < Ieee.single.infRung := Nat.lt_of_le_of_lt hle hF.1
  rw [half_bits hx] at hy
  rcases hy with hy | ⟨hy, _⟩
  · rw [Option.some.injEq] at hy
    have hq := half_le (rung Ieee.single x)
    have hqs : quoRung Ieee.single (rung Ieee.single x) 1073741824 < Ieee.single.signWeight := Nat.lt_of_le_of_lt hq (rung_lt Ieee.single x)
    have ry : rung Ieee.single y = quoRung Ieee.single (rung Ieee.single x) 1073741824 := by rw [← hy, rung_word Ieee.single _ hqs]
    have sy : sgn Ieee.single y = sgn Ieee.single x := by rw [← hy, sgn_word Ieee.single _ hqs]
    have hyle : rung Ieee.single y ≤ rung Ieee.single x := by rw [ry]; exact hq
    have hby : codeB n X (k : Int) y = true := by
      unfold codeB
      rw [Int.toNat_natCast, le_full wy hF, Bool.and_eq_true]
      exact ⟨hb'.1, decide_eq_true (Nat.le_trans hyle hle)⟩
    refine ⟨hby, (sgn Ieee.single x ^^ sgn Ieee.single (X (k * 3))), codeN (rung Ieee.single x) (rung Ieee.single (X (k * 3))), codeN (rung Ieee.single y) (rung Ieee.single (X (k * 3))), codeN_le hF.2.1 hle, codeN_mono hF.2.1 hyle hle, ?_, ?_⟩
    · unfold codeV; rw [hb, if_pos rfl, Int.toNat_natCast]; rfl
    · unfold codeV; rw [hby, if_pos rfl, Int.toNat_natCast]; unfold codeI; rw [sy]
  · cases hy
theorem best_zero {n : Nat} {X : Nat → Nat} (ho : okB n X = true) : bestV n X 0 = 0 := by
  have h0 := (okB_bounds ho).1
  rw [← best_yes ho, ← best_hit (k := 0) (by omega) (by
    rw [le_full (by decide) (full_at ho (by omega)), rung_zero]
    exact decide_eq_true (Nat.zero_le _)) (fun j hj => absurd hj (Nat.not_lt_zero _))]
  rfl
set_option maxHeartbeats 1600000 in
theorem walk (a : Option Addr) (len cap : Nat) (zs : List Int) (w : World) (hr : IsRow .u8 w a len cap zs) :
    Calls Try.prog 6 #[.slice a len cap] w fun x w' => x = .returned (.bool true) ∧ Below w.heap.size w w' := by
  by_cases hl : (len : Int) ≤ 1048576
  · go_enter Try.func6, Try.ntmps6
    go_wp2_with fail
    refine (Drw.big_no _ _ _ _ hl).mono ?_
    rintro e w ⟨rfl, rfl⟩
    go_wp2_with fail
    refine (draw_ranges a len cap zs _ hr).mono ?_
    rintro e w1 ⟨g, n, cp, X, x, rfl, n1, n5, hok, hwf, hg, hc, wx, hb⟩
    have HL := Lib.hid (show Lst w1 (some ⟨g, 0, none⟩) n X from ⟨hwf, .inr ⟨g, 0, rfl, hg, hc⟩⟩)
    have Hb := Lib.hid hb
    have HO := Lib.hid hok
    have hn20 : n ≤ 1048576 := by omega
    have hh : ∀ k : Nat, k < n → hasB n X (k : Int) = true := fun k hk => by unfold hasB; rw [hok, Bool.true_and]; exact decide_eq_true (by omega)
    have HH := Lib.hid hh
    clear hr hl hwf hc hb hh
    have H0 := Lib.hid (Below.refl w1.heap.size w1)
    go_wp2_with fail
    go_loopw [5] (fun i wr => ∃ k : Nat, i = .int .i64 k ∧ k ≤ n ∧ Below w1.heap.size w1 wr)
      (fun i _ => n - (intOf i).toNat)
    case atStart => exact ⟨0, rfl, Nat.zero_le _, H0.out⟩
    case round =>
      obtain ⟨k, rfl, hk, hbel⟩ := hrel
      have Hr := Lib.hid hbel
      have hsz := hbel.size
      clear hbel
      by_cases hkl : k < n
      · obtain ⟨b, hcb⟩ : ∃ b, codeB n X (k : Int) x = b := ⟨_, rfl⟩
        cases b
        · obtain ⟨c, hcv⟩ : ∃ c, codeV n X (k : Int) x = c := ⟨_, rfl⟩
          have Hc := Lib.hid (And.intro hcv hcb)
          clear hcv hcb
          go_wp2_with fail
          refine (implCode _ _ _ X _ x wx _ hn20 (HL.out.keep Hr.out)).mono ?_
          rintro e w3 ⟨rfl, hb3⟩
          have H3 := Lib.hid (Hr.out.trans (hb3.mono hsz))
          clear hb3
          rw [Hc.out.1, Hc.out.2]
          obtain ⟨y, ny, wy, hy, ky⟩ := run_float_any (P := Try.prog) .quo (.inr (.inr (.inr rfl))) 25 .f32 x 1073741824 w3
          have H3' := Lib.hid (below_drewN H3.out ny)
          clear hy
          go_wp2_with fail
          refine (implCode _ _ _ X _ y wy _ hn20 (HL.out.keep H3'.out)).mono ?_
          rintro e w4 ⟨rfl, hb4⟩
          have H4 := Lib.hid (H3'.out.trans (hb4.mono H3'.out.size))
          clear hb4
          go_wp2_with fail
          refine (specCode _ _ _ X _ x wx _ hn20 (HL.out.keep H4.out)).mono ?_
          rintro e w5 ⟨rfl, hb5⟩
          have H5 := Lib.hid (H4.out.trans (hb5.mono H4.out.size))
          clear hb5
          rw [Hc.out.1, Hc.out.2]
          go_wp2_with fail
          go_roundw
          case rel => exact ⟨k + 1, by go_num, by omega, H5.out⟩
          case measure => simp [intOf]; omega
        · have Hcb := Lib.hid hcb
          obtain ⟨c0, hcv⟩ : ∃ c, codeV n X (k : Int) x = c := ⟨_, rfl⟩
          have Hc := Lib.hid (And.intro hcv hcb)
          clear hcv hcb
          go_wp2_with fail
          refine (implCode _ _ _ X _ x wx _ hn20 (HL.out.keep Hr.out)).mono ?_
          rintro e w3 ⟨rfl, hb3⟩
          have H3 := Lib.hid (Hr.out.trans (hb3.mono hsz))
          clear hb3
          rw [Hc.out.1, Hc.out.2]
          obtain ⟨y, ny, wy, hy, ky⟩ := run_float_any (P := Try.prog) .quo (.inr (.inr (.inr rfl))) 25 .f32 x 1073741824 w3
          have H3' := Lib.hid (below_drewN H3.out ny)
          obtain ⟨hby, s, c, d, hc, hd, hvx, hvy⟩ := rises HO.out hkl wx wy Hcb.out hy
          rw [Hc.out.1] at hvx
          have Hvx := Lib.hid hvx
          obtain ⟨d0, hd0⟩ : ∃ d0, (if s = true then -(d : Int) else (d : Int)) = d0 := ⟨_, rfl⟩
          rw [hd0] at hvy
          have Hd0 := Lib.hid hd0.symm
          have Hy := Lib.hid (And.intro hvy hby)
          clear hy hby hvy hvx hd0
          go_wp2_with fail
          refine (implCode _ _ _ X _ y wy _ hn20 (HL.out.keep H3'.out)).mono ?_
          rintro e w4 ⟨rfl, hb4⟩
          have H4 := Lib.hid (H3'.out.trans (hb4.mono H3'.out.size))
          clear hb4
          rw [Hy.out.1, Hy.out.2]
          go_wp2_with fail
          refine (specCode _ _ _ X _ x wx _ hn20 (HL.out.keep H4.out)).mono ?_
          rintro e w5 ⟨rfl, hb5⟩
          have H5 := Lib.hid (H4.out.trans (hb5.mono H4.out.size))
          clear hb5
          rw [Hc.out.1, Hc.out.2]
          obtain ⟨⟨hb2, hb3, hb4⟩, hsgn⟩ := rise_arith s c d hc hd c0 d0 Hvx.out Hd0.out
          obtain ⟨cc, hcc⟩ : ∃ cc, c0 * c0 = cc := ⟨_, rfl⟩
          obtain ⟨dd, hdd⟩ : ∃ dd, d0 * d0 = dd := ⟨_, rfl⟩
          rw [hcc] at hb3 hb4
          rw [hdd] at hb2 hb3
          clear hc hd
          have hgt : decide (cc < dd) = false := decide_eq_false (by omega)
          rcases hsgn with ⟨h1, h2⟩ | ⟨h1, h2⟩ | h1
          · go_wp2_with fail
            go_roundw
            case rel => exact ⟨k + 1, by go_num, by omega, H5.out⟩
            case measure => simp [intOf]; omega
          · go_wp2_with fail
            go_roundw
            case rel => exact ⟨k + 1, by go_num, by omega, H5.out⟩
            case measure => simp [intOf]; omega
          · subst h1
            go_wp2_with fail
            go_roundw
            case rel => exact ⟨k + 1, by go_num, by omega, H5.out⟩
            case measure => simp [intOf]; omega
      · obtain rfl : k = n := by omega
        have Hz := Lib.hid (best_zero HO.out)
        go_wp2_with fail
        refine (implBest _ _ _ X 0 (by decide) _ hn20 (HL.out.keep Hr.out)).mono ?_
        rintro e w3 ⟨rfl, hb3⟩
        have H3 := Lib.hid (Hr.out.trans (hb3.mono hsz))
        clear hb3
        rw [Hz.out]
        go_wp2_with fail
        go_ret
        exact ⟨rfl, Hb.out.trans (H3.out.mono Hb.out.size)⟩
  · go_enter Try.func6, Try.ntmps6
    go_wp2_with fail
    refine (Drw.big_yes _ _ _ _ (by omega)).mono ?_
    rintro e w ⟨rfl, rfl⟩
    go_wp2_with fail
    go_ret
    exact ⟨rfl, Below.refl _ _⟩
end Go.Proofs.Ytmnpmbliikalhaa.fnCodeRises
