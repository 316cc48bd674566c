/- A finite single is made again of its sign, its mantissa and its exponent. No walk stands here. -/
import Derived.Test.YtlngplohnknhjaaGreatDoorKSplitI
import Derived.Test.YtlngplohnknhjaaGreatDoorPkB
namespace Go.Proofs.YtlngplohnknhjaaGreatDoor.Mag
open Go.ChangeShapes Go.WideShapes Go.ChangeAt Go.RowKit Go.Proofs.YtlngplohnknhjaaGreatDoor Go.Proofs.YtlngplohnknhjaaGreatDoor.Flt Go.Proofs.YtlngplohnknhjaaGreatDoor.Mth
set_option linter.unusedVariables false
theorem sub32_nofin {a : Nat} (h : ¬ rung Ieee.single a < Ieee.single.infRung) : floatBits .sub .f32 a a = none := by
  show Ieee.single.sub a a = none
  unfold Ieee.Format.sub
  rcases reads Ieee.single hs a with ⟨m, e, hr, _, h'⟩ | ⟨hr, h'⟩ | ⟨t, hr, h'⟩
  · omega
  · rw [h']; cases sgn Ieee.single a <;> rfl
  · rw [h']; rfl
theorem ofInt_A {m : Nat} (hm : m < 9007199254740992) : floatOfInt .f64 (m : Int) = A m 149 := by
  have h := write_A hm
  show Ieee.double.write (.number (decide ((m : Int) < 0)) (m : Int).natAbs 0) = _
  rw [decide_eq_false (by omega), Int.natAbs_natCast]
  exact h
/-- the single without its sign -/
theorem plain {x : Nat} (hf : rung Ieee.single x < Ieee.single.infRung) : rung Ieee.single x < 2 ^ Ieee.single.width ∧ isNaN Ieee.single (rung Ieee.single x) = false ∧ widen (rung Ieee.single x) = A (ss Ieee.single (rung Ieee.single x)) (qq Ieee.single (rung Ieee.single x)) := by
  have hl := inf_lt Ieee.single
  generalize rung Ieee.single x = r at *
  have hr : rung Ieee.single r = r := by unfold rung; exact Nat.mod_eq_of_lt (by omega)
  have hsg : sgn Ieee.single r = false := by unfold sgn; rw [Nat.div_eq_of_lt (by omega)]; rfl
  refine ⟨by rw [two_sw]; omega, by unfold isNaN; rw [hr]; exact decide_eq_false (by omega), ?_⟩
  rw [widen_A (by rw [hr]; exact hf), hsg, hr]; rfl
theorem sg_out {x : Nat} (hx : x < 2 ^ Ieee.single.width) (nx : isNaN Ieee.single x = false) : Sgd.out (fnExactSignText.signOf x) (rung Ieee.single x) = (x, true) := by
  have hw := word_eq Ieee.single hx
  have hl := rung_lt Ieee.single x
  unfold fnExactSignText.signOf Sgd.out
  rw [nx]
  cases hs' : sgn Ieee.single x
  · rw [hs'] at hw
    simp only [Bool.false_eq_true, if_false]
    rw [if_pos (by decide +kernel)]
    rw [word_false] at hw; rw [← hw]
  · rw [hs'] at hw
    simp only [Bool.false_eq_true, if_false, if_true]
    rw [if_neg (by decide +kernel), if_pos (by decide +kernel)]
    have hn : Op.negFloat .f32 (rung Ieee.single x) = x := by
      show rung Ieee.single x ^^^ 2 ^ (Ieee.single.exponentBits + Ieee.single.fractionBits) = x
      have h := neg_word Ieee.single false hl
      rw [word_false] at h
      rw [h]; exact hw.symm
    rw [hn]
theorem made_of {x a : Nat} (hx : x < 2 ^ Ieee.single.width) (hf : rung Ieee.single x < Ieee.single.infRung) (ha : a = A (ss Ieee.single (rung Ieee.single x)) (qq Ieee.single (rung Ieee.single x))) : Mks.made (fnExactSignText.signOf x) a = (x, true) := by
  obtain ⟨p1, p2, p3⟩ := plain hf
  have nx : isNaN Ieee.single x = false := decide_eq_false (by omega)
  unfold Mks.made
  rw [ha, ← p3, narrow_widen p1 p2]
  simp only
  rw [eqW_self, isNaN_widen, if_pos (by rfl)]
  exact sg_out hx nx
theorem again_main {x m t : Nat} (hx : x < 2 ^ Ieee.single.width) (hf : rung Ieee.single x < Ieee.single.infRung) (hodd : m % 2 = 1) (hm : ss Ieee.single (rung Ieee.single x) = m * 2 ^ t) :
    Mks.out (fnExactSignText.signOf x) m ((qq Ieee.single (rung Ieee.single x) : Int) + t - 149) = (x, true) := by
  have hq := qq_lt_single hf
  have hs' := ss_single (rung Ieee.single x)
  have hm1 : 1 ≤ m := by omega
  have hp2 : 2 ^ t ≤ m * 2 ^ t := Nat.le_mul_of_pos_left _ hm1
  have ht : t ≤ 23 := by
    have h2 : 2 ^ t < 2 ^ 24 := by omega
    have := (Nat.pow_lt_pow_iff_right (by omega : 1 < 2)).1 h2
    omega
  have hm2 : m < 16777216 := by
    have : m * 1 ≤ m * 2 ^ t := Nat.mul_le_mul_left _ (Nat.two_pow_pos _)
    omega
  unfold Mks.out
  rw [if_pos (by omega)]
  refine made_of hx hf ?_
  unfold Mks.amount
  rw [ofInt_A (by omega), scale_A (by omega) (by omega) (by omega), hm, A_shift]
  congr 1
  omega
theorem again_zero {x : Nat} (hx : x < 2 ^ Ieee.single.width) (h0 : rung Ieee.single x = 0) : Mks.out (fnExactSignText.signOf x) 0 0 = (x, true) := by
  have hf : rung Ieee.single x < Ieee.single.infRung := by rw [h0]; decide
  unfold Mks.out
  rw [if_pos (by omega)]
  refine made_of hx hf ?_
  unfold Mks.amount
  rw [show (0 : Int) = ((0 : Nat) : Int) from rfl, ofInt_A (by omega), h0, show ss Ieee.single 0 = 0 by decide, A_zero, A_zero]
  rfl
end Go.Proofs.YtlngplohnknhjaaGreatDoor.Mag
