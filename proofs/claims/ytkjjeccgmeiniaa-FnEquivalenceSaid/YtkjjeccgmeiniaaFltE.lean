/- Plain facts on doubles: twice and half of a number, scaling, narrowing to a single. No program stands here. -/
import Derived.Test.YtkjjeccgmeiniaaFltD
namespace Go.Proofs.Ytkjjeccgmeiniaa.Flt
open Ieee

/-- what is written of a number or of an infinity is no NaN -/
theorem nearest_rung (f : Format) (s : Bool) (m : Nat) (p : Int) : rung f (f.nearest s m p) = min (rr f (m * 2 ^ (p - f.leastPlace).toNat) (2 ^ (f.leastPlace - p).toNat)) f.infRung ∧ sgn f (f.nearest s m p) = s := by
  have hl := inf_lt f
  rw [nearest_rr]
  exact ⟨rung_word f s (by omega), sgn_word f s (by omega)⟩
theorem nearest_nan (f : Format) (s : Bool) (m : Nat) (p : Int) : isNaN f (f.nearest s m p) = false := by
  unfold isNaN; rw [(nearest_rung f s m p).1]; exact decide_eq_false (by omega)
theorem write_nan (f : Format) (d : Datum) (h : d.isNaN = false) : isNaN f (f.write d) = false := by
  cases d with
  | number s m p => exact nearest_nan f s m p
  | infinity s => 
    show isNaN f (f.word s f.infRung) = false
    unfold isNaN; rw [rung_word f s (inf_lt f)]; exact decide_eq_false (by omega)
  | nan s t => cases h

theorem read_two : double.read 4611686018427387904 = .number false 4503599627370496 (-51) := by decide
/-- twice, half -/
def mul2 (a : Nat) : Nat := (double.mul a 4611686018427387904).getD 0
def div2 (a : Nat) : Nat := (double.div a 4611686018427387904).getD 0
theorem product_two {a : Nat} (na : isNaN double a = false) : ∃ d : Datum, (double.read a).product (.number false 4503599627370496 (-51)) = some d ∧ d.isNaN = false := by
  unfold isNaN at na
  have na := of_decide_eq_false na
  rcases reads double hd a with ⟨m, e, hr, _, h⟩ | ⟨hr, h⟩ | ⟨t, hr, h⟩
  · rw [h]; exact ⟨_, rfl, rfl⟩
  · rw [h]; exact ⟨_, rfl, rfl⟩
  · omega
theorem quotient_two {a : Nat} (na : isNaN double a = false) : ∃ d : Datum, (double.read a).quotient 54 (.number false 4503599627370496 (-51)) = some d ∧ d.isNaN = false := by
  unfold isNaN at na
  have na := of_decide_eq_false na
  rcases reads double hd a with ⟨m, e, hr, _, h⟩ | ⟨hr, h⟩ | ⟨t, hr, h⟩
  · rw [h]; exact ⟨_, rfl, rfl⟩
  · rw [h]; exact ⟨_, rfl, rfl⟩
  · omega
theorem mul2_bits {a : Nat} (na : isNaN double a = false) : floatBits .mul .f64 a 4611686018427387904 = some (mul2 a) ∧ isNaN double (mul2 a) = false := by
  obtain ⟨d, h1, h2⟩ := product_two na
  have h3 : double.mul a 4611686018427387904 = some (double.write d) := by unfold Format.mul; rw [read_two, h1]; rfl
  have h4 : mul2 a = double.write d := by unfold mul2; rw [h3]; rfl
  rw [h4]
  exact ⟨h3, write_nan double d h2⟩
theorem div2_bits {a : Nat} (na : isNaN double a = false) : floatBits .quo .f64 a 4611686018427387904 = some (div2 a) ∧ isNaN double (div2 a) = false := by
  obtain ⟨d, h1, h2⟩ := quotient_two na
  have h3 : double.div a 4611686018427387904 = some (double.write d) := by
    unfold Format.div; rw [read_two]
    show (((double.read a).quotient 54 (.number false 4503599627370496 (-51))).map double.write) = _
    rw [h1]; rfl
  have h4 : div2 a = double.write d := by unfold div2; rw [h3]; rfl
  rw [h4]
  exact ⟨h3, write_nan double d h2⟩
def muls : Nat → Nat → Nat
  | 0, a => a
  | k + 1, a => mul2 (muls k a)
def divs : Nat → Nat → Nat
  | 0, a => a
  | k + 1, a => div2 (divs k a)
theorem muls_nan {a : Nat} (na : isNaN double a = false) (k : Nat) : isNaN double (muls k a) = false := by
  induction k with
  | zero => exact na
  | succ k ih => exact (mul2_bits ih).2
theorem divs_nan {a : Nat} (na : isNaN double a = false) (k : Nat) : isNaN double (divs k a) = false := by
  induction k with
  | zero => exact na
  | succ k ih => exact (div2_bits ih).2
theorem muls_succ' (k a : Nat) : muls k (mul2 a) = muls (k + 1) a := by
  induction k with
  | zero => rfl
  | succ k ih => show mul2 (muls k (mul2 a)) = _; rw [ih]; rfl
theorem divs_succ' (k a : Nat) : divs k (div2 a) = divs (k + 1) a := by
  induction k with
  | zero => rfl
  | succ k ih => show div2 (divs k (div2 a)) = _; rw [ih]; rfl
/-- times 2 to the power of e -/
def scale (a : Nat) (e : Int) : Nat := divs (-e).toNat (muls e.toNat a)
theorem scale_nan {a : Nat} (na : isNaN double a = false) (e : Int) : isNaN double (scale a e) = false := divs_nan (muls_nan na _) _
theorem ofInt_nan (n : Int) : isNaN double (floatOfInt .f64 n) = false := nearest_nan double _ _ _
theorem mul2_lt (a : Nat) (na : isNaN double a = false) : mul2 a < 18446744073709551616 := by
  have := double.mul_lt (mul2_bits na).1; rw [width_double] at this; exact this
theorem div2_lt (a : Nat) (na : isNaN double a = false) : div2 a < 18446744073709551616 := by
  have := double.div_lt (div2_bits na).1; rw [width_double] at this; exact this
theorem muls_lt {a : Nat} (ha : a < 18446744073709551616) (na : isNaN double a = false) (k : Nat) : muls k a < 18446744073709551616 := by
  cases k with
  | zero => exact ha
  | succ k => exact mul2_lt _ (muls_nan na k)
theorem divs_lt {a : Nat} (ha : a < 18446744073709551616) (na : isNaN double a = false) (k : Nat) : divs k a < 18446744073709551616 := by
  cases k with
  | zero => exact ha
  | succ k => exact div2_lt _ (divs_nan na k)
theorem scale_lt {a : Nat} (ha : a < 18446744073709551616) (na : isNaN double a = false) (e : Int) : scale a e < 18446744073709551616 := divs_lt (muls_lt ha na _) (muls_nan na _) _
theorem ofInt_lt (n : Int) : floatOfInt .f64 n < 18446744073709551616 := by
  have := floatOfInt_wf .f64 n; simpa [Lit.wf] using this

/-! narrowing -/
/-- a double that is some single, widened, is narrowed to it; what is narrowed to no single equals none -/
theorem mg_inf_single : mg single single.infRung = 8388608 * 2 ^ 254 := by
  unfold mg
  rw [if_neg (by decide), show single.infRung % single.binade = 0 by decide, show single.infRung / single.binade - 1 = 254 by decide, binade_single, Nat.add_zero]
theorem narrow_widen {x : Nat} (hx : x < 2 ^ single.width) (nx : isNaN single x = false) : floatToFloatBits .f64 (widen x) .f32 = some x := by
  have hl := inf_lt single
  unfold isNaN at nx
  have nx := of_decide_eq_false nx
  unfold floatToFloatBits
  rw [if_neg (by decide)]
  have hdec : FloatKind.f64.decode (widen x) = double.read (widen x) := rfl
  rw [hdec]
  by_cases hf : rung single x < single.infRung
  · have hrw : rung double (widen x) = wr (rung single x) := by rw [rung_widen, if_pos hf]
    obtain ⟨w1, w2⟩ := wr_spec hf
    rcases reads double hd (widen x) with ⟨m, e, hr, hm, h⟩ | ⟨hr, _⟩ | ⟨t, hr, _⟩
    · rw [h]
      have hn : FloatKind.f32.encode (.number (sgn double (widen x)) m (double.leastPlace + (e : Int))) = x := by
        show single.nearest _ _ _ = _
        rw [nearest_exact single _ _ _ (rung single x) (Nat.le_of_lt hf), sgn_widen, ← word_eq single hx]
        rw [hrw, w2] at hm
        rw [least_single, least_double]
        by_cases he : e ≤ W
        · rw [show (-1074 + (e : Int) - -149).toNat = 0 by rw [W_eq] at he; omega, show (-149 - (-1074 + (e : Int))).toNat = W - e by rw [W_eq] at *; omega]
          have : m * 2 ^ e = (mg single (rung single x) * 2 ^ (W - e)) * 2 ^ e := by rw [hm, Nat.mul_assoc, ← Nat.pow_add, Nat.sub_add_cancel he]
          rw [Nat.eq_of_mul_eq_mul_right (Nat.two_pow_pos _) this]; simp
        · rw [show (-1074 + (e : Int) - -149).toNat = e - W by rw [W_eq] at *; omega, show (-149 - (-1074 + (e : Int))).toNat = 0 by rw [W_eq] at he; omega]
          have : (m * 2 ^ (e - W)) * 2 ^ W = mg single (rung single x) * 2 ^ W := by rw [← hm, Nat.mul_assoc, ← Nat.pow_add, Nat.sub_add_cancel (by omega)]
          rw [Nat.eq_of_mul_eq_mul_right (Nat.two_pow_pos _) this]; simp
      simp only [hn]
      have hi : (FloatKind.f32.decode x).isInfinity = false := by
        show (single.read x).isInfinity = false
        rw [word_eq single hx]; exact isInf_read single hs _ hf
      rw [hi]; rfl
    · omega
    · omega
  · have hx' : rung single x = single.infRung := by omega
    have hrw : rung double (widen x) = double.infRung := by rw [rung_widen, if_neg hf]
    rcases reads double hd (widen x) with ⟨m, e, hr, hm, h⟩ | ⟨hr, h⟩ | ⟨t, hr, _⟩
    · omega
    · rw [h]
      show some (single.word (sgn double (widen x)) single.infRung) = some x
      rw [sgn_widen, ← hx', ← word_eq single hx]
    · omega
/-- where narrowing is told, the widened answer equals the number exactly if the number is a widened one -/
theorem narrow_none {a : Nat} (na : isNaN double a = false) (ha : a < 18446744073709551616) (h : floatToFloatBits .f64 a .f32 = none) {x : Nat} (hx : x < 2 ^ single.width) (nx : isNaN single x = false) : eqW double (widen x) a = false := by
  have ha' : a < 2 ^ double.width := by rw [width_double]; exact ha
  unfold eqW
  rw [isNaN_widen, na]
  simp only [Bool.not_false, Bool.true_and]
  refine decide_eq_false fun e => ?_
  by_cases h0 : rung double (widen x) = 0
  · have h1 : rung double a = 0 := (sv_eq_zero _).1 (by rw [← e]; exact (sv_eq_zero _).2 h0)
    rcases zeros64 ha h1 with rfl | rfl
    · exact absurd h (by decide)
    · exact absurd h (by decide)
  · have := sv_inj double (widen_lt x) ha' h0 e
    rw [← this, narrow_widen hx nx] at h; cases h
theorem floatToFloat_lt {a x : Nat} (h : floatToFloatBits .f64 a .f32 = some x) (ha : (Lit.float .f64 a).wf = true) : x < 4294967296 := by
  have := floatToFloatBits_wf ha h; simpa [Lit.wf] using this
theorem narrow_nan {a x : Nat} (h : floatToFloatBits .f64 a .f32 = some x) : isNaN single x = false := by
  unfold floatToFloatBits at h
  rw [if_neg (by decide)] at h
  split at h
  · cases h
  · cases h; exact write_nan single _ rfl
  · split at h
    · cases h
    · cases h; exact write_nan single _ rfl
theorem wf_double {a : Nat} (h : a < 18446744073709551616) : (Lit.float .f64 a).wf = true := by simpa [Lit.wf] using h
theorem lt_double {a : Nat} (w : (Lit.float .f64 a).wf = true) : a < 18446744073709551616 := by simpa [Lit.wf] using w
end Go.Proofs.Ytkjjeccgmeiniaa.Flt
