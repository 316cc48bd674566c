/- The contract of package math's Mod, at a whole number and 2. -/
import Derived.Test.YtlngplohnknhjaaGreatDoorKMod
import Derived.Test.YtlngplohnknhjaaGreatDoorPkB
namespace Go.Proofs.YtlngplohnknhjaaGreatDoor.Mth
open Go.ChangeShapes Go.WideShapes Go.ChangeAt Go.RowKit Go.Proofs.YtlngplohnknhjaaGreatDoor Go.Proofs.YtlngplohnknhjaaGreatDoor.Flt
set_option linter.unusedVariables false
def bitsOf : Value → Nat | .float _ b => b | _ => 0
/-- what is left of m * 2 ^ q modulo 2 -/
def ModOut (m q : Nat) (w : World) (e : Ending) (w' : World) : Prop := ∃ n, e = .returned (.float .f64 (A n q)) ∧ n ≤ m ∧ n * 2 ^ q < 2 ^ 150 ∧ (q = 149 → n % 2 = m % 2) ∧ w' = w
theorem ge_two (m q : Nat) (hm : m < 16777216) (hq : q ≤ 400) : (FloatKind.f64.format.order (A m q) 4611686018427387904 == some .gt) = decide (2 ^ 150 < m * 2 ^ q) ∧ (FloatKind.f64.format.order (A m q) 4611686018427387904 == some .eq) = decide (m * 2 ^ q = 2 ^ 150) := by
  have := A_cmp (m := m) (q := q) (n := 150) (by omega) (by omega) (show 4611686018427387904 < 9218868437227405312 by decide) c2
  exact ⟨by rw [gt64]; exact this.2.1, by rw [eq64]; exact this.2.2⟩
theorem neg_no (m q : Nat) (hm : m < 16777216) (hq : q ≤ 400) : (FloatKind.f64.format.order (A m q) 0 == some .lt) = false := by
  rw [lt64]; unfold ltW
  rw [nan_A (by omega) (by omega), nan_zero, sv_zero, sv_A (by omega) (by omega)]
  simp only [Bool.not_false, Bool.true_and]
  exact decide_eq_false (by omega)
set_option maxHeartbeats 1600000 in
theorem mod_any (m q : Nat) (w : World) (hm : m < 16777216) (hq0 : 149 ≤ q) (hq : q ≤ 400) :
    Calls Tryz.prog 126 #[.float .f64 (A m q), .float .f64 4611686018427387904] w (ModOut m q w) := by
  obtain ⟨e1, e2, e3, e4, l1, l2, l3⟩ := pos_facts two_facts.1 two_facts.2.1
  have nx := nan_A (m := m) (q := q) (by omega) (by omega)
  have fx : isFinD (A m q) = true := by unfold isFinD; rw [rung_A (by omega) (by omega)]; exact decide_eq_true (A_spec (by omega) (by omega)).1
  have lx := A_lt (m := m) (q := q) (by omega) (by omega)
  have ng := neg_no m q hm hq
  have hxw : A m q < 18446744073709551616 := by omega
  have E1 := Lib.hid e1
  clear l1 l3 e1 e2 e4
  go_enter Tryz.func126, Tryz.ntmps126
  go_wp2_with fail
  refine (isInf_any _ _ hxw nx).mono ?_
  rintro e w' ⟨rfl, rfl⟩
  go_wp2_with fail
  refine (isNaN_any _ _).mono ?_
  rintro e w' ⟨rfl, rfl⟩
  go_wp2_with fail
  refine (isNaN_any _ _).mono ?_
  rintro e w' ⟨rfl, rfl⟩
  go_wp2_with fail
  refine (abs_any _ _ (by decide)).mono ?_
  rintro e w' ⟨rfl, rfl⟩
  rw [E1.out]
  go_wp2_with fail
  refine (Frexp_any 4611686018427387904 1024 0 4602678819172646912 _ two_facts.1 two_facts.2.1 two_facts.2.2.1 two_facts.2.2.2.1 two_facts.2.2.2.2).mono ?_
  rintro e w' ⟨rfl, rfl⟩
  go_wp2_with fail
  clear nx fx lx hxw
  go_loop [7] (fun rv => ∃ n : Nat, n ≤ m ∧ (q = 149 → n % 2 = m % 2) ∧ rv = .float .f64 (A n q)) (fun rv => bitsOf rv)
  case atStart => exact ⟨m, Nat.le_refl _, fun _ => rfl, rfl⟩
  case round =>
    obtain ⟨n, hn, hpar, rfl⟩ := hrel
    obtain ⟨g1, g2⟩ := ge_two n q (by omega) hq
    by_cases hlt : n * 2 ^ q < 2 ^ 150
    · rw [decide_eq_false (by omega)] at g1
      rw [decide_eq_false (by omega)] at g2
      have Hlt := Lib.hid hlt
      have Hpar := Lib.hid hpar
      clear hlt hpar
      go_wp2_with fail
      go_ret
      exact ⟨n, rfl, hn, Hlt.out, Hpar.out, rfl⟩
    · have hn0 : 0 < n := by
        refine Nat.pos_of_ne_zero fun h => hlt ?_
        rw [h, Nat.zero_mul]; exact Nat.two_pow_pos _
      obtain ⟨a1, a2, a3, a4, a5⟩ := A_parts (m := n) (q := q) hn0 (by omega) (by omega)
      have hstep : q = 149 → (n - 2 ^ n.log2) % 2 = m % 2 := by
        intro h149
        have h2 : 2 ≤ n := by
          subst h149
          have : 2 * 2 ^ 149 ≤ n * 2 ^ 149 := by
            have e : 2 * 2 ^ 149 = 2 ^ 150 := by decide
            omega
          exact Nat.le_of_mul_le_mul_right this (Nat.two_pow_pos _)
        have hl := log2_even h2
        have := hpar h149
        omega
      have hle : 2 ^ n.log2 ≤ n := Nat.log2_self_le (by omega)
      have hpos : 0 < 2 ^ n.log2 := Nat.two_pow_pos _
      have hsub := sub_A (m := n) (n := 2 ^ n.log2) (q := q) (by omega) (by omega) hle
      have hmono := A_mono (m := n) (n := n - 2 ^ n.log2) (q := q) (by omega) (by omega) (by omega)
      have ksub := run_float_arith (P := Tryz.prog) w' .sub 60 .f64 _ _ _ hsub
      obtain ⟨p, hp⟩ : ∃ p, p = A (2 ^ n.log2) q := ⟨_, rfl⟩
      obtain ⟨E, hE⟩ : ∃ E, E = A n q / 4503599627370496 := ⟨_, rfl⟩
      obtain ⟨f, hf⟩ : ∃ f, f = A n q % 4503599627370496 := ⟨_, rfl⟩
      obtain ⟨g, hg⟩ : ∃ g, g = 4602678819172646912 + f := ⟨_, rfl⟩
      have hlg := lt_false (a := g) (b := 4602678819172646912) (by omega) (by omega) (by omega)
      rw [← hp] at ksub a5
      rw [← hE] at a3 a4 a5
      have Hrel := Lib.hid (And.intro (show n - 2 ^ n.log2 ≤ m by omega) hstep)
      have Hm := Lib.hid hmono
      have HE := Lib.hid hE
      have Hf := Lib.hid hf
      have Hg := Lib.hid hg
      have H5 := Lib.hid a5
      clear hp hE hf hg a5 hsub hle hpos hstep hpar hmono
      generalize hd : A (n - 2 ^ n.log2) q = d at *
      have Hd := Lib.hid hd
      clear hd
      by_cases heq : n * 2 ^ q = 2 ^ 150
      · rw [decide_eq_false (by omega)] at g1
        rw [decide_eq_true heq] at g2
        clear heq hlt
        go_wp2_with fail
        refine (Frexp_any _ E f g _ a1 a2 HE.out Hf.out Hg.out).mono ?_
        rintro e w2 ⟨rfl, rfl⟩
        go_wp2_with fail
        refine (Ldexp_any _ E p _ (by omega) a3 a4 H5.out.symm).mono ?_
        rintro e w2 ⟨rfl, rfl⟩
        go_wp2_with fail
        go_round
        case rel => exact ⟨_, Hrel.out.1, Hrel.out.2, by rw [Hd.out]⟩
        case measure => exact Hm.out
      · rw [decide_eq_true (by omega)] at g1
        rw [decide_eq_false heq] at g2
        clear heq hlt
        go_wp2_with fail
        refine (Frexp_any _ E f g _ a1 a2 HE.out Hf.out Hg.out).mono ?_
        rintro e w2 ⟨rfl, rfl⟩
        go_wp2_with fail
        refine (Ldexp_any _ E p _ (by omega) a3 a4 H5.out.symm).mono ?_
        rintro e w2 ⟨rfl, rfl⟩
        go_wp2_with fail
        go_round
        case rel => exact ⟨_, Hrel.out.1, Hrel.out.2, by rw [Hd.out]⟩
        case measure => exact Hm.out
theorem Mod_any (m q : Nat) (w : World) (hm : m < 16777216) (hq0 : 149 ≤ q) (hq : q ≤ 400) :
    Calls Tryz.prog 108 #[.float .f64 (A m q), .float .f64 4611686018427387904] w (ModOut m q w) := by
  go_enter Tryz.func108, Tryz.ntmps108
  go_wp2_with fail
  refine (mod_any m q _ hm hq0 hq).mono ?_
  rintro e w' ⟨n, rfl, h1, h2, h3, rfl⟩
  have H2 := Lib.hid h2
  have H3 := Lib.hid h3
  clear h2 h3
  go_wp2_with fail
  go_ret
  exact ⟨n, rfl, h1, H2.out, H3.out, rfl⟩
end Go.Proofs.YtlngplohnknhjaaGreatDoor.Mth
