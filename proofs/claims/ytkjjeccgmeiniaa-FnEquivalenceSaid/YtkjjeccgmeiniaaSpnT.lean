/- The next single in the model: l07Parts, l07Made, NextUp of a finite single whose next one is finite. -/
import Derived.Test.YtkjjeccgmeiniaaSpnQ
import Derived.Test.YtkjjeccgmeiniaaSpnI
import Derived.Test.YtkjjeccgmeiniaaFltG
import Derived.Laws.FloatArith
namespace Go.Proofs.Ytkjjeccgmeiniaa.Flt
end Go.Proofs.Ytkjjeccgmeiniaa.Flt
namespace Go.Proofs.Ytkjjeccgmeiniaa.Mth
end Go.Proofs.Ytkjjeccgmeiniaa.Mth
namespace Go.Proofs.Ytkjjeccgmeiniaa.Spn
open Go.ChangeShapes Go.WideShapes Go.ChangeAt Go.RowKit Go.Deep Go.Proofs.Ytkjjeccgmeiniaa Go.Proofs.Ytkjjeccgmeiniaa.Flt Go.Proofs.Ytkjjeccgmeiniaa.Mth
open Ieee (single double)
set_option linter.unusedVariables false
set_option linter.unusedSimpArgs false
set_option maxRecDepth 20000
theorem c24 : mg Ieee.double 4715268809856909312 = 2 ^ (W + 173) := mg_const (by decide) (by decide) (by decide)
theorem c23 : mg Ieee.double 4710765210229538816 = 2 ^ (W + 172) := mg_const (by decide) (by decide) (by decide)
theorem pw (s p : Nat) (h : s < 16777216) (hp : p ≤ 148) : s * 2 ^ p < 2 ^ 172 := by
  have h1 : 2 ^ p ≤ 2 ^ 148 := Nat.pow_le_pow_right (by omega) hp
  calc s * 2 ^ p ≤ s * 2 ^ 148 := Nat.mul_le_mul_left _ h1
    _ < 16777216 * 2 ^ 148 := Nat.mul_lt_mul_of_pos_right h (Nat.two_pow_pos _)
    _ = 2 ^ 172 := by decide
theorem pw' (s p : Nat) (h : s < 16777216) (hp : p ≤ 149) : s * 2 ^ p < 2 ^ 173 := by
  have h1 : 2 ^ p ≤ 2 ^ 149 := Nat.pow_le_pow_right (by omega) hp
  calc s * 2 ^ p ≤ s * 2 ^ 149 := Nat.mul_le_mul_left _ h1
    _ < 16777216 * 2 ^ 149 := Nat.mul_lt_mul_of_pos_right h (Nat.two_pow_pos _)
    _ = 2 ^ 173 := by decide
theorem pg (s p : Nat) (h : 8388608 ≤ s) (hp : 150 ≤ p) : 2 ^ 173 ≤ s * 2 ^ p := by
  have h1 : 2 ^ 150 ≤ 2 ^ p := Nat.pow_le_pow_right (by omega) hp
  calc 2 ^ 173 = 8388608 * 2 ^ 150 := by decide
    _ ≤ s * 2 ^ 150 := Nat.mul_le_mul_right _ h
    _ ≤ s * 2 ^ p := Nat.mul_le_mul_left _ h1
theorem pg' (s : Nat) (h : 8388608 ≤ s) : 2 ^ 172 ≤ s * 2 ^ 149 := by
  calc 2 ^ 172 = 8388608 * 2 ^ 149 := by decide
    _ ≤ s * 2 ^ 149 := Nat.mul_le_mul_right _ h
/-- the tests of the two loops -/
theorem t24 (s p : Nat) (h : s < 16777216) (hp : p ≤ 400) : (FloatKind.f64.format.order (A s p) 4715268809856909312 == some .gt || FloatKind.f64.format.order (A s p) 4715268809856909312 == some .eq) = decide (2 ^ 173 ≤ s * 2 ^ p) := by
  have := A_cmp (m := s) (q := p) (n := 173) (by omega) (by omega) (show 4715268809856909312 < 9218868437227405312 by decide) c24
  rw [gt64, eq64, this.2.1, this.2.2, Bool.eq_iff_iff]
  generalize s * 2 ^ p = u
  generalize 2 ^ 173 = v
  simp
  omega
theorem t23 (s p : Nat) (h : s < 16777216) (hp : p ≤ 400) : (FloatKind.f64.format.order (A s p) 4710765210229538816 == some .lt) = decide (s * 2 ^ p < 2 ^ 172) := by
  have := A_cmp (m := s) (q := p) (n := 172) (by omega) (by omega) (show 4710765210229538816 < 9218868437227405312 by decide) c23
  rw [lt64]; exact this.1
theorem run_up {m p : Nat} (hm : m < 9007199254740992) (hp : p + 1 ≤ 1000) (w : World) : (binOp .mul 44 (.float .f64 (A m p)) (.float .f64 4611686018427387904)).run Try.prog w = .ok (.float .f64 (A m (p + 1))) w := by
  have h := (mul2_bits (nan_A (m := m) (q := p) hm (by omega))).1
  rw [mul2_A hm hp] at h
  exact run_float_arith (P := Try.prog) w .mul 44 .f64 _ _ _ h
theorem run_dn {m p : Nat} (hm : m < 9007199254740992) (hp : p + 1 ≤ 1000) (w : World) : (binOp .quo 44 (.float .f64 (A m (p + 1))) (.float .f64 4611686018427387904)).run Try.prog w = .ok (.float .f64 (A m p)) w := by
  have h := (div2_bits (nan_A (m := m) (q := p + 1) hm (by omega))).1
  rw [div2_A hm hp] at h
  exact run_float_arith (P := Try.prog) w .quo 44 .f64 _ _ _ h
theorem run_ofint {m : Nat} (hm : m < 9007199254740992) (w : World) : (convert 3 44 (.int .i64 (m : Int))).run Try.prog w = .ok (.float .f64 (A m 149)) w := by
  have h : (convert 3 44 (.int .i64 (m : Int))).run Try.prog w = .ok (.float .f64 (floatOfInt .f64 (m : Int))) w := by
    simp [convert, run_underlying Try.underlying3, run_underlying Try.underlying44, Conv.intToFloat]
    rfl
  rw [h, ofIntA hm]
set_option maxHeartbeats 800000 in
theorem made_any (m q R : Nat) (w : World) (hm : m ≤ 16777216) (hq : q ≤ 300) (hR : R < single.infRung) (h : mg single R = m * 2 ^ q) :
    Calls Try.prog 43 #[.int .i64 (m : Int), .int .i64 ((q : Int) - 149)] w fun e w' => e = .returned (.float .f32 R) ∧ w' = w := by
  obtain ⟨n1, n2, n3⟩ := made_nrw hm hq hR h
  have kn := run_convert_float_float (P := Try.prog) w 44 31 .f64 .f32 _ _ (by rw [Try.underlying44]; rfl) Try.underlying31 n3
  have Kn := Lib.hid kn
  have ki := run_ofint (m := m) (by omega)
  have ku := Lib.hid (fun p hp w => run_up (m := m) (p := p) (by omega) hp w)
  have kd := Lib.hid (fun p hp w => run_dn (m := m) (p := p) (by omega) hp w)
  clear n1 n2 n3 h hR kn
  obtain ⟨E, hE⟩ : ∃ E : Int, E = (q : Int) - 149 := ⟨_, rfl⟩
  rw [← hE]
  have He := Lib.hid hE
  have hE1 : E ≤ 151 := by omega
  have hE2 : -149 ≤ E := by omega
  clear hE
  go_enter Try.func43, Try.ntmps43
  go_wp2_with fail
  go_loop [5, 6] (fun av kv => ∃ k : Nat, (k : Int) ≤ max E 0 ∧ kv = .int .i64 k ∧ av = .float .f64 (A m (149 + k))) (fun _ kv => (E - intOf kv).toNat)
  case atStart => exact ⟨0, by omega, rfl, rfl⟩
  case round =>
    obtain ⟨k, hk, rfl, rfl⟩ := hrel
    by_cases hlt : (k : Int) < E
    · have hmul := ku.out (149 + k) (by omega) w
      go_wp2_with fail
      go_round
      case rel => exact ⟨k + 1, by omega, by go_num, rfl⟩
      case measure => simp [intOf]; omega
    · have Hke := Lib.hid (show k = E.toNat by omega)
      have hkk : k ≤ 151 := by omega
      clear hk
      go_wp2_with fail
      go_loop [5, 7] (fun av kv => ∃ j : Nat, (j : Int) ≤ max (-E) 0 ∧ kv = .int .i64 (-(j : Int)) ∧ av = .float .f64 (A m (149 + k - j))) (fun _ kv => (intOf kv - E).toNat)
      case atStart => exact ⟨0, by omega, rfl, rfl⟩
      case round =>
        obtain ⟨j, hj, rfl, rfl⟩ := hrel
        by_cases hlt2 : E < -(j : Int)
        · have hj1 : 1 ≤ 149 + k - j := by omega
          have hdiv := kd.out (149 + k - j - 1) (by omega) w
          rw [show 149 + k - j - 1 + 1 = 149 + k - j by omega] at hdiv
          have hs : 149 + k - j - 1 = 149 + k - (j + 1) := by omega
          rw [hs] at hdiv
          clear hs
          go_wp2_with fail
          go_round
          case rel => exact ⟨j + 1, by omega, by congr 1; omega, rfl⟩
          case measure => simp [intOf]; omega
        · have hqq : 149 + k - j = q := by have := He.out; have := Hke.out; omega
          have kn := Kn.out
          rw [hqq]
          clear hqq hj
          generalize A m q = v at *
          go_wp2_with fail
          go_ret
          exact ⟨rfl, rfl⟩
set_option maxHeartbeats 800000 in
theorem parts_any (s q : Nat) (w : World) (hs : s < 16777216) (hq : q ≤ 253) (hge : 0 < q → 8388608 ≤ s) :
    Calls Try.prog 44 #[.float .f64 (A s q)] w fun e w' => e = .returned (.tuple #[.int .i64 (s : Int), .int .i64 ((q : Int) - 149)]) ∧ w' = w := by
  have ku := Lib.hid (fun p hp w => run_up (m := s) (p := p) (by omega) hp w)
  have kd := Lib.hid (fun p hp w => run_dn (m := s) (p := p) (by omega) hp w)
  have kc := Lib.hid (run_convert_float_int (P := Try.prog) w 44 3 .f64 .i64 _ _ (by rw [Try.underlying44]; rfl) Try.underlying3 (toInt_A (m := s) (by omega)))
  have T24 := Lib.hid (fun p hp => t24 s p hs hp)
  have T23 := Lib.hid (fun p hp => t23 s p hs hp)
  have Pw := Lib.hid (fun p hp => pw s p hs hp)
  have Pw' := Lib.hid (fun p hp => pw' s p hs hp)
  have Pg := Lib.hid (fun p hp => fun h : 8388608 ≤ s => pg s p h hp)
  have Pg' := Lib.hid (fun h : 8388608 ≤ s => pg' s h)
  have Hge := Lib.hid hge
  clear hge
  go_enter Try.func44, Try.ntmps44
  go_wp2_with fail
  go_loop [0, 4] (fun av kv => ∃ k : Nat, k ≤ q - 149 ∧ kv = .int .i64 k ∧ av = .float .f64 (A s (q - k))) (fun _ kv => (q - (intOf kv).toNat))
  case atStart => exact ⟨0, Nat.zero_le _, rfl, rfl⟩
  case round =>
    obtain ⟨k, hk, rfl, rfl⟩ := hrel
    have ht := T24.out (q - k) (by omega)
    by_cases hlt : 150 ≤ q - k
    · rw [decide_eq_true (Pg.out (q - k) hlt (Hge.out (by omega)))] at ht
      have hdiv := kd.out (q - (k + 1)) (by omega) w
      rw [show q - (k + 1) + 1 = q - k by omega] at hdiv
      go_wp2_with fail
      go_round
      case rel => exact ⟨k + 1, by omega, by go_num, rfl⟩
      case measure => simp [intOf]; omega
    · rw [decide_eq_false (by have := Pw'.out (q - k) (by omega); omega)] at ht
      have Hk := Lib.hid (show q - k = min q 149 ∧ (k : Int) = (q : Int) - ((min q 149 : Nat) : Int) by omega)
      go_wp2_with fail
      clear ht
      go_loop [0, 4] (fun av kv => ∃ p : Nat, p ≤ 149 ∧ kv = .int .i64 ((q : Int) - (p : Int)) ∧ av = .float .f64 (A s p)) (fun _ kv => (149 - ((q : Int) - intOf kv)).toNat)
      case atStart => exact ⟨min q 149, by omega, by rw [Hk.out.2], by rw [Hk.out.1]⟩
      case round =>
        obtain ⟨p, hp, rfl, rfl⟩ := hrel
        have ht := T23.out p (by omega)
        by_cases hlt2 : p ≤ 148
        · rw [decide_eq_true (Pw.out p hlt2)] at ht
          have hmul := ku.out p (by omega) w
          have he : (-149 : Int) < (q : Int) - (p : Int) := by omega
          go_wp2_with fail
          go_round
          case rel => exact ⟨p + 1, by omega, by congr 1; omega, rfl⟩
          case measure => simp [intOf]; omega
        · obtain rfl : p = 149 := by omega
          have kc := kc.out
          generalize A s 149 = v at *
          by_cases h0 : 0 < q
          · rw [decide_eq_false (by have := Pg'.out (Hge.out h0); omega)] at ht
            go_wp2_with fail
            go_ret2
            exact ⟨rfl, rfl⟩
          · have he : ¬ (-149 : Int) < (q : Int) - ((149 : Nat) : Int) := by omega
            cases hb : decide (s * 2 ^ 149 < 2 ^ 172)
            all_goals
              rw [hb] at ht
              clear hb
              go_wp2_with fail
              go_ret2
              exact ⟨rfl, rfl⟩
/-- of a finite single whose next one is finite the model's NextUp gives the next one -/
theorem inf_quo (w : World) : (binOp .quo 31 (.float .f32 1065353216) (.float .f32 0)).run Try.prog w = .ok (.float .f32 2139095040) w :=
  run_float_arith (P := Try.prog) w .quo 31 .f32 _ _ _ (by decide +kernel)
theorem ninf_quo (w : World) : (binOp .quo 31 (.float .f32 3212836864) (.float .f32 0)).run Try.prog w = .ok (.float .f32 4286578688) w :=
  run_float_arith (P := Try.prog) w .quo 31 .f32 _ _ _ (by decide +kernel)
theorem mg1 : mg single 1 = 1 * 2 ^ 0 := by decide
theorem fin_ne {x y : Nat} (hx : fnS x = true) (hy : rung single y = single.infRung) : (FloatKind.f32.format.order x y == some .eq) = false := by
  rw [eq32]
  unfold eqW
  have h1 := (mg_lt_iff single).2 (fnS_iff.1 hx)
  have e : sv single x ≠ sv single y := by
    rcases sv_cases x with ⟨_, e1⟩ | ⟨_, e1⟩ <;> rcases sv_cases y with ⟨_, e2⟩ | ⟨_, e2⟩ <;> rw [hy] at e2 <;> omega
  rw [decide_eq_false e, Bool.and_false]
theorem ord_gt {x : Nat} (hx : isNaN single x = false) (h0 : rung single x ≠ 0) : (FloatKind.f32.format.order x 0 == some .gt) = !sgn single x := by
  rw [gt32]
  unfold ltW
  rw [hx, nan_zero, sv_zero]
  have mp : 0 < mg single (rung single x) := Nat.pos_of_ne_zero fun e => h0 ((mg_eq_zero single).1 e)
  rcases sv_cases x with ⟨hs, e⟩ | ⟨hs, e⟩
  · rw [e, hs]
    simp only [Bool.not_false, Bool.true_and]
    exact decide_eq_true (by omega)
  · rw [e, hs]
    simp only [Bool.not_false, Bool.true_and, Bool.not_true]
    exact decide_eq_false (by omega)
theorem run_wid' {x : Nat} (h : isNaN single x = false) (w : World) : (convert 31 44 (.float .f32 x)).run Try.prog w = .ok (.float .f64 (widen x)) w :=
  run_widen (P := Try.prog) 31 44 x (by rw [Try.underlying31]; rfl) Try.underlying44 h w
set_option maxHeartbeats 1600000 in
theorem spec_next (x : Nat) (w : World) (wx : x < 4294967296) (hx : fnS x = true) (hy : fnS (nuW x) = true) :
    Calls Try.prog 27 #[.float .f32 x] w fun e w' => e = .returned (.float .f32 (nuW x)) ∧ w' = w := by
  have nx := fn_num hx
  have hr := fnS_iff.1 hx
  have q1 := inf_quo
  have q2 := ninf_quo
  have hself : (FloatKind.f32.format.order x x != some .eq) = false := by rw [ne32, eqW_self, nx]; rfl
  have o1 : (FloatKind.f32.format.order x 2139095040 == some .eq) = false := fin_ne hx (by decide)
  have o2 : (FloatKind.f32.format.order x 4286578688 == some .eq) = false := fin_ne hx (by decide)
  have oz : (FloatKind.f32.format.order x 0 == some .eq) = decide (rung single x = 0) := by rw [eq32, eqW_zero _ nx]
  by_cases h0 : rung single x = 0
  · rw [decide_eq_true h0] at oz
    have en : nuW x = 1 := by
      unfold nuW
      rw [h0]
      cases hs : sgn single x
      · rw [if_pos rfl, if_neg (by rw [inf_single]; omega)]; rfl
      · rw [if_neg (by simp), if_pos rfl]; rfl
    rw [en]
    have hm := fun w => made_any 1 0 1 w (by omega) (by omega) (by rw [inf_single]; omega) mg1
    rw [show ((0 : Nat) : Int) - 149 = -149 from rfl, show ((1 : Nat) : Int) = 1 from rfl] at hm
    clear h0 en hx hy nx hr wx
    go_enter Try.func27, Try.ntmps27
    go_wp2_with fail
    refine (hm _).mono ?_
    rintro e w9 ⟨rfl, hw9⟩
    subst w9
    go_wp2_with fail
    go_ret
    exact ⟨rfl, rfl⟩
  · rw [decide_eq_false h0] at oz
    have hxi : ¬ (sgn single x = false ∧ rung single x = single.infRung) := fun e => by omega
    have og := (ord_gt nx h0)
    have hs24 := ss_single (rung single x)
    have hq := qq_lt_single hr
    have hge := fun h => ss_single_ge (r := rung single x) h
    have hw : rung single x < single.signWeight := Nat.lt_trans hr (inf_lt single)
    cases hs : sgn single x
    · rw [hs, Bool.not_false] at og
      have en : nuW x = rung single x + 1 := by unfold nuW; rw [if_pos hs, if_neg (by omega)]; rfl
      have hlt : rung single x + 1 < single.infRung := by
        have h := fnS_iff.1 hy
        rw [en] at h
        have : rung single (rung single x + 1) = rung single x + 1 := by
          have h2 := inf_lt single
          unfold rung at *
          exact Nat.mod_eq_of_lt (by omega)
        omega
      rw [en]
      have hp := fun w => parts_any (ss single (rung single x)) (qq single (rung single x)) w hs24 hq hge
      have hm := fun w => made_any (ss single (rung single x) + 1) (qq single (rung single x)) (rung single x + 1) w (by omega) (by omega) hlt (mg_next _)
      have kw := run_wid' nx
      have ew : widen x = A (ss single (rung single x)) (qq single (rung single x)) := by rw [widen_A hr, hs]; rfl
      rw [ew] at kw
      clear h0 en hx hy nx hr wx hxi hge hw hs hlt ew hq
      generalize A (ss single (rung single x)) (qq single (rung single x)) = v at *
      generalize ss single (rung single x) = s at *
      generalize qq single (rung single x) = q at *
      generalize rung single x + 1 = R at *
      go_enter Try.func27, Try.ntmps27
      go_wp2_with fail
      refine (hp _).mono ?_
      rintro e w9 ⟨rfl, hw9⟩
      subst w9
      go_wp2_with fail
      refine (hm _).mono ?_
      rintro e w9 ⟨rfl, hw9⟩
      subst w9
      go_wp2_with fail
      go_ret
      exact ⟨rfl, rfl⟩
    · rw [hs, Bool.not_true] at og
      have h1r : 1 ≤ rung single x := by omega
      obtain ⟨p1, p2, p3, p4⟩ := mg_prev h1r
      have wn := ng_lt wx
      have nn : isNaN single (Op.negFloat .f32 x) = false := by rw [ng_num wx]; exact nx
      have rn := ng_rung wx
      have sn := ng_sgn wx
      rw [hs, Bool.not_true] at sn
      have kw := run_wid' nn
      have ew : widen (Op.negFloat .f32 x) = A (ss single (rung single x)) (qq single (rung single x)) := by
        rw [widen_A (by rw [rn]; exact hr), sn, rn]; rfl
      rw [ew] at kw
      have hp := fun w => parts_any (ss single (rung single x)) (qq single (rung single x)) w hs24 hq hge
      have hs' : ¬ sgn single x = false := by rw [hs]; simp
      by_cases c1 : rung single x = 1
      · have en : nuW x = 0 := by unfold nuW; rw [if_neg hs', if_neg h0, if_pos c1]
        rw [en]
        have e1 : ss single (rung single x) = 1 := by rw [c1]; decide
        rw [e1] at hp kw
        generalize qq single (rung single x) = q at *
        generalize A 1 q = v at *
        have hp' : ∀ w, Calls Try.prog 44 #[.float .f64 v] w fun e w' => e = .returned (.tuple #[.int .i64 1, .int .i64 ((q : Int) - 149)]) ∧ w' = w := hp
        clear h0 en hx hy nx hr wx hxi hge hw hs ew hq hs24 hs' c1 p1 p2 p3 p4 wn nn rn sn e1 h1r hp
        go_enter Try.func27, Try.ntmps27
        go_wp2_with fail
        refine (hp' _).mono ?_
        rintro e w9 ⟨rfl, hw9⟩
        subst w9
        go_wp2_with fail
        go_ret
        exact ⟨rfl, rfl⟩
      · have en : nuW x = single.word true (rung single x - 1) := by unfold nuW; rw [if_neg hs', if_neg h0, if_neg c1]
        have hd1 : dnS (rung single x) ≠ 1 := fun e => c1 (p2.1 e)
        have hqd : dnQ (rung single x) ≤ 300 := by unfold dnQ; split <;> omega
        have hm := fun w => made_any (dnS (rung single x) - 1) (dnQ (rung single x)) (rung single x - 1) w (by omega) hqd (by omega) p1
        have eng : Op.negFloat .f32 (rung single x - 1) = single.word true (rung single x - 1) := by
          have := ng_word false (q := rung single x - 1) (by omega)
          exact this
        rw [en, ← eng]
        have Hd := Lib.hid (And.intro hd1 p3)
        have edS : dnS (rung single x) = if ss single (rung single x) = 8388608 ∧ 0 < qq single (rung single x) then 16777216 else ss single (rung single x) := rfl
        have edQ : dnQ (rung single x) = if ss single (rung single x) = 8388608 ∧ 0 < qq single (rung single x) then qq single (rung single x) - 1 else qq single (rung single x) := rfl
        generalize dnS (rung single x) = S at *
        generalize dnQ (rung single x) = Q at *
        clear en eng p1 p2 p3 p4 hd1 hqd hx hy nx hr wx hxi hw hs ew hs' c1 wn nn rn sn h1r
        generalize A (ss single (rung single x)) (qq single (rung single x)) = v at *
        generalize rung single x - 1 = R at *
        generalize ss single (rung single x) = s at *
        generalize qq single (rung single x) = q at *
        by_cases c2 : s = 8388608 ∧ 0 < q
        · rw [if_pos c2] at edS edQ
          obtain ⟨c2, c3⟩ := c2
          subst edS edQ
          have c4 : (-149 : Int) < (q : Int) - 149 := by omega
          have hm' : ∀ w, Calls Try.prog 43 #[.int .i64 16777215, .int .i64 ((q : Int) - 149 - 1)] w fun e w' => e = .returned (.float .f32 R) ∧ w' = w := by
            intro w
            have h := hm w
            rw [show ((q - 1 : Nat) : Int) - 149 = (q : Int) - 149 - 1 by omega] at h
            exact h
          have hp' : ∀ w, Calls Try.prog 44 #[.float .f64 v] w fun e w' => e = .returned (.tuple #[.int .i64 8388608, .int .i64 ((q : Int) - 149)]) ∧ w' = w := by
            intro w
            have h := hp w
            rw [c2] at h
            exact h
          clear hm hp h0 hge hs24 c2 c3
          go_enter Try.func27, Try.ntmps27
          go_wp2_with fail
          refine (hp' _).mono ?_
          rintro e w9 ⟨rfl, hw9⟩
          subst w9
          go_wp2_with fail
          refine (hm' _).mono ?_
          rintro e w9 ⟨rfl, hw9⟩
          subst w9
          go_wp2_with fail
          go_ret
          exact ⟨rfl, rfl⟩
        · rw [if_neg c2] at edS edQ
          subst edS edQ
          have c5 : ¬ (S : Int) = 1 := by have := Hd.out.1; omega
          have hm' : ∀ w, Calls Try.prog 43 #[.int .i64 ((S : Int) - 1), .int .i64 ((Q : Int) - 149)] w fun e w' => e = .returned (.float .f32 R) ∧ w' = w := by
            intro w
            have h := hm w
            rw [show ((S - 1 : Nat) : Int) = (S : Int) - 1 by have := Hd.out.2; omega] at h
            exact h
          by_cases c6 : (S : Int) = 8388608
          · have c7 : ¬ (-149 : Int) < (Q : Int) - 149 := by omega
            have c8 : S = 8388608 := by omega
            have hm2 : ∀ w, Calls Try.prog 43 #[.int .i64 8388607, .int .i64 ((Q : Int) - 149)] w fun e w' => e = .returned (.float .f32 R) ∧ w' = w := by
              intro w
              have h := hm' w
              rw [c8] at h
              exact h
            have hp2 : ∀ w, Calls Try.prog 44 #[.float .f64 v] w fun e w' => e = .returned (.tuple #[.int .i64 8388608, .int .i64 ((Q : Int) - 149)]) ∧ w' = w := by
              intro w
              have h := hp w
              rw [c8] at h
              exact h
            clear hm hm' hp h0 hge c2 c6 c8 c5 hs24 Hd
            go_enter Try.func27, Try.ntmps27
            go_wp2_with fail
            refine (hp2 _).mono ?_
            rintro e w9 ⟨rfl, hw9⟩
            subst w9
            go_wp2_with fail
            refine (hm2 _).mono ?_
            rintro e w9 ⟨rfl, hw9⟩
            subst w9
            go_wp2_with fail
            go_ret
            exact ⟨rfl, rfl⟩
          · clear hm h0 hge c2
            go_enter Try.func27, Try.ntmps27
            go_wp2_with fail
            refine (hp _).mono ?_
            rintro e w9 ⟨rfl, hw9⟩
            subst w9
            go_wp2_with fail
            refine (hm' _).mono ?_
            rintro e w9 ⟨rfl, hw9⟩
            subst w9
            go_wp2_with fail
            go_ret
            exact ⟨rfl, rfl⟩
end Go.Proofs.Ytkjjeccgmeiniaa.Spn
