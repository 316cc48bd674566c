/- ReadDecimal in the model. -/
import Derived.Test.YtgfeahammmfdaaaDecR
namespace Go.Proofs.Ytgfeahammmfdaaa.Dec
open Go.ChangeShapes Go.WideShapes Go.ChangeAt Go.RowKit Go.Proofs.Ytgfeahammmfdaaa Go.Proofs.Ytgfeahammmfdaaa.Flt
set_option linter.unusedVariables false
def Res (s : ByteArray) (w : World) (e : Ending) (w' : World) : Prop := e = .returned (.tuple #[.float .f32 (decOut s).1, .bool (decOut s).2]) ∧ w' = w
theorem res_none {s : ByteArray} {w : World} (h : decOut s = (0, false)) : Res s w (.returned (.tuple #[.float .f32 0, .bool false])) w := ⟨ret_fb h, rfl⟩
set_option maxHeartbeats 2000000 in
theorem spec_any (s : ByteArray) (hm : s.size ≤ 1048576) (w : World) : Calls Try.prog 10 #[.string s] w (Res s w) := by
  by_cases h2 : 2 ≤ s.size
  · by_cases h17 : s.size ≤ 17
    · have e1 : ¬ (s.size : Int) < 2 := by omega
      have e2 : ¬ (17 : Int) < s.size := by omega
      have e3 : (1 : Int) ≤ s.size := by omega
      go_enter Try.func10, Try.ntmps10
      go_wp2_with fail
      go_loopw [4, 5, 6, 7] (fun dv cv pv iv wr => ∃ (i d c : Nat) (pt : Int), i ≤ s.size ∧ 1 ≤ i ∧ Hid (St s i d c pt) ∧ dv = .int .i64 (d : Int) ∧ cv = .int .i64 (c : Int) ∧ pv = .int .i64 pt ∧ iv = .int .i64 (i : Int) ∧ wr = w) (fun _ _ _ iv _ => s.size - (intOf iv).toNat)
      case atStart => exact ⟨1, 0, 0, -1, by omega, Nat.le_refl _, st_zero s, rfl, rfl, rfl, rfl, rfl⟩
      case round =>
        obtain ⟨i, d, c, pt, hi, hi1, hst, rfl, rfl, rfl, rfl, rfl⟩ := hrel
        have hlt := st_lt hst.out
        obtain ⟨hdc, hci, hp1, hp2⟩ := hlt
        have hdb : d < 100000000000000000 := Nat.lt_of_lt_of_le hdc (Nat.le_trans (Nat.pow_le_pow_right (n := 10) (show 0 < 10 by omega) (show c ≤ 17 by omega)) (by decide))
        clear hdc
        by_cases hlt : i < s.size
        · have hlt' : (i : Int) < s.size := by omega
          obtain ⟨x, hx, hxb, hidx⟩ := idx_run s i hlt (i : Int) rfl
          have Hx := Lib.hid hx
          clear hx
          by_cases h46 : x = 46
          · subst h46
            by_cases hpt : pt < 0
            · by_cases hi2 : 1 < i
              · have hi2' : (1 : Int) < i := by omega
                by_cases hin : i + 1 < s.size
                · have hin' : (i : Int) + 1 < s.size := by omega
                  have Hn := Lib.hid (st_point hst.out hpt Hx.out.symm hi2 hin)
                  go_wp2_with fail
                  go_roundw
                  case rel => exact ⟨i + 1, d, c, i, by omega, by omega, Hn.out, rfl, rfl, rfl, by go_num, trivial⟩
                  case measure => simp [intOf]; omega
                · have hin' : ¬ (i : Int) + 1 < s.size := by omega
                  have hbad := Lib.hid (decOut_none (st_bad hst.out hlt (by rw [← Hx.out]; unfold dg; omega) (fun _ => .inr (.inr hin))))
                  go_wp2_with fail
                  go_ret2
                  exact res_none hbad.out
              · have hi2' : ¬ (1 : Int) < i := by omega
                have hbad := Lib.hid (decOut_none (st_bad hst.out hlt (by rw [← Hx.out]; unfold dg; omega) (fun _ => .inr (.inl hi2))))
                go_wp2_with fail
                go_ret2
                exact res_none hbad.out
            · have hbad := Lib.hid (decOut_none (st_bad hst.out hlt (by rw [← Hx.out]; unfold dg; omega) (fun _ => .inl (by omega))))
              go_wp2_with fail
              go_ret2
              exact res_none hbad.out
          · have hq1 : ((x : Int) == 46) = false := by rw [beq_eq_false_iff_ne]; omega
            have H46 := Lib.hid h46
            clear h46
            by_cases h48 : (x : Int) < 48
            · have hbad := Lib.hid (decOut_none (st_bad hst.out hlt (by rw [← Hx.out]; unfold dg; omega) (fun h => absurd (Hx.out.trans h) H46.out)))
              go_wp2_with fail
              go_ret2
              exact res_none hbad.out
            · by_cases h57 : 57 < (x : Int)
              · have hbad := Lib.hid (decOut_none (st_bad hst.out hlt (by rw [← Hx.out]; unfold dg; omega) (fun h => absurd (Hx.out.trans h) H46.out)))
                go_wp2_with fail
                go_ret2
                exact res_none hbad.out
              · have Hn := Lib.hid (st_digit hst.out (by rw [← Hx.out]; unfold dg; omega))
                rw [← Hx.out] at Hn
                go_wp2_with fail
                go_roundw
                case rel => exact ⟨i + 1, 10 * d + (x - 48), c + 1, pt, by omega, by omega, Hn.out, (by congr 1; omega), by go_num, rfl, by go_num, trivial⟩
                case measure => simp [intOf]; omega
        · have hlt' : ¬ (i : Int) < s.size := by omega
          obtain rfl : i = s.size := by omega
          by_cases hc : c ≤ 15
          · have hc' : ¬ (15 : Int) < c := by omega
            obtain ⟨k, hf, hk⟩ := st_end hst.out h2 hc
            have hsm := form_small hf
            have hd := hsm.1
            have hk14 := hsm.2.1
            have Hf := Lib.hid hf
            clear hf hsm
            by_cases hpt : pt < 0
            · have hk0 : k = 0 := by omega
              clear hk
              go_wp2_with fail
              obtain ⟨wo, hwo⟩ : ∃ wo : World, wo = wr := ⟨_, rfl⟩
              subst hwo
              go_loopw [9, 10] (fun pv iv wr => ∃ j P : Nat, j ≤ k ∧ Hid (P = A (10 ^ j) 149) ∧ pv = .float .f64 P ∧ iv = .int .i64 (j : Int) ∧ wr = wo) (fun _ iv _ => k - (intOf iv).toNat)
              case atStart => exact ⟨0, _, Nat.zero_le _, (show 4607182418800017408 = A (10 ^ 0) 149 from one_A.symm), rfl, rfl, rfl⟩
              case round =>
                obtain ⟨j, P, hj, hP, rfl, rfl, rfl⟩ := hrel
                by_cases hjk : j < k
                · have hjk' : (j : Int) < 0 := by omega
                  obtain ⟨R, hR, hmul⟩ := mul_ten (k := j) (by omega) hP.out
                  have HR := Lib.hid hR
                  clear hR
                  go_wp2_with fail
                  go_roundw
                  case rel => exact ⟨j + 1, R, hjk, HR.out, rfl, by go_num, trivial⟩
                  case measure => simp [intOf]; omega
                · have hjk' : ¬ (j : Int) < 0 := by omega
                  have hje : j = k := by omega
                  subst hje
                  obtain ⟨Q, X, hX, hquo, hnar⟩ := quo_ten (d := d) hd hk14 hP.out
                  have HX := Lib.hid hX
                  clear hX
                  go_wp2_with fail
                  refine (Sgd.spec_any _ X _).mono ?_
                  rintro e w3 ⟨rfl, hw3⟩
                  subst w3
                  have Hr := Lib.hid (show decOut s = ((Sgd.out (s.extract 0 1) X).1, (Sgd.out (s.extract 0 1) X).2) by rw [decOut_of Hf.out, ← HX.out])
                  generalize (Sgd.out (s.extract 0 1) X).1 = r1 at *
                  generalize (Sgd.out (s.extract 0 1) X).2 = r2 at *
                  go_wp2_with fail
                  go_ret2
                  exact ⟨ret_fb Hr.out, rfl⟩
            · have hk' : (s.size : Int) - 1 - pt = k := by omega
              clear hk
              go_wp2_with fail
              clear hk'
              obtain ⟨wo, hwo⟩ : ∃ wo : World, wo = wr := ⟨_, rfl⟩
              subst hwo
              go_loopw [9, 10] (fun pv iv wr => ∃ j P : Nat, j ≤ k ∧ Hid (P = A (10 ^ j) 149) ∧ pv = .float .f64 P ∧ iv = .int .i64 (j : Int) ∧ wr = wo) (fun _ iv _ => k - (intOf iv).toNat)
              case atStart => exact ⟨0, _, Nat.zero_le _, (show 4607182418800017408 = A (10 ^ 0) 149 from one_A.symm), rfl, rfl, rfl⟩
              case round =>
                obtain ⟨j, P, hj, hP, rfl, rfl, rfl⟩ := hrel
                by_cases hjk : j < k
                · have hjk' : (j : Int) < k := by omega
                  obtain ⟨R, hR, hmul⟩ := mul_ten (k := j) (by omega) hP.out
                  have HR := Lib.hid hR
                  clear hR
                  go_wp2_with fail
                  go_roundw
                  case rel => exact ⟨j + 1, R, hjk, HR.out, rfl, by go_num, trivial⟩
                  case measure => simp [intOf]; omega
                · have hjk' : ¬ (j : Int) < k := by omega
                  have hje : j = k := by omega
                  subst hje
                  obtain ⟨Q, X, hX, hquo, hnar⟩ := quo_ten (d := d) hd hk14 hP.out
                  have HX := Lib.hid hX
                  clear hX
                  go_wp2_with fail
                  refine (Sgd.spec_any _ X _).mono ?_
                  rintro e w3 ⟨rfl, hw3⟩
                  subst w3
                  have Hr := Lib.hid (show decOut s = ((Sgd.out (s.extract 0 1) X).1, (Sgd.out (s.extract 0 1) X).2) by rw [decOut_of Hf.out, ← HX.out])
                  generalize (Sgd.out (s.extract 0 1) X).1 = r1 at *
                  generalize (Sgd.out (s.extract 0 1) X).2 = r2 at *
                  go_wp2_with fail
                  go_ret2
                  exact ⟨ret_fb Hr.out, rfl⟩
          · have hc' : (15 : Int) < c := by omega
            have hbad := Lib.hid (decOut_none (st_many hst.out h2 (by omega)))
            go_wp2_with fail
            go_ret2
            exact res_none hbad.out
    · have e1 : ¬ (s.size : Int) < 2 := by omega
      have e2 : (17 : Int) < s.size := by omega
      have hbad := Lib.hid (decOut_none (s := s) (fun ⟨d, k, h⟩ => by have := (form_small h).2.2.2; omega))
      go_enter Try.func10, Try.ntmps10
      go_wp2_with fail
      go_ret2
      exact res_none hbad.out
  · have e1 : (s.size : Int) < 2 := by omega
    have hbad := Lib.hid (decOut_none (s := s) (fun ⟨d, k, h⟩ => by have := (form_small h).2.2.1; omega))
    go_enter Try.func10, Try.ntmps10
    go_wp2_with fail
    go_ret2
    exact res_none hbad.out
end Go.Proofs.Ytgfeahammmfdaaa.Dec
