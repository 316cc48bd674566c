/- The next single in the program: math.Nextafter32 towards the infinite one, NextUp, NextDown, RoundDown, RoundUp. -/
import Derived.Test.YtjmmcpeknaaaiaaSpnI
import Derived.Test.YtjmmcpeknaaaiaaFltV
import Derived.Laws.FloatArith
import Derived.Laws.BitsLemmas
namespace Go.Proofs.Ytjmmcpeknaaaiaa.Spn
open Go.ChangeShapes Go.WideShapes Go.ChangeAt Go.RowKit Go.Deep Go.Proofs.Ytjmmcpeknaaaiaa Go.Proofs.Ytjmmcpeknaaaiaa.Flt Go.Proofs.Ytjmmcpeknaaaiaa.Mth
open Ieee (single double)
set_option linter.unusedVariables false
set_option linter.unusedSimpArgs false
set_option maxRecDepth 20000
theorem run_f32bits (x : Nat) (w : World) : (callFunc 94 #[.float .f32 x]).run Try.prog w = .ok (.value (.int .u32 (x : Int))) w := by
  rw [run_callFunc_extern (e := Extern.MathFloatBits.float32bits) Try.func94 (by kernel_rfl) (by kernel_rfl) (by kernel_rfl) (by kernel_rfl)]
  rfl
theorem run_f32from (n : Nat) (w : World) : (callFunc 93 #[.int .u32 (n : Int)]).run Try.prog w = .ok (.value (.float .f32 n)) w := by
  rw [run_callFunc_extern (e := Extern.MathFloatBits.float32frombits) Try.func93 (by kernel_rfl) (by kernel_rfl) (by kernel_rfl) (by kernel_rfl)]
  rfl
theorem run_nar {a x : Nat} (h : floatToFloatBits .f64 a .f32 = some x) (w : World) : (convert 28 24 (.float .f64 a)).run Try.prog w = .ok (.float .f32 x) w :=
  run_convert_float_float (P := Try.prog) w 28 24 .f64 .f32 a x (by rw [Try.underlying28]; rfl) Try.underlying24 h
theorem run_widx {x : Nat} (h : isNaN single x = false) (w : World) : (convert 24 28 (.float .f32 x)).run Try.prog w = .ok (.float .f64 (widen x)) w :=
  run_widen (P := Try.prog) 24 28 x (by rw [Try.underlying24]; rfl) Try.underlying28 h w
theorem inf_narrow : floatToFloatBits .f64 9218868437227405312 .f32 = some 2139095040 := by decide +kernel
theorem inf_call (w : World) : Calls Try.prog 65 #[.int .i64 1] w fun e w' => e = .returned (.float .f64 9218868437227405312) ∧ w' = w := by
  have hc : ∀ w, (callFunc 95 #[.int .u64 9218868437227405312]).run Try.prog w = .ok (.value (.float .f64 9218868437227405312)) w := fun w => run_frombits 9218868437227405312 w
  go_enter Try.func65, Try.ntmps65
  go_wp2
  go_ret
  exact ⟨rfl, rfl⟩
theorem sv_inf : sv single 2139095040 = ((mg single single.infRung : Nat) : Int) := by
  unfold sv
  rw [show sgn single 2139095040 = false by decide, show rung single 2139095040 = single.infRung by decide]
  rfl
/-- the comparisons with the infinite one and with 0 -/
theorem ord_facts {x : Nat} (hx : isNaN single x = false) (h0 : rung single x ≠ 0) (hi : ¬ (sgn single x = false ∧ rung single x = single.infRung)) :
    (FloatKind.f32.format.order x 2139095040 == some .eq) = false ∧ (FloatKind.f32.format.order x 0 == some .eq) = false ∧
    (FloatKind.f32.format.order 2139095040 x == some .gt) = true ∧ (FloatKind.f32.format.order x 0 == some .gt) = !sgn single x := by
  have hr := num_le hx
  have nI : isNaN single 2139095040 = false := by decide
  have m0 := mg_zero single
  have mp : 0 < mg single (rung single x) := Nat.pos_of_ne_zero fun e => h0 ((mg_eq_zero single).1 e)
  have mi : 0 < mg single single.infRung := Nat.pos_of_ne_zero fun e => by
    have := (mg_eq_zero single).1 e
    rw [inf_single] at this; omega
  rw [eq32, eq32, gt32, gt32]
  unfold eqW ltW
  rw [hx, nI, nan_zero, sv_zero, sv_inf]
  simp only [Bool.not_false, Bool.true_and]
  rcases sv_cases x with ⟨hs, e⟩ | ⟨hs, e⟩
  · have hrl : rung single x < single.infRung := by
      rcases Nat.lt_or_ge (rung single x) single.infRung with c | c
      · exact c
      · exact absurd ⟨hs, by omega⟩ hi
    have ml := (mg_lt_iff single).2 hrl
    rw [e, hs]
    refine ⟨decide_eq_false (by omega), decide_eq_false (by omega), decide_eq_true (by omega), decide_eq_true (by omega)⟩
  · rw [e, hs]
    refine ⟨decide_eq_false (by omega), decide_eq_false (by omega), decide_eq_true (by omega), decide_eq_false (by omega)⟩
/-- what Nextafter32 answers: as the next single, but for the sign of 0 from below -/
def naxW (x : Nat) : Nat := if sgn single x = true ∧ rung single x = 1 then 2147483648 else nuW x
theorem one_wide : floatToFloatBits .f64 (widen 1) .f32 = some 1 := narrow_widen (by rw [width_single]; decide) (by decide)
theorem wid_one : widen 1 = 3936146074321813504 := by decide +kernel
theorem wid_inf : widen 2139095040 = 9218868437227405312 := by decide +kernel
theorem copysign_one (w : World) : Calls Try.prog 92 #[.float .f64 3936146074321813504, .float .f64 9218868437227405312] w fun e w' => e = .returned (.float .f64 3936146074321813504) ∧ w' = w := by
  have h1 : ∀ w, (callFunc 111 #[.float .f64 3936146074321813504]).run Try.prog w = .ok (.value (.int .u64 3936146074321813504)) w := fun w => run_float64bits 3936146074321813504 w
  have h2 : ∀ w, (callFunc 111 #[.float .f64 9218868437227405312]).run Try.prog w = .ok (.value (.int .u64 9218868437227405312)) w := fun w => run_float64bits 9218868437227405312 w
  have h3 : ∀ w, (callFunc 95 #[.int .u64 3936146074321813504]).run Try.prog w = .ok (.value (.float .f64 3936146074321813504)) w := fun w => run_frombits 3936146074321813504 w
  have b1 : bits .andNot .u64 3936146074321813504 9223372036854775808 = 3936146074321813504 := by decide +kernel
  have b2 : bits .and .u64 9218868437227405312 9223372036854775808 = 0 := by decide +kernel
  have b3 : bits .or .u64 3936146074321813504 0 = 3936146074321813504 := by decide +kernel
  go_enter Try.func92, Try.ntmps92
  go_wp2
  go_ret
  exact ⟨rfl, rfl⟩
set_option maxHeartbeats 800000 in
theorem after_num (x : Nat) (w : World) (wx : x < 4294967296) (hx : isNaN single x = false) :
    Calls Try.prog 64 #[.float .f32 x, .float .f32 2139095040] w fun e w' => e = .returned (.float .f32 (naxW x)) ∧ w' = w := by
  have nI : isNaN single 2139095040 = false := by decide
  have kx := run_widx hx
  have kI := run_widx nI
  have hN := fun w => isNaN_any (widen x) w
  have hM := fun w => isNaN_any (widen 2139095040) w
  rw [isNaN_widen] at hN hM
  rw [wid_inf] at kI hM
  have kb := run_f32bits x
  by_cases hi : sgn single x = false ∧ rung single x = single.infRung
  · have e : x = 2139095040 := by
      rw [word_eq single (w := x) (by rw [width_single]; exact wx), hi.1, hi.2]
      decide
    subst e
    rw [show naxW 2139095040 = 2139095040 by decide +kernel]
    have ho : (FloatKind.f32.format.order 2139095040 2139095040 == some .eq) = true := by decide +kernel
    rw [wid_inf] at kx hN
    clear hi hx nI wx
    go_enter Try.func64, Try.ntmps64
    go_wp2_with fail
    refine (hN _).mono ?_
    rintro e w9 ⟨rfl, hw9⟩
    subst w9
    go_wp2_with fail
    refine (hM _).mono ?_
    rintro e w9 ⟨rfl, hw9⟩
    subst w9
    go_wp2_with fail
    go_ret
    exact ⟨rfl, rfl⟩
  · by_cases h0 : rung single x = 0
    · have hz := zeros32 wx h0
      have hn : naxW x = 1 := by
        unfold naxW nuW
        rw [h0, if_neg (by omega)]
        cases hs : sgn single x
        · rw [if_pos rfl, if_neg (by rw [inf_single]; omega)]; rfl
        · rw [if_neg (by simp), if_pos rfl]; rfl
      rw [hn]
      have k1 := run_widx (x := 1) (by decide)
      have k2 := run_nar one_wide
      rw [wid_one] at k1 k2
      have kf : ∀ w, (callFunc 93 #[.int .u32 1]).run Try.prog w = .ok (.value (.float .f32 1)) w := fun w => run_f32from 1 w
      have ke : (FloatKind.f32.format.order x 0 == some .eq) = true := by
        rw [eq32, eqW_zero _ hx]; exact decide_eq_true h0
      have ko : (FloatKind.f32.format.order x 2139095040 == some .eq) = false := by
        rcases hz with rfl | rfl <;> decide +kernel
      have kc := fun w => copysign_one w
      clear hi hx nI wx h0 hz hn
      generalize widen x = p at *
      go_enter Try.func64, Try.ntmps64
      go_wp2_with fail
      refine (hN _).mono ?_
      rintro e w9 ⟨rfl, hw9⟩
      subst w9
      go_wp2_with fail
      refine (hM _).mono ?_
      rintro e w9 ⟨rfl, hw9⟩
      subst w9
      go_wp2_with fail
      refine (kc _).mono ?_
      rintro e w9 ⟨rfl, hw9⟩
      subst w9
      go_wp2_with fail
      go_ret
      exact ⟨rfl, rfl⟩
    · obtain ⟨o1, o2, o3, o4⟩ := ord_facts hx h0 hi
      cases hs : sgn single x
      · rw [hs] at o4
        have hx1 : x < 2147483648 := by
          have := word_eq single (w := x) (by rw [width_single]; exact wx)
          rw [hs] at this
          have h2 := rung_lt single x
          rw [sw_single] at h2
          have h3 : single.word false (rung single x) = rung single x := rfl
          omega
        have hr : rung single x = x := by unfold rung; rw [sw_single]; omega
        have hn : naxW x = x + 1 := by
          unfold naxW nuW
          rw [hs, if_neg (by simp), if_pos rfl, if_neg (fun e => hi ⟨hs, e⟩), hr]; rfl
        rw [hn]
        have kf : ∀ w, (callFunc 93 #[.int .u32 ((x : Int) + 1)]).run Try.prog w = .ok (.value (.float .f32 (x + 1))) w := fun w => run_f32from (x + 1) w
        have kw : IntKind.u32.wrap ((x : Int) + 1) = (x : Int) + 1 := by rw [IntKind.wrap_u32]; omega
        clear hi hx nI wx h0 hs hn hr hx1
        generalize widen x = p at *
        go_enter Try.func64, Try.ntmps64
        go_wp2_with fail
        refine (hN _).mono ?_
        rintro e w9 ⟨rfl, hw9⟩
        subst w9
        go_wp2_with fail
        refine (hM _).mono ?_
        rintro e w9 ⟨rfl, hw9⟩
        subst w9
        go_wp2_with fail
        go_ret
        exact ⟨rfl, rfl⟩
      · rw [hs] at o4
        have hx1 : x = 2147483648 + rung single x := by
          have h1 := word_eq single (w := x) (by rw [width_single]; exact wx)
          rw [hs] at h1
          have h3 : single.word true (rung single x) = single.signWeight + rung single x := rfl
          rw [h3, sw_single] at h1
          exact h1
        have hr := num_le hx
        rw [inf_single] at hr
        have hn : naxW x = x - 1 := by
          unfold naxW nuW
          by_cases h1 : rung single x = 1
          · rw [if_pos ⟨hs, h1⟩]; omega
          · rw [if_neg (fun e => h1 e.2), hs, if_neg (by simp), if_neg h0, if_neg h1]
            show single.signWeight + (rung single x - 1) = x - 1
            rw [sw_single]; omega
        rw [hn]
        have kf : ∀ w, (callFunc 93 #[.int .u32 ((x : Int) - 1)]).run Try.prog w = .ok (.value (.float .f32 (x - 1))) w := fun w => by
          rw [show (x : Int) - 1 = ((x - 1 : Nat) : Int) by omega]; exact run_f32from (x - 1) w
        have kw : IntKind.u32.wrap ((x : Int) - 1) = (x : Int) - 1 := by rw [IntKind.wrap_u32]; omega
        clear hi hx nI wx h0 hs hn hr hx1
        generalize widen x = p at *
        go_enter Try.func64, Try.ntmps64
        go_wp2_with fail
        refine (hN _).mono ?_
        rintro e w9 ⟨rfl, hw9⟩
        subst w9
        go_wp2_with fail
        refine (hM _).mono ?_
        rintro e w9 ⟨rfl, hw9⟩
        subst w9
        go_wp2_with fail
        go_ret
        exact ⟨rfl, rfl⟩
end Go.Proofs.Ytjmmcpeknaaaiaa.Spn
