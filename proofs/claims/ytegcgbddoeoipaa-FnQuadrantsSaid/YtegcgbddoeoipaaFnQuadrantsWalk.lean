/- The walk of FnQuadrants: it returns true. -/
import Derived.Test.YtegcgbddoeoipaaRows
import Derived.Test.YtegcgbddoeoipaaApp
import Derived.Test.YtegcgbddoeoipaaDrawC
namespace Go.Proofs.Ytegcgbddoeoipaa.fnQuadrants
open Go.ChangeShapes Go.WideShapes Go.ChangeAt Go.RowKit Go.Proofs.Ytegcgbddoeoipaa Go.Proofs.Ytegcgbddoeoipaa.Flt Go.Proofs.Ytegcgbddoeoipaa.Mth Go.Proofs.Ytegcgbddoeoipaa.Cpx
set_option linter.unusedVariables false
theorem wr_zero {r : Nat} (h : r < Ieee.single.infRung) : wr r = 0 ↔ r = 0 := by
  have h1 := (wr_spec h).2
  constructor
  · intro e
    rw [e, mg_zero] at h1
    refine (mg_eq_zero Ieee.single).1 ?_
    have := Nat.two_pow_pos W
    rcases Nat.mul_eq_zero.1 h1.symm with h2 | h2
    · exact h2
    · omega
  · intro e
    subst e
    rw [mg_zero, Nat.zero_mul] at h1
    exact (mg_eq_zero Ieee.double).1 h1
/-- widening keeps the sign -/
theorem cls_wid {b r : Nat} (h : Wid b r) : cls .f64 r = cls .f32 b := by
  obtain ⟨_, h1, h2⟩ := h
  cases hn : isNaN Ieee.single b
  · have h3 := h2 hn
    subst h3
    have hn2 : isNaN Ieee.double (widen b) = false := isNaN_widen b
    unfold cls
    rw [show isNaN FloatKind.f64.format (widen b) = false from hn2, show isNaN FloatKind.f32.format b = false from hn]
    rw [show rung FloatKind.f64.format (widen b) = _ from rung_widen b, show sgn FloatKind.f64.format (widen b) = _ from sgn_widen b]
    have hr : (if rung Ieee.single b < Ieee.single.infRung then wr (rung Ieee.single b) else Ieee.double.infRung) = 0 ↔ rung Ieee.single b = 0 := by
      split
      · rename_i h; exact wr_zero h
      · rename_i h
        rw [inf_double]
        rw [inf_single] at h
        omega
    by_cases h0 : rung Ieee.single b = 0
    · rw [if_pos (hr.2 h0), if_pos (show rung FloatKind.f32.format b = 0 from h0)]
    · rw [if_neg (fun e => h0 (hr.1 e)), if_neg (show ¬ rung FloatKind.f32.format b = 0 from h0)]; rfl
  · rw [hn] at h1
    rw [cls_nan (k := .f64) h1, cls_nan (k := .f32) hn]
theorem cls_nr {X r : Nat} (h : Nr X r) : cls .f32 r = cls .f32 X := by
  obtain ⟨_, h1, h2⟩ := h
  cases hn : isNaN Ieee.single X
  · rw [h2 hn]
  · rw [hn] at h1
    rw [cls_nan (k := .f32) h1, cls_nan (k := .f32) hn]
def ng (c : Int) : Int := if c = 2 then 2 else -c
theorem cls_neg {x : Nat} (hx : x < 4294967296) : cls .f32 (Op.negFloat .f32 x) = ng (cls .f32 x) := by
  have hx' : x < 2 ^ FloatKind.f32.format.width := by rw [show FloatKind.f32.format = Ieee.single from rfl, width_single]; exact hx
  have n1 := isNaN_neg .f32 hx'
  have s1 := sgn_neg .f32 hx'
  have r1 := rung_neg .f32 hx'
  unfold cls ng
  rw [n1, r1, s1]
  cases isNaN FloatKind.f32.format x
  · simp only [Bool.false_eq_true, if_false]
    split
    · rfl
    · cases sgn FloatKind.f32.format x <;> rfl
  · rfl
/-- the signs behind a turn -/
def tc : Nat → Int → Int → Int × Int
  | 0, c, d => (c, d)
  | 1, c, d => (ng d, c)
  | 2, c, d => (ng c, ng d)
  | _, c, d => (d, ng c)
theorem cls_tq (q : Nat) {X Y : Nat} (wX : X < 4294967296) (wY : Y < 4294967296) : cls .f32 (tq q X Y).1 = (tc q (cls .f32 X) (cls .f32 Y)).1 ∧ cls .f32 (tq q X Y).2 = (tc q (cls .f32 X) (cls .f32 Y)).2 := by
  unfold tq tc
  split
  · exact ⟨rfl, rfl⟩
  · exact ⟨cls_neg wY, rfl⟩
  · exact ⟨cls_neg wX, cls_neg wY⟩
  · rename_i q' x y h0 h1 h2
    split
    · exact absurd rfl h0
    · exact absurd rfl h1
    · exact absurd rfl h2
    · exact ⟨rfl, cls_neg wX⟩
theorem run_ceq32 {P : Program} (t : TypeId) (a b c d : Nat) (w : World) : (binOp .eql t (.complex .f32 a b) (.complex .f32 c d)).run P w = .ok (.bool (eqW Ieee.single a c && eqW Ieee.single b d)) w := by
  simp [binOp, Op.complexOp, Op.Complex.cmp, Op.floatCmp, asBool, eq32]
theorem run_cne32 {P : Program} (t : TypeId) (a b c d : Nat) (w : World) : (binOp .neq t (.complex .f32 a b) (.complex .f32 c d)).run P w = .ok (.bool !(eqW Ieee.single a c && eqW Ieee.single b d)) w := by
  simp [binOp, Op.complexOp, Op.Complex.cmp, Op.floatCmp, asBool, eq32]
theorem eq_zero32 (x : Nat) : eqW Ieee.single x 0 = decide (cls .f32 x = 0) := eq_cls .f32 x
theorem eq_self32 (x : Nat) : eqW Ieee.single x x = decide (cls .f32 x ≠ 2) := by
  rw [eqW_self]
  cases h : isNaN Ieee.single x
  · have : cls .f32 x ≠ 2 := by
      unfold cls
      rw [show isNaN FloatKind.f32.format x = false from h, if_neg Bool.false_ne_true]
      split
      · decide
      · split <;> decide
    simp [this]
  · rw [cls_nan (k := .f32) h]; rfl
theorem quadI (x y X Y : Nat) (hx : Wid X x) (hy : Wid Y y) (w : World) :
    Calls Try.prog 20 #[.complex .f64 x y] w fun e w' => e = .returned (.int .i64 (qd (cls .f32 X) (cls .f32 Y))) ∧ w' = w := by
  have h := quad_any x y w
  rw [cls_wid hx, cls_wid hy] at h
  exact h
/-- the turned number's quadrant -/
theorem quadT (q : Nat) (x y u v X Y : Nat) (wX : X < 4294967296) (wY : Y < 4294967296) (hu : Nr (tq q X Y).1 u) (hv : Nr (tq q X Y).2 v) (hx : Wid u x) (hy : Wid v y) (w : World) :
    Calls Try.prog 20 #[.complex .f64 x y] w fun e w' => e = .returned (.int .i64 (qd (tc q (cls .f32 X) (cls .f32 Y)).1 (tc q (cls .f32 X) (cls .f32 Y)).2)) ∧ w' = w := by
  have h := quadI x y u v hx hy w
  rw [cls_nr hu, cls_nr hv, (cls_tq q wX wY).1, (cls_tq q wX wY).2] at h
  exact h
theorem n_of {c d : Int} (hc : c = 2 ∨ c = 0 ∨ c = -1 ∨ c = 1) (hd' : d = 2 ∨ d = 0 ∨ d = -1 ∨ d = 1) (q : Nat) (hq : q ≤ 3) :
    qd (tc q c d).1 (tc q c d).2 = if qd c d = -1 then -1 else (qd c d + (q : Int)) % 4 := by
  obtain rfl | rfl | rfl | rfl : q = 0 ∨ q = 1 ∨ q = 2 ∨ q = 3 := by omega
  all_goals rcases hc with rfl | rfl | rfl | rfl <;> rcases hd' with rfl | rfl | rfl | rfl <;> decide
theorem k_of {c d : Int} (hc : c = 2 ∨ c = 0 ∨ c = -1 ∨ c = 1) (hd' : d = 2 ∨ d = 0 ∨ d = -1 ∨ d = 1) :
    (qd c d = -1 ∧ ((decide (c = 0) && decide (d = 0)) || !(decide (c ≠ 2) && decide (d ≠ 2))) = true) ∨
    ((qd c d = 0 ∨ qd c d = 1 ∨ qd c d = 2 ∨ qd c d = 3) ∧ (decide (c = 0) && decide (d = 0)) = false ∧ (decide (c ≠ 2) && decide (d ≠ 2)) = true) := by
  rcases hc with rfl | rfl | rfl | rfl <;> rcases hd' with rfl | rfl | rfl | rfl <;> decide
/-- the quadrants of a number and of its turns -/
def Quads (X Y : Nat) (n : Nat → Int) : Prop :=
  ∀ q, q ≤ 3 → ∀ u v x y : Nat, Nr (tq q X Y).1 u → Nr (tq q X Y).2 v → Wid u x → Wid v y → ∀ w : World,
    Calls Try.prog 20 #[.complex .f64 x y] w fun e w' => e = .returned (.int .i64 (n q)) ∧ w' = w
theorem quads {X Y : Nat} (wX : X < 4294967296) (wY : Y < 4294967296) : Quads X Y fun q => if qd (cls .f32 X) (cls .f32 Y) = -1 then -1 else (qd (cls .f32 X) (cls .f32 Y) + (q : Int)) % 4 := by
  intro q hq u v x y hu hv hx hy w
  have h := quadT q x y u v X Y wX wY hu hv hx hy w
  rw [n_of (cls_four .f32 X) (cls_four .f32 Y) q hq] at h
  exact h
set_option maxRecDepth 20000 in
set_option maxHeartbeats 3200000 in
theorem walk (a : Option Addr) (len cap : Nat) (zs : List Int) (w : World) (hr : IsRow .u8 w a len cap zs) :
    Calls Try.prog 5 #[.slice a len cap] w fun x w' => x = .returned (.bool true) ∧ Below w.heap.size w w' := by
  have us : (Try.prog.underlying 26).isSome = true := by rw [Try.underlying26]; rfl
  have ud := Try.underlying36
  by_cases hl : (len : Int) ≤ 1048576
  · go_enter Try.func5, Try.ntmps5
    go_wp2_with fail
    refine (Drw.big_no _ _ _ _ hl).mono ?_
    rintro e w' ⟨rfl, rfl⟩
    go_wp2_with fail
    refine (Drw.draw_swap a len cap zs _ hr).mono ?_
    rintro e w1 ⟨X, Y, wX', wY', rfl, hb1⟩
    have wX := lt_single wX'
    have wY := lt_single wY'
    have Hb1 := Lib.hid hb1
    clear hb1 hr wX' wY'
    obtain ⟨x, y, n, hx, hy, kc⟩ := run_widC (P := Try.prog) 26 36 us ud X Y w1
    have cQ := quadI x y X Y hx hy
    have HQ := quads wX wY
    have e0 := fun W => run_ceq32 (P := Try.prog) 26 X Y 0 0 W
    have e1 := fun W => run_cne32 (P := Try.prog) 26 X Y X Y W
    rw [eq_zero32, eq_zero32] at e0
    rw [eq_self32, eq_self32] at e1
    have hk := k_of (cls_four .f32 X) (cls_four .f32 Y)
    generalize qd (cls .f32 X) (cls .f32 Y) = k at cQ HQ hk
    generalize (decide (cls .f32 X = 0) && decide (cls .f32 Y = 0)) = z at e0 hk
    generalize (decide (cls .f32 X ≠ 2) && decide (cls .f32 Y ≠ 2)) = t at e1 hk
    clear hx hy
    rcases hk with ⟨rfl, hz⟩ | ⟨rfl | rfl | rfl | rfl, rfl, rfl⟩
    all_goals
      have HQ := Lib.hid HQ
      go_wp2_with fail
      refine (cQ _).mono ?_
      rintro e w2 ⟨rfl, rfl⟩
      have Hb2 := Lib.hid (below_drewN Hb1.out n)
      clear cQ kc Hb1
      go_wp2_with fail
      (
        refine wp_loop_rounds 5 ?_
        rw [rounds_succ]
        go_wp2_with fail
        refine (apply_any 0 X Y (by omega) wX wY _).mono ?_
        rintro e w3 ⟨u, v, hu, hv, rfl, hb⟩
        have Hb3 := Lib.hid (Hb2.out.trans (hb.mono Hb2.out.size))
        obtain ⟨x, y, n, hx, hy, kc⟩ := run_widC (P := Try.prog) 26 36 us ud u v w3
        have cT := HQ.out 0 (by omega) u v x y hu hv hx hy
        have Hb3' := Lib.hid (below_drewN Hb3.out n)
        clear hb hu hv hx hy Hb3 Hb2
        go_wp2_with fail
        refine (cT _).mono ?_
        rintro e w2 ⟨rfl, rfl⟩
        have Hb3 := Hb3'
        clear cT kc Hb3'
        go_wp2_with fail
        rw [rounds_succ]
        go_wp2_with fail
        refine (apply_any 1 X Y (by omega) wX wY _).mono ?_
        rintro e w3 ⟨u, v, hu, hv, rfl, hb⟩
        have Hb4 := Lib.hid (Hb3.out.trans (hb.mono Hb3.out.size))
        obtain ⟨x, y, n, hx, hy, kc⟩ := run_widC (P := Try.prog) 26 36 us ud u v w3
        have cT := HQ.out 1 (by omega) u v x y hu hv hx hy
        have Hb4' := Lib.hid (below_drewN Hb4.out n)
        clear hb hu hv hx hy Hb4 Hb3
        go_wp2_with fail
        refine (cT _).mono ?_
        rintro e w2 ⟨rfl, rfl⟩
        have Hb4 := Hb4'
        clear cT kc Hb4'
        go_wp2_with fail
        rw [rounds_succ]
        go_wp2_with fail
        refine (apply_any 2 X Y (by omega) wX wY _).mono ?_
        rintro e w3 ⟨u, v, hu, hv, rfl, hb⟩
        have Hb5 := Lib.hid (Hb4.out.trans (hb.mono Hb4.out.size))
        obtain ⟨x, y, n, hx, hy, kc⟩ := run_widC (P := Try.prog) 26 36 us ud u v w3
        have cT := HQ.out 2 (by omega) u v x y hu hv hx hy
        have Hb5' := Lib.hid (below_drewN Hb5.out n)
        clear hb hu hv hx hy Hb5 Hb4
        go_wp2_with fail
        refine (cT _).mono ?_
        rintro e w2 ⟨rfl, rfl⟩
        have Hb5 := Hb5'
        clear cT kc Hb5'
        go_wp2_with fail
        rw [rounds_succ]
        go_wp2_with fail
        refine (apply_any 3 X Y (by omega) wX wY _).mono ?_
        rintro e w3 ⟨u, v, hu, hv, rfl, hb⟩
        have Hb6 := Lib.hid (Hb5.out.trans (hb.mono Hb5.out.size))
        obtain ⟨x, y, n, hx, hy, kc⟩ := run_widC (P := Try.prog) 26 36 us ud u v w3
        have cT := HQ.out 3 (by omega) u v x y hu hv hx hy
        have Hb6' := Lib.hid (below_drewN Hb6.out n)
        clear hb hu hv hx hy Hb6 Hb5
        go_wp2_with fail
        refine (cT _).mono ?_
        rintro e w2 ⟨rfl, rfl⟩
        have Hb6 := Hb6'
        clear cT kc Hb6'
        go_wp2_with fail
        rw [rounds_succ]
        go_wp2_with fail
      )
      all_goals
        go_ret
        exact ⟨ret_bool (by simp_all), Hb6.out⟩
  · go_enter Try.func5, Try.ntmps5
    go_wp2_with fail
    refine (Drw.big_yes _ _ _ _ (by omega)).mono ?_
    rintro e w' ⟨rfl, rfl⟩
    go_wp2_with fail
    go_ret
    exact ⟨rfl, Below.refl _ _⟩
end Go.Proofs.Ytegcgbddoeoipaa.fnQuadrants
