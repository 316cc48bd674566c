/- Contracts of ApplyTurn at the power 0. -/
import Derived.Test.YtegcgbddoeoipaaQua
import Derived.Deep.RegionWith
namespace Go.Proofs.Ytegcgbddoeoipaa.Cpx
open Go.ChangeShapes Go.WideShapes Go.ChangeAt Go.RowKit Go.Proofs.Ytegcgbddoeoipaa Go.Proofs.Ytegcgbddoeoipaa.Flt Go.Proofs.Ytegcgbddoeoipaa.Mth Go.Proofs.Ytegcgbddoeoipaa.Trn
set_option linter.unusedVariables false
def four (x y : Nat) : Array Value := #[.complex .f64 x y, .complex .f64 (Op.negFloat .f64 y) x, .complex .f64 (Op.negFloat .f64 x) (Op.negFloat .f64 y), .complex .f64 y (Op.negFloat .f64 x)]
theorem four_any (x y : Nat) (w : World) :
    Calls Try.prog 55 #[.complex .f64 x y] w fun e w' => e = .returned (.agg (four x y)) ∧ w' = w.alloc (.cells (four x y) 82) := by
  go_enter Try.func55, Try.ntmps55
  go_wp2_with fail
  go_returns
  exact ⟨rfl, rfl⟩
theorem idx0 (a b c d : Value) (w : World) : (Instr.index 82 (.agg #[a, b, c, d]) (.int .i64 0)).run Try.prog w = .ok a w := by kernel_rfl
theorem idx1 (a b c d : Value) (w : World) : (Instr.index 82 (.agg #[a, b, c, d]) (.int .i64 1)).run Try.prog w = .ok b w := by kernel_rfl
theorem idx2 (a b c d : Value) (w : World) : (Instr.index 82 (.agg #[a, b, c, d]) (.int .i64 2)).run Try.prog w = .ok c w := by kernel_rfl
theorem idx3 (a b c d : Value) (w : World) : (Instr.index 82 (.agg #[a, b, c, d]) (.int .i64 3)).run Try.prog w = .ok d w := by kernel_rfl
/-- the parts turned by so many quarters -/
def tq : Nat → Nat → Nat → Nat × Nat
  | 0, x, y => (x, y)
  | 1, x, y => (Op.negFloat .f32 y, x)
  | 2, x, y => (Op.negFloat .f32 x, Op.negFloat .f32 y)
  | _, x, y => (y, Op.negFloat .f32 x)
theorem turned0 (x y X Y : Nat) (wX : X < 4294967296) (wY : Y < 4294967296) (hx : Wid X x) (hy : Wid Y y) (w : World) :
    Calls Try.prog 40 #[.agg #[.int .i64 0, .int .i64 0], .complex .f64 x y] w fun e w' =>
      ∃ r s, Wid (tq 0 X Y).1 r ∧ Wid (tq 0 X Y).2 s ∧ e = .returned (.complex .f64 r s) ∧ Below w.heap.size w w' := by
  have i0 := idx0
  have h1 := hx
  have h2 := hy
  clear hx hy wX wY
  go_enter Try.func40, Try.ntmps40
  go_wp2_with fail
  go_region_with (go_at_call 55; refine (four_any _ _ _).mono ?_; unfold four; rintro e w' ⟨rfl, rfl⟩)
  all_goals
    go_wp2_with fail
    refine (Ldexp_any 0 1023 4607182418800017408 _ (by decide) (by decide) (by decide) (by decide)).mono ?_
    rintro e w1 ⟨rfl, hw⟩
    have Hb := Lib.hid (show Below w.heap.size w w1 by rw [hw]; go_grown)
    clear hw
    obtain ⟨r, n, hr, kr⟩ := run_mul_one (P := Try.prog) 42 h1 w1
    obtain ⟨s, m, hs', ks⟩ := run_mul_one (P := Try.prog) 42 h2 (w1.drewN n)
    have Hr := Lib.hid hr
    have Hs := Lib.hid hs'
    clear hr hs' h1 h2
    go_wp2_with fail
    go_ret
    exact ⟨r, s, Hr.out, Hs.out, rfl, below_drewN Hb.out _⟩
theorem turned1 (x y X Y : Nat) (wX : X < 4294967296) (wY : Y < 4294967296) (hx : Wid X x) (hy : Wid Y y) (w : World) :
    Calls Try.prog 40 #[.agg #[.int .i64 1, .int .i64 0], .complex .f64 x y] w fun e w' =>
      ∃ r s, Wid (tq 1 X Y).1 r ∧ Wid (tq 1 X Y).2 s ∧ e = .returned (.complex .f64 r s) ∧ Below w.heap.size w w' := by
  have i0 := idx1
  have h1 := wid_neg wY hy
  have h2 := hx
  clear hx hy wX wY
  go_enter Try.func40, Try.ntmps40
  go_wp2_with fail
  go_region_with (go_at_call 55; refine (four_any _ _ _).mono ?_; unfold four; rintro e w' ⟨rfl, rfl⟩)
  all_goals
    go_wp2_with fail
    refine (Ldexp_any 0 1023 4607182418800017408 _ (by decide) (by decide) (by decide) (by decide)).mono ?_
    rintro e w1 ⟨rfl, hw⟩
    have Hb := Lib.hid (show Below w.heap.size w w1 by rw [hw]; go_grown)
    clear hw
    obtain ⟨r, n, hr, kr⟩ := run_mul_one (P := Try.prog) 42 h1 w1
    obtain ⟨s, m, hs', ks⟩ := run_mul_one (P := Try.prog) 42 h2 (w1.drewN n)
    have Hr := Lib.hid hr
    have Hs := Lib.hid hs'
    clear hr hs' h1 h2
    go_wp2_with fail
    go_ret
    exact ⟨r, s, Hr.out, Hs.out, rfl, below_drewN Hb.out _⟩
theorem turned2 (x y X Y : Nat) (wX : X < 4294967296) (wY : Y < 4294967296) (hx : Wid X x) (hy : Wid Y y) (w : World) :
    Calls Try.prog 40 #[.agg #[.int .i64 2, .int .i64 0], .complex .f64 x y] w fun e w' =>
      ∃ r s, Wid (tq 2 X Y).1 r ∧ Wid (tq 2 X Y).2 s ∧ e = .returned (.complex .f64 r s) ∧ Below w.heap.size w w' := by
  have i0 := idx2
  have h1 := wid_neg wX hx
  have h2 := wid_neg wY hy
  clear hx hy wX wY
  go_enter Try.func40, Try.ntmps40
  go_wp2_with fail
  go_region_with (go_at_call 55; refine (four_any _ _ _).mono ?_; unfold four; rintro e w' ⟨rfl, rfl⟩)
  all_goals
    go_wp2_with fail
    refine (Ldexp_any 0 1023 4607182418800017408 _ (by decide) (by decide) (by decide) (by decide)).mono ?_
    rintro e w1 ⟨rfl, hw⟩
    have Hb := Lib.hid (show Below w.heap.size w w1 by rw [hw]; go_grown)
    clear hw
    obtain ⟨r, n, hr, kr⟩ := run_mul_one (P := Try.prog) 42 h1 w1
    obtain ⟨s, m, hs', ks⟩ := run_mul_one (P := Try.prog) 42 h2 (w1.drewN n)
    have Hr := Lib.hid hr
    have Hs := Lib.hid hs'
    clear hr hs' h1 h2
    go_wp2_with fail
    go_ret
    exact ⟨r, s, Hr.out, Hs.out, rfl, below_drewN Hb.out _⟩
theorem turned3 (x y X Y : Nat) (wX : X < 4294967296) (wY : Y < 4294967296) (hx : Wid X x) (hy : Wid Y y) (w : World) :
    Calls Try.prog 40 #[.agg #[.int .i64 3, .int .i64 0], .complex .f64 x y] w fun e w' =>
      ∃ r s, Wid (tq 3 X Y).1 r ∧ Wid (tq 3 X Y).2 s ∧ e = .returned (.complex .f64 r s) ∧ Below w.heap.size w w' := by
  have i0 := idx3
  have h1 := hy
  have h2 := wid_neg wX hx
  clear hx hy wX wY
  go_enter Try.func40, Try.ntmps40
  go_wp2_with fail
  go_region_with (go_at_call 55; refine (four_any _ _ _).mono ?_; unfold four; rintro e w' ⟨rfl, rfl⟩)
  all_goals
    go_wp2_with fail
    refine (Ldexp_any 0 1023 4607182418800017408 _ (by decide) (by decide) (by decide) (by decide)).mono ?_
    rintro e w1 ⟨rfl, hw⟩
    have Hb := Lib.hid (show Below w.heap.size w w1 by rw [hw]; go_grown)
    clear hw
    obtain ⟨r, n, hr, kr⟩ := run_mul_one (P := Try.prog) 42 h1 w1
    obtain ⟨s, m, hs', ks⟩ := run_mul_one (P := Try.prog) 42 h2 (w1.drewN n)
    have Hr := Lib.hid hr
    have Hs := Lib.hid hs'
    clear hr hs' h1 h2
    go_wp2_with fail
    go_ret
    exact ⟨r, s, Hr.out, Hs.out, rfl, below_drewN Hb.out _⟩
/-- what a turn by quarters gives -/
def AppOut (q X Y : Nat) (w : World) (e : Ending) (w' : World) : Prop := ∃ x y, Nr (tq q X Y).1 x ∧ Nr (tq q X Y).2 y ∧ e = .returned (.complex .f32 x y) ∧ Below w.heap.size w w'
theorem tq_lt {q X Y : Nat} (wX : X < 4294967296) (wY : Y < 4294967296) : (tq q X Y).1 < 4294967296 ∧ (tq q X Y).2 < 4294967296 := by
  unfold tq
  split
  · exact ⟨wX, wY⟩
  · exact ⟨neg32_lt wY, wX⟩
  · exact ⟨neg32_lt wX, neg32_lt wY⟩
  · exact ⟨wY, neg32_lt wX⟩
theorem app_any (q X Y : Nat) (wX : X < 4294967296) (wY : Y < 4294967296)
    (hT : ∀ x y, Wid X x → Wid Y y → ∀ w : World, Calls Try.prog 40 #[.agg #[.int .i64 (q : Int), .int .i64 0], .complex .f64 x y] w fun e w' =>
      ∃ r s, Wid (tq q X Y).1 r ∧ Wid (tq q X Y).2 s ∧ e = .returned (.complex .f64 r s) ∧ Below w.heap.size w w') (hq : q ≤ 3) (w : World) :
    Calls Try.prog 15 #[.agg #[.int .i64 (q : Int), .int .i64 0], .complex .f32 X Y] w (AppOut q X Y w) := by
  have us : (Try.prog.underlying 26).isSome = true := by rw [Try.underlying26]; rfl
  have us' : (Try.prog.underlying 36).isSome = true := by rw [Try.underlying36]; rfl
  have hk : okT (q : Int) 0 = true := okT_iff.2 (by omega)
  obtain ⟨l1, l2⟩ := tq_lt (q := q) wX wY
  obtain ⟨x, y, n, hx, hy, kc⟩ := run_widC (P := Try.prog) 26 36 us Try.underlying36 X Y ((w.alloc (.cells #[.int .i64 (q : Int), .int .i64 0] 25)).alloc (.cells #[.int .i64 (q : Int), .int .i64 0] 25))
  have cT := hT x y hx hy
  have Hl := Lib.hid (And.intro l1 l2)
  have Hu := Lib.hid us'
  clear us us' hx hy hT l1 l2 wX wY
  unfold AppOut
  go_enter Try.func15, Try.ntmps15
  go_wp2_with fail
  refine (implOk _ _ _).mono ?_
  rintro e w1 ⟨rfl, rfl⟩
  rw [hk]
  go_wp2_with fail
  refine (cT _).mono ?_
  rintro e w2 ⟨r, s, hr, hs', rfl, hb⟩
  have Hb := Lib.hid (below_on (B := w.heap.size) (w := w) hb (below_drewN (by go_grown) _) (by simp; omega))
  obtain ⟨u, v, m, hu, hv, kn⟩ := run_narC (P := Try.prog) 36 26 Hu.out Try.underlying26 Hl.out.1 Hl.out.2 hr hs' w2
  have Hv := Lib.hid (And.intro hu hv)
  clear hb hr hs' hu hv kc cT
  go_wp2_with fail
  go_ret
  exact ⟨u, v, Hv.out.1, Hv.out.2, rfl, below_drewN Hb.out _⟩
theorem apply_any (q X Y : Nat) (hq : q ≤ 3) (wX : X < 4294967296) (wY : Y < 4294967296) (w : World) :
    Calls Try.prog 15 #[.agg #[.int .i64 (q : Int), .int .i64 0], .complex .f32 X Y] w (AppOut q X Y w) := by
  obtain rfl | rfl | rfl | rfl : q = 0 ∨ q = 1 ∨ q = 2 ∨ q = 3 := by omega
  · exact app_any 0 X Y wX wY (fun x y hx hy w => turned0 x y X Y wX wY hx hy w) (by omega) w
  · exact app_any 1 X Y wX wY (fun x y hx hy w => turned1 x y X Y wX wY hx hy w) (by omega) w
  · exact app_any 2 X Y wX wY (fun x y hx hy w => turned2 x y X Y wX wY hx hy w) (by omega) w
  · exact app_any 3 X Y wX wY (fun x y hx hy w => turned3 x y X Y wX wY hx hy w) (by omega) w
end Go.Proofs.Ytegcgbddoeoipaa.Cpx
