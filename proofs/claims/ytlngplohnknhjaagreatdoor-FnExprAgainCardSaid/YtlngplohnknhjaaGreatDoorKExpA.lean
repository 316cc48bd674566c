/- The program's nodes inside, and NodeOk of valid nodes. -/
import Derived.Test.YtlngplohnknhjaaGreatDoorPkA
import Derived.Test.YtlngplohnknhjaaGreatDoorPkB
namespace Go.Proofs.YtlngplohnknhjaaGreatDoor.Ex
open Go.ChangeShapes Go.WideShapes Go.ChangeAt Go.RowKit Go.Proofs.YtlngplohnknhjaaGreatDoor Go.Proofs.YtlngplohnknhjaaGreatDoor.Flt Go.Proofs.YtlngplohnknhjaaGreatDoor.Mth Go.Proofs.YtlngplohnknhjaaGreatDoor.Cpx
open Ieee (single double)
set_option linter.unusedVariables false
def txt (k : Int) : ByteArray := if k = 3 ∨ k = 8 then ⟨#[43]⟩ else if k = 4 ∨ k = 9 then ⟨#[45]⟩ else if k = 5 then ⟨#[99, 111, 110, 106]⟩ else if k = 6 then ⟨#[114, 101]⟩ else if k = 7 then ⟨#[105, 109]⟩ else if k = 10 then ⟨#[42]⟩ else if k = 11 then ⟨#[47]⟩ else ⟨#[61]⟩
def stg (k : Int) : Int := if k = 3 ∨ k = 4 then 4 else if k = 5 ∨ k = 6 ∨ k = 7 then 5 else if k = 8 ∨ k = 9 then 2 else if k = 10 ∨ k = 11 then 3 else 1
/-- a node inside -/
def opV (k : Int) : Value := .iface 77 (.agg #[.string (txt k), .int .i64 (stg k)])
def numVal (x y : Nat) : Value := .iface 72 (.agg #[.complex .f64 x y])
def slotVal (s : Int) : Value := .iface 75 (.agg #[.int .i64 s])
theorem ta_nn (v : Value) (W : World) : (Instr.typeAssert (.iface 72 v) 69 72 true).run Tryz.prog W = .ok (.tuple #[v, .bool true]) W := by kernel_rfl
theorem ta_ns (v : Value) (W : World) : (Instr.typeAssert (.iface 72 v) 69 75 true).run Tryz.prog W = .ok (.tuple #[.agg #[.int .i64 0], .bool false]) W := by kernel_rfl
theorem ta_no (v : Value) (W : World) : (Instr.typeAssert (.iface 72 v) 69 77 true).run Tryz.prog W = .ok (.tuple #[.agg #[.string ⟨#[]⟩, .int .i64 0], .bool false]) W := by kernel_rfl
theorem ta_sn (v : Value) (W : World) : (Instr.typeAssert (.iface 75 v) 69 72 true).run Tryz.prog W = .ok (.tuple #[.agg #[.complex .f64 0 0], .bool false]) W := by kernel_rfl
theorem ta_ss (v : Value) (W : World) : (Instr.typeAssert (.iface 75 v) 69 75 true).run Tryz.prog W = .ok (.tuple #[v, .bool true]) W := by kernel_rfl
theorem ta_so (v : Value) (W : World) : (Instr.typeAssert (.iface 75 v) 69 77 true).run Tryz.prog W = .ok (.tuple #[.agg #[.string ⟨#[]⟩, .int .i64 0], .bool false]) W := by kernel_rfl
theorem ta_on (v : Value) (W : World) : (Instr.typeAssert (.iface 77 v) 69 72 true).run Tryz.prog W = .ok (.tuple #[.agg #[.complex .f64 0 0], .bool false]) W := by kernel_rfl
theorem ta_os (v : Value) (W : World) : (Instr.typeAssert (.iface 77 v) 69 75 true).run Tryz.prog W = .ok (.tuple #[.agg #[.int .i64 0], .bool false]) W := by kernel_rfl
theorem ta_oo (v : Value) (W : World) : (Instr.typeAssert (.iface 77 v) 69 77 true).run Tryz.prog W = .ok (.tuple #[v, .bool true]) W := by kernel_rfl
set_option maxHeartbeats 1600000 in
theorem part_num (s : Int) (x y : Nat) (w : World) :
    Calls Tryz.prog 34 #[.agg #[.int .i64 1, .int .i64 s, .complex .f64 x y]] w fun e w' => e = .returned (numVal x y) ∧ w' = w.alloc (.cells #[.int .i64 1, .int .i64 s, .complex .f64 x y] 44) := by
  go_enter Tryz.func34, Tryz.ntmps34
  go_wp2_with fail
  go_ret
  exact ⟨rfl, rfl⟩
set_option maxHeartbeats 1600000 in
theorem part_slot (s : Int) (x y : Nat) (w : World) :
    Calls Tryz.prog 34 #[.agg #[.int .i64 2, .int .i64 s, .complex .f64 x y]] w fun e w' => e = .returned (slotVal s) ∧ w' = w.alloc (.cells #[.int .i64 2, .int .i64 s, .complex .f64 x y] 44) := by
  go_enter Tryz.func34, Tryz.ntmps34
  go_wp2_with fail
  go_ret
  exact ⟨rfl, rfl⟩
set_option maxHeartbeats 3200000 in
theorem part_op (k s : Int) (x y : Nat) (w : World) (hk : 3 ≤ k ∧ k ≤ 12) :
    Calls Tryz.prog 34 #[.agg #[.int .i64 k, .int .i64 s, .complex .f64 x y]] w fun e w' => e = .returned (opV k) ∧ w' = w.alloc (.cells #[.int .i64 k, .int .i64 s, .complex .f64 x y] 44) := by
  obtain rfl | rfl | rfl | rfl | rfl | rfl | rfl | rfl | rfl | rfl : k = 3 ∨ k = 4 ∨ k = 5 ∨ k = 6 ∨ k = 7 ∨ k = 8 ∨ k = 9 ∨ k = 10 ∨ k = 11 ∨ k = 12 := by omega
  all_goals
    go_enter Tryz.func34, Tryz.ntmps34
    go_wp2_with fail
    go_ret
    exact ⟨rfl, rfl⟩
theorem oper_num (x y : Nat) (w : World) : Calls Tryz.prog 181 #[.agg #[.complex .f64 x y]] w fun e w' => e = .returned (.int .i64 0) ∧ Below w.heap.size w w' := by
  go_enter Tryz.func181, Tryz.ntmps181
  go_wp2_with fail
  go_ret
  exact ⟨rfl, by go_grown⟩
theorem oper_slot (s : Int) (w : World) : Calls Tryz.prog 182 #[.agg #[.int .i64 s]] w fun e w' => e = .returned (.int .i64 0) ∧ Below w.heap.size w w' := by
  go_enter Tryz.func182, Tryz.ntmps182
  go_wp2_with fail
  go_ret
  exact ⟨rfl, by go_grown⟩
theorem stg_ar {k : Int} (hk : 3 ≤ k ∧ k ≤ 12) : (4 ≤ stg k ∧ ar k = 1) ∨ (stg k < 4 ∧ ar k = 2) := by
  obtain rfl | rfl | rfl | rfl | rfl | rfl | rfl | rfl | rfl | rfl : k = 3 ∨ k = 4 ∨ k = 5 ∨ k = 6 ∨ k = 7 ∨ k = 8 ∨ k = 9 ∨ k = 10 ∨ k = 11 ∨ k = 12 := by omega
  all_goals decide
theorem oper_op (k : Int) (w : World) (hk : 3 ≤ k ∧ k ≤ 12) : Calls Tryz.prog 183 #[.agg #[.string (txt k), .int .i64 (stg k)]] w fun e w' => e = .returned (.int .i64 (ar k : Nat)) ∧ Below w.heap.size w w' := by
  rcases stg_ar hk with ⟨h1, h2⟩ | ⟨h1, h2⟩
  all_goals
    rw [h2]
    generalize txt k = tx
    generalize stg k = st at *
    clear h2 hk
    go_enter Tryz.func183, Tryz.ntmps183
    go_wp2_with fail
    go_ret
    exact ⟨rfl, by go_grown⟩
/-! numbers -/
theorem low_sgl {x : Nat} (h : x < 2139095040) : isNaN single x = false ∧ rung single x = x ∧ sgn single x = false := by
  have hr : rung single x = x := by unfold rung; rw [show single.signWeight = 2147483648 from rfl]; exact Nat.mod_eq_of_lt (by omega)
  refine ⟨?_, hr, ?_⟩
  · unfold isNaN; rw [hr]; exact decide_eq_false (by rw [show single.infRung = 2139095040 from rfl]; omega)
  · unfold sgn; rw [show single.signWeight = 2147483648 from rfl, Nat.div_eq_of_lt (by omega)]; rfl
theorem run_nar' {a x : Nat} (h : floatToFloatBits .f64 a .f32 = some x) (w : World) : (convert 60 92 (.float .f64 a)).run Tryz.prog w = .ok (.float .f32 x) w :=
  run_convert_float_float (P := Tryz.prog) w 60 92 .f64 .f32 a x (by rw [Tryz.underlying60]; rfl) Tryz.underlying92 h
theorem wid_f {f : Nat} (hf : f < 2139095040) : isFinD (widen f) = true ∧ sgn double (widen f) = false ∧ floatToFloatBits .f64 (widen f) .f32 = some f := by
  obtain ⟨h1, h2, h3⟩ := low_sgl hf
  refine ⟨?_, by rw [sgn_widen, h3], narrow_widen (by rw [show single.width = 32 from rfl]; omega) h1⟩
  rw [isFin_widen, h2]; exact decide_eq_true (by rw [show single.infRung = 2139095040 from rfl]; omega)
theorem plain_any (f : Nat) (hf : f < 2139095040) (w : World) : Calls Tryz.prog 75 #[.float .f64 (widen f)] w fun e w' => e = .returned (.bool true) ∧ w' = w := by
  obtain ⟨f1, f2, f3⟩ := wid_f hf
  have hl := widen_wl f
  have c1 := fun W => fin_any (widen f) W hl
  have c2 := fun W => signbit_any (widen f) W hl
  have k1 := fun W => run_nar' f3 W
  have k2 := fun W => run_widen (P := Tryz.prog) 92 60 f (by rw [Tryz.underlying92]; rfl) Tryz.underlying60 (low_sgl hf).1 W
  have ke : (FloatKind.f64.format.order (widen f) (widen f) == some .eq) = true := by rw [eq64, eqW_self, isNaN_widen]; rfl
  rw [f1] at c1
  rw [f2] at c2
  generalize widen f = x at *
  clear f1 f2 f3 hl
  go_enter Tryz.func75, Tryz.ntmps75
  go_wp2_with fail
  refine (c1 _).mono ?_
  rintro e w' ⟨rfl, rfl⟩
  go_wp2_with fail
  refine (c2 _).mono ?_
  rintro e w' ⟨rfl, rfl⟩
  go_wp2_with fail
  go_ret
  exact ⟨rfl, rfl⟩
theorem wid0 : widen 0 = 0 := by decide +kernel
theorem num_any (f g : Nat) (hf : f < 2139095040) (hg : g < 2139095040) (h : f = 0 ∨ g = 0) (w : World) : Calls Tryz.prog 60 #[.complex .f64 (widen f) (widen g)] w fun e w' => e = .returned (.bool true) ∧ w' = w := by
  have c1 := fun W => plain_any f hf W
  have c2 := fun W => plain_any g hg W
  have hz : (FloatKind.f64.format.order (widen f) 0 == some .eq) = true ∨ (FloatKind.f64.format.order (widen f) 0 == some .eq) = false ∧ (FloatKind.f64.format.order (widen g) 0 == some .eq) = true := by
    rcases h with rfl | rfl
    · left; rw [wid0]; decide
    · rw [wid0]
      cases e : (FloatKind.f64.format.order (widen f) 0 == some .eq)
      · right; exact ⟨rfl, by decide⟩
      · exact .inl rfl
  clear h hf hg
  generalize widen f = x at *
  generalize widen g = y at *
  rcases hz with h1 | ⟨h1, h2⟩
  all_goals
    go_enter Tryz.func60, Tryz.ntmps60
    go_wp2_with fail
    refine (c1 _).mono ?_
    rintro e w' ⟨rfl, rfl⟩
    go_wp2_with fail
    refine (c2 _).mono ?_
    rintro e w' ⟨rfl, rfl⟩
    go_wp2_with fail
    go_ret
    exact ⟨rfl, rfl⟩
theorem sameC_any (x y : Nat) (w : World) (hx : x < 18446744073709551616) (hy : y < 18446744073709551616) : Calls Tryz.prog 59 #[.complex .f64 x y, .complex .f64 0 0] w fun e w' => e = .returned (.bool (sameW double x 0 && sameW double y 0)) ∧ w' = w := by
  have c1 := fun W => SamF.sameFloat_any x 0 W hx (by decide)
  have c2 := fun W => SamF.sameFloat_any y 0 W hy (by decide)
  clear hx hy
  generalize sameW double x 0 = a at *
  generalize sameW double y 0 = b at *
  cases a
  · go_enter Tryz.func59, Tryz.ntmps59
    go_wp2_with fail
    refine (c1 _).mono ?_
    rintro e w' ⟨rfl, rfl⟩
    go_wp2_with fail
    go_ret
    exact ⟨rfl, rfl⟩
  · go_enter Tryz.func59, Tryz.ntmps59
    go_wp2_with fail
    refine (c1 _).mono ?_
    rintro e w' ⟨rfl, rfl⟩
    go_wp2_with fail
    refine (c2 _).mono ?_
    rintro e w' ⟨rfl, rfl⟩
    go_wp2_with fail
    go_ret
    exact ⟨rfl, rfl⟩
/-- both parts of a number's value -/
theorem NV.two {x y : Nat} (h : NV x y) : ∃ f g, (f < 2139095040 ∧ g < 2139095040 ∧ (f = 0 ∨ g = 0)) ∧ x = widen f ∧ y = widen g := by
  obtain ⟨f, hf, ⟨rfl, rfl⟩ | ⟨rfl, rfl, _⟩⟩ := h
  · exact ⟨f, 0, ⟨hf, by decide, .inr rfl⟩, rfl, wid0.symm⟩
  · exact ⟨0, f, ⟨by decide, hf, .inl rfl⟩, wid0.symm, rfl⟩
theorem NV.fin {x y : Nat} (h : NV x y) : (isFinD x = true ∧ isFinD y = true) ∧ x < 18446744073709551616 ∧ y < 18446744073709551616 := by
  obtain ⟨f, g, ⟨hf, hg, _⟩, rfl, rfl⟩ := h.two
  exact ⟨⟨(wid_f hf).1, (wid_f hg).1⟩, widen_wl f, widen_wl g⟩
end Go.Proofs.YtlngplohnknhjaaGreatDoor.Ex
