/- Sums of spans in the program, at small ends. -/
import Derived.Test.YtjmmcpeknaaaiaaSpnE
import Derived.Test.YtjmmcpeknaaaiaaSpnY
import Derived.Test.YtjmmcpeknaaaiaaSpnW
import Derived.Test.YtjmmcpeknaaaiaaSpnF
namespace Go.Proofs.Ytjmmcpeknaaaiaa.Spn
open Go.ChangeShapes Go.WideShapes Go.ChangeAt Go.RowKit Go.Deep Go.Proofs.Ytjmmcpeknaaaiaa Go.Proofs.Ytjmmcpeknaaaiaa.Flt Go.Proofs.Ytjmmcpeknaaaiaa.Mth
open Ieee (single double)
set_option linter.unusedVariables false
set_option linter.unusedSimpArgs false
set_option maxRecDepth 20000
/-- a double that can be rounded outward -/
def Gd (z : Nat) : Prop := z < 18446744073709551616 ∧ rung double z < double.infRung ∧ nrw (rung double z) < single.infRung
theorem outward_any (l h : Nat) (w : World) (gl : Gd l) (gh : Gd h) :
    Calls Try.prog 100 #[.float .f64 l, .float .f64 h] w fun e w' => e = .returned (ivv (rdW l) (ruW h) (leB (rdW l) (ruW h))) ∧ w' = (w.alloc (.cells #[.float .f32 (rdW l), .float .f32 (ruW h), .bool (leB (rdW l) (ruW h))] 76)).alloc (.cells #[.float .f32 (rdW l), .float .f32 (ruW h), .bool (leB (rdW l) (ruW h))] 76) := by
  have c1 := fun w => impl_rd l w gl.1 gl.2.1 gl.2.2
  have c2 := fun w => impl_ru h w gh.1 gh.2.1 gh.2.2
  have ci := fun w => interval_any (rdW l) (ruW h) w
  clear gl gh
  generalize leB (rdW l) (ruW h) = ok at *
  generalize rdW l = p at *
  generalize ruW h = q at *
  unfold ivv at ci ⊢
  go_enter Try.func100, Try.ntmps100
  go_wp2_with fail
  refine (c1 _).mono ?_
  rintro e w1 ⟨rfl, rfl⟩
  go_wp2_with fail
  refine (c2 _).mono ?_
  rintro e w1 ⟨rfl, rfl⟩
  go_wp2_with fail
  refine (ci _).mono ?_
  rintro e w1 ⟨rfl, rfl⟩
  go_wp2_with fail
  refine bodyPost_ret (by simp [results, Try.results100, go_sem]; try rfl) rfl ?_
  exact ⟨rfl, rfl⟩
theorem addints_any (a b c d l h : Nat) (w : World) (sa : Sm a) (sb : Sm b) (sc : Sm c) (sd : Sm d) (hl : floatBits .add .f64 (widen a) (widen c) = some l) (hh : floatBits .add .f64 (widen b) (widen d) = some h) (gl : Gd l) (gh : Gd h) :
    Calls Try.prog 73 #[ivv a b true, ivv c d true] w fun e w' => e = .returned (ivv (rdW l) (ruW h) (leB (rdW l) (ruW h))) ∧ Below w.heap.size w w' := by
  have co := fun w => outward_any l h w gl gh
  have ka := run_wid (fn_num sa.fn)
  have kb := run_wid (fn_num sb.fn)
  have kc := run_wid (fn_num sc.fn)
  have kd := run_wid (fn_num sd.fn)
  have s1 := fun w => run_float_arith (P := Try.prog) w .add 28 .f64 _ _ _ hl
  have s2 := fun w => run_float_arith (P := Try.prog) w .add 28 .f64 _ _ _ hh
  clear sa sb sc sd hl hh gl gh
  generalize leB (rdW l) (ruW h) = ok at *
  generalize rdW l = p at *
  generalize ruW h = q at *
  generalize widen a = xa at *
  generalize widen b = xb at *
  generalize widen c = xc at *
  generalize widen d = xd at *
  unfold ivv at co ⊢
  go_enter Try.func73, Try.ntmps73
  go_wp2_with fail
  refine (co _).mono ?_
  rintro e w1 ⟨rfl, rfl⟩
  go_wp2_with fail
  refine bodyPost_ret (by simp [results, Try.results73, go_sem]; try rfl) rfl ?_
  exact ⟨rfl, by go_grown⟩
theorem ent_addints : ∀ args w, (callFunc 73 args).run Try.prog w = .ok (.enter 73 args) w := ent _ _ _ Try.func73 (by kernel_rfl) rfl
theorem impl_add (a b c d l h : Nat) (w : World) (sa : Sm a) (sb : Sm b) (sc : Sm c) (sd : Sm d) (hl : floatBits .add .f64 (widen a) (widen c) = some l) (hh : floatBits .add .f64 (widen b) (widen d) = some h) (gl : Gd l) (gh : Gd h)
    (h1 : leB a b = true) (h2 : leB c d = true) (h3 : leB (rdW l) (ruW h) = true) :
    Calls Try.prog 31 #[pv a b, pv c d] w fun e w' => e = .returned (.tuple #[pv (rdW l) (ruW h), .bool true]) ∧ Below w.heap.size w w' := by
  have hc := fun w => combined_any _ ent_addints a b c d (rdW l) (ruW h) (leB (rdW l) (ruW h)) w (fun _ _ w => addints_any a b c d l h w sa sb sc sd hl hh gl gh)
  rw [h1, h2, h3] at hc
  clear h1 h2 h3 hl hh gl gh sa sb sc sd
  generalize rdW l = p at *
  generalize ruW h = q at *
  change ∀ w, Calls Try.prog 72 #[pv a b, pv c d, .func (.func 73) #[] #[]] w fun e w' => e = .returned (.tuple #[pv p q, .bool true]) ∧ Below w.heap.size w w' at hc
  unfold pv at hc ⊢
  go_enter Try.func31, Try.ntmps31
  go_wp2_with fail
  obtain ⟨w0, hw0⟩ : ∃ w0, w0 = ((w.alloc (.cells #[.float .f32 a, .float .f32 b] 32)).alloc (.cells #[.float .f32 c, .float .f32 d] 32)).alloc (.cells #[.float .f32 0, .float .f32 0] 32) := ⟨_, rfl⟩
  have Hb0 := Lib.hid (show Below w.heap.size w w0 by rw [hw0]; go_grown)
  have Hr0 := Lib.hid (show Blk w0 (w.heap.size + 1 + 1) #[.float .f32 0, .float .f32 0] 32 by rw [hw0]; exact Blk.new (by simp))
  rw [← hw0]
  clear hw0
  refine (hc _).mono ?_
  rintro e w1 ⟨rfl, hb1⟩
  have Hr1 := Lib.hid (Hr0.out.keep hb1)
  have Hb1 := Lib.hid (Hb0.out.trans (hb1.mono Hb0.out.size))
  have t0 := Hr1.out.cell 0 rfl
  have t1 := Hr1.out.cell 1 rfl
  have z0 := Hr1.out.free 0
  have z1 := Hr1.out.free 1
  clear hb1
  go_wp2_with fail
  obtain ⟨d0, d1, _⟩ := Hr1.out.two p q
  refine bodyPost_ret (by simp [results, Try.results31, go_sem, d0, d1]; try rfl) rfl ?_
  refine ⟨rfl, ?_⟩
  exact (Hb1.out.setCell (by simp; omega) _).setCell (by simp; omega) _
end Go.Proofs.Ytjmmcpeknaaaiaa.Spn
