/- Proves FnExactHullSpans: for every input the law returns true and its arguments read as before. No further condition. -/
import Derived.Test.YtjmmcpeknaaaiaaRows
import Derived.Test.YtjmmcpeknaaaiaaFnExactHullSpansWalk
import Derived.WalkKit
import Derived.WalkLawsBesides
import Derived.ProofKit
import Derived.OpenShut
import Derived.ShutString
import Derived.ChangeOld
import Derived.Below
import Derived.Test.YtjmmcpeknaaaiaaFacts
import Derived.Lib.SmallJoins
namespace Go.Proofs.Ytjmmcpeknaaaiaa.fnExactHullSpans
open Go.ChangeShapes Go.WideShapes Go.ChangeAt Go.RowKit
open Go.ChangeMaps (open_string shut_string)
set_option linter.unusedVariables false

theorem own : ownKnob Try.prog.godebug = none := by kernel_rfl
theorem laidOut : laidOutB Try.prog = true := by kernel_rfl

set_option maxRecDepth 100000 in
theorem lifted (os : Os) (started : os.Started) (H : Type) (enc : TypeId × Value → H) :
    ReturnsInHanded {} Try.checked os 17 .any (Rows.fnExactHullSpansSpec.pre6 enc Try.prog Try.f17 Rows.fnExactHullSpansRow.domain false) (Rows.fnExactHullSpansSpec.post enc Try.prog Try.f17 false true false false) := by
  refine returnsInHanded_of_change (C := Try.checked) own started (by kernel_rfl) Try.func17
    (ChangeSpec.witness6 (enc := enc) (C := Try.checked) false ⟨#[], #[.agg #[.float .f32 0, .float .f32 0], .agg #[.float .f32 0, .float .f32 0]], []⟩ 8 (by kernel_rfl) (by kernel_rfl) (by kernel_rfl) (by kernel_rfl)) ?_
  intro W base args ds gs before hval0 hW hcnd _
  have hval : ∀ (j : Nat) t v, Try.f17.params[j]? = some t → args[j]? = some v → Value.okWide Try.prog W .any base t v := hval0
  have hW' := hW
  obtain ⟨p, q, hA0, hV, rfl, hfz, hnd⟩ := hW
  have hA : DataW.TrodAll enc Try.prog W 0 (fun _ => true) true Try.f17.params.toList args.toList ds p := hA0
  rw [Try.params17] at hA hval
  obtain ⟨v0, vs0, d0, ds0, p0, q0, hargs, rfl, rfl, h0, r0⟩ := trodAll_cons hA
  obtain ⟨v1, vs1, d1, ds1, p1, q1, rfl, rfl, rfl, h1, r1⟩ := trodAll_cons r0
  obtain ⟨rfl, rfl, rfl⟩ := trodAll_nil r1
  obtain rfl : args = #[v0, v1] := by cases args; simp_all
  obtain ⟨rfl, rfl⟩ := trodVars_none hV
  obtain ⟨c0, e0, y0, z0, m0, rfl, rfl, rfl, hy0, hz0⟩ := Go.Joins.open_agg2 Try.underlying44 (by kernel_rfl) (by kernel_rfl) (hval 0 44 v0 rfl rfl) h0
  obtain ⟨a0, rfl, rfl, wa0⟩ := Spn.trod_f32d Try.underlying24 hy0
  obtain ⟨b0, rfl, rfl, wb0⟩ := Spn.trod_f32d Try.underlying24 hz0
  have sh0 : ∀ W' sp, DataW.Trod enc Try.prog W' 0 sp true 44 (.agg #[.float .f32 a0, .float .f32 b0]) (.agg [.lit (.float .f32 a0), .lit (.float .f32 b0)]) [] := fun W' sp =>
    Go.Joins.shut_agg2 (y0 := (.lit (.float .f32 a0), [])) (y1 := (.lit (.float .f32 b0), [])) Try.underlying44 (by kernel_rfl) (by kernel_rfl) ⟨1, by simp [DataW.trod, Try.underlying24, wa0]⟩ ⟨1, by simp [DataW.trod, Try.underlying24, wb0]⟩
  obtain ⟨c1, e1, y1, z1, m1, rfl, rfl, rfl, hy1, hz1⟩ := Go.Joins.open_agg2 Try.underlying44 (by kernel_rfl) (by kernel_rfl) (hval 1 44 v1 rfl rfl) h1
  obtain ⟨a1, rfl, rfl, wa1⟩ := Spn.trod_f32d Try.underlying24 hy1
  obtain ⟨b1, rfl, rfl, wb1⟩ := Spn.trod_f32d Try.underlying24 hz1
  have sh1 : ∀ W' sp, DataW.Trod enc Try.prog W' 0 sp true 44 (.agg #[.float .f32 a1, .float .f32 b1]) (.agg [.lit (.float .f32 a1), .lit (.float .f32 b1)]) [] := fun W' sp =>
    Go.Joins.shut_agg2 (y0 := (.lit (.float .f32 a1), [])) (y1 := (.lit (.float .f32 b1), [])) Try.underlying44 (by kernel_rfl) (by kernel_rfl) ⟨1, by simp [DataW.trod, Try.underlying24, wa1]⟩ ⟨1, by simp [DataW.trod, Try.underlying24, wb1]⟩
  clear hA0 hval0
  refine (walk a0 b0 a1 b1 W wa0 wb0 wa1 wb1).mono fun e W' ⟨he, bel⟩ => ?_
  subst he
  exact ⟨_, rfl, _, _, _, [], _, [], hW', trodAll_mk1 (shut_bool Try.underlying4 _), (trodAll_cons_mk (sh0 _ _) (trodAll_cons_mk (sh1 _ _) trodAll_mk0)), rfl, bel.frame _, fun h => by cases h⟩

theorem closed : joinedFacts Try.pinned.checked.prog 17 Try.f17 Rows.fnExactHullSpansSpec Rows.fnExactHullSpansRow = true := by
  unfold joinedFacts
  rw [Facts.may_enter, Facts.make_is, Facts.lifts_final]
  kernel_rfl
theorem over : Rows.fnExactHullSpansRow.holds Try.pinned (OpenSpec.ofChange Rows.fnExactHullSpansSpec) :=
  OpenClaim.holds_of_wide 17 Try.f17 rfl rfl rfl rfl rfl rfl rfl ⟨rfl, rfl, rfl, rfl, rfl⟩ rfl rfl rfl rfl rfl (by kernel_rfl) Try.func17 closed
    (of_decide_eq_true (by kernel_rfl)) (by unfold Func.isWrapper; first | (rw [if_pos (by decide +kernel)]; kernel_rfl) | (rw [if_neg (by decide +kernel)]; exact ⟨rfl, rfl⟩))
    (fun os started H enc _ => lifted os started H enc)

theorem proved : Rows.FnExactHullSpansSaid := over
#print axioms proved
end Go.Proofs.Ytjmmcpeknaaaiaa.fnExactHullSpans
