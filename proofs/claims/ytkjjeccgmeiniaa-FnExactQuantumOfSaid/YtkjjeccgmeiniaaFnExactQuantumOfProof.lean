/- Proves FnExactQuantumOf: for every input the law returns true and its arguments read as before. No further condition. -/
import Derived.Test.YtkjjeccgmeiniaaRows
import Derived.Test.YtkjjeccgmeiniaaFnExactQuantumOfWalk
import Derived.WalkKit
import Derived.WalkLawsBesides
import Derived.ProofKit
import Derived.OpenShut
import Derived.ShutString
import Derived.ChangeOld
import Derived.Below
import Derived.Test.YtkjjeccgmeiniaaFacts
import Derived.Lib.SmallJoins
namespace Go.Proofs.Ytkjjeccgmeiniaa.fnExactQuantumOf
open Go.ChangeShapes Go.WideShapes Go.ChangeAt Go.RowKit
open Go.ChangeMaps (open_string shut_string)
set_option linter.unusedVariables false

theorem own : ownKnob Try.prog.godebug = none := by kernel_rfl
theorem laidOut : laidOutB Try.prog = true := by kernel_rfl

set_option maxRecDepth 100000 in
theorem lifted (os : Os) (started : os.Started) (H : Type) (enc : TypeId × Value → H) :
    ReturnsInHanded {} Try.checked os 7 .any (Rows.fnExactQuantumOfSpec.pre6 enc Try.prog Try.f7 Rows.fnExactQuantumOfRow.domain false) (Rows.fnExactQuantumOfSpec.post enc Try.prog Try.f7 false true false false) := by
  refine returnsInHanded_of_change (C := Try.checked) own started (by kernel_rfl) Try.func7
    (ChangeSpec.witness6 (enc := enc) (C := Try.checked) false ⟨#[], #[.float .f32 0, .agg #[.string ⟨#[]⟩, .int .i64 0, .int .i64 0]], []⟩ 8 (by kernel_rfl) (by kernel_rfl) (by kernel_rfl) (by kernel_rfl)) ?_
  intro W base args ds gs before hval0 hW hcnd _
  have hval : ∀ (j : Nat) t v, Try.f7.params[j]? = some t → args[j]? = some v → Value.okWide Try.prog W .any base t v := hval0
  have hW' := hW
  obtain ⟨p, q, hA0, hV, rfl, hfz, hnd⟩ := hW
  have hA : DataW.TrodAll enc Try.prog W 0 (fun _ => true) true Try.f7.params.toList args.toList ds p := hA0
  rw [Try.params7] at hA hval
  obtain ⟨v0, vs0, d0, ds0, p0, q0, hargs, rfl, rfl, h0, r0⟩ := trodAll_cons hA
  obtain ⟨v1, vs1, d1, ds1, p1, q1, rfl, rfl, rfl, h1, r1⟩ := trodAll_cons r0
  obtain ⟨rfl, rfl, rfl⟩ := trodAll_nil r1
  obtain rfl : args = #[v0, v1] := by cases args; simp_all
  obtain ⟨rfl, rfl⟩ := trodVars_none hV
  obtain ⟨a0, rfl, rfl, rfl, w0⟩ := open_float Try.underlying31 (hval 0 31 v0 rfl rfl) h0
  obtain ⟨cc0, cc1, cc2, y0, y1, y2, mm, rfl, rfl, rfl, hy0, hy1, hy2⟩ := Go.Joins.open_agg3 Try.underlying40 (by kernel_rfl) (by kernel_rfl) (hval 1 40 v1 rfl rfl) h1
  obtain ⟨a1, ea, rfl, wa1⟩ := DataW.trod_string Try.underlying9 hy0
  obtain ⟨b1, eb, rfl, wb1⟩ := DataW.trod_int Try.underlying3 hy1
  obtain ⟨c1, ec, rfl, wc1⟩ := DataW.trod_int Try.underlying3 hy2
  simp at ea eb ec
  subst ea eb ec
  have sh1 : ∀ W' sp, DataW.Trod enc Try.prog W' 0 sp true 40 (.agg #[.string a1, .int .i64 b1, .int .i64 c1]) (.agg [.lit (.string a1.data.toList), .lit (.int .i64 b1), .lit (.int .i64 c1)]) [] := fun W' sp =>
    Go.Joins.shut_agg3 (y0 := (.lit (.string a1.data.toList), [])) (y1 := (.lit (.int .i64 b1), [])) (y2 := (.lit (.int .i64 c1), [])) Try.underlying40 (by kernel_rfl) (by kernel_rfl) ⟨1, by simp [DataW.trod, Try.underlying9, wa1]⟩ ⟨1, by simp [DataW.trod, Try.underlying3, wb1]⟩ ⟨1, by simp [DataW.trod, Try.underlying3, wc1]⟩
  clear hA0 hval0
  refine (walk a0 a1 b1 c1 W w0 wa1 wb1 wc1).mono fun e W' ⟨he, bel⟩ => ?_
  subst he
  exact ⟨_, rfl, _, _, _, [], _, [], hW', trodAll_mk1 (shut_bool Try.underlying4 _), (trodAll_cons_mk (shut_float Try.underlying31 w0) (trodAll_cons_mk (sh1 _ _) trodAll_mk0)), rfl, bel.frame _, fun h => by cases h⟩

theorem closed : joinedFacts Try.pinned.checked.prog 7 Try.f7 Rows.fnExactQuantumOfSpec Rows.fnExactQuantumOfRow = true := by
  unfold joinedFacts
  rw [Facts.may_enter, Facts.make_is, Facts.lifts_final]
  kernel_rfl
theorem over : Rows.fnExactQuantumOfRow.holds Try.pinned (OpenSpec.ofChange Rows.fnExactQuantumOfSpec) :=
  OpenClaim.holds_of_wide 7 Try.f7 rfl rfl rfl rfl rfl rfl rfl ⟨rfl, rfl, rfl, rfl, rfl⟩ rfl rfl rfl rfl rfl (by kernel_rfl) Try.func7 closed
    (of_decide_eq_true (by kernel_rfl)) (by unfold Func.isWrapper; first | (rw [if_pos (by decide +kernel)]; kernel_rfl) | (rw [if_neg (by decide +kernel)]; exact ⟨rfl, rfl⟩))
    (fun os started H enc _ => lifted os started H enc)

theorem proved : Rows.FnExactQuantumOfSaid := over
#print axioms proved
end Go.Proofs.Ytkjjeccgmeiniaa.fnExactQuantumOf
