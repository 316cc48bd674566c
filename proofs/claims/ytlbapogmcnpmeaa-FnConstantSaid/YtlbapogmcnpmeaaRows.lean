/-
  No cell of these rows narrows 'for every input' (looked for: loops, veiled, ifaces, maps, wideKeys, modest, calm, conditions, laid).
  DERIVED. THE GIVEN ROWS OF THIS SEAT. 13 by the template 'for every input the law returns true; each argument reads behind the call as it read before'; 0 by the template 'total and deterministic' (their statements: YtlbapogmcnpmeaaTotals.lean).
  GIVEN WITH THE SEED: the statements are not yours to turn. If you find one false, say at which input.
  Laid BY PROGRAM, IN A SANDBOX (cutbox-rows.mjs): the forced cells as the released guide's own fill.sh prints them over the translation 30b11e244b365567… (all of the seat's roots in one cut). By AI agents, Wed Nov 11 2026. No macro, syntax, notation, axiom, sorry.
-/
import Derived.Test.YtlbapogmcnpmeaaChecked
import GoSem.Claim
import GoSem.ClaimJoined
import GoSem.ClaimMapViews
import Derived.JoinedTies
import Derived.KernelRfl
namespace Go.Proofs.Ytlbapogmcnpmeaa
/- THE CELL 'sum', in the pinned program and in every row, IS THE sha256 OF THE DUMP (.gsa) THAT YtlbapogmcnpmeaaProg.lean LOADS. Nothing in Lean hashes anything: it is a label: what it is worth is what the hold of that sum in a sandbox is worth. -/
noncomputable def Try.pinned : Pinned := { name := "ytlbapogmcnpmeaa", sum := "30b11e244b36556795069c618442564939c7b55a2e0402da25e7f85867cf5ae6", checked := Try.checked }
namespace Rows
def none {H : Type} : Left H := { results := [], args := [] }

/-- 'laws.FnExactSumInOrder': WHATEVER THE INPUT: true; the input reads as it did. -/
def fnExactSumInOrderSpec : ChangeSpec := { name := "fnExactSumInOrder", fn := fun _ => fun
  | [d] => { results := [.lit (.bool true)], args := [d] }
  | _ => none }
def fnExactSumInOrderRow : OpenClaim := { program := "ytlbapogmcnpmeaa", sum := "30b11e244b36556795069c618442564939c7b55a2e0402da25e7f85867cf5ae6", func := "loop.example/g03320/laws.FnExactSumInOrder", spec := "fnExactSumInOrder", inPlace := ["math.Float64bits", "math.Float64frombits"], unfollowed := true, recurses := true, apart := false }
def FnExactSumInOrderSaid : Prop := fnExactSumInOrderRow.holds Try.pinned (OpenSpec.ofChange fnExactSumInOrderSpec)

/-- ITS FALSE NEIGHBOUR: 'it returns false'. Refute it at one input. -/
def fnExactSumInOrderWrong : ChangeSpec := { name := "fnExactSumInOrder", fn := fun _ => fun
  | [d] => { results := [.lit (.bool false)], args := [d] }
  | _ => none }
def FnExactSumInOrderWrongFalsely : Prop := fnExactSumInOrderRow.holds Try.pinned (OpenSpec.ofChange fnExactSumInOrderWrong)

/-- 'laws.FnExactPairSum': WHATEVER THE INPUT: true; the input reads as it did. -/
def fnExactPairSumSpec : ChangeSpec := { name := "fnExactPairSum", fn := fun _ => fun
  | [d] => { results := [.lit (.bool true)], args := [d] }
  | _ => none }
def fnExactPairSumRow : OpenClaim := { program := "ytlbapogmcnpmeaa", sum := "30b11e244b36556795069c618442564939c7b55a2e0402da25e7f85867cf5ae6", func := "loop.example/g03320/laws.FnExactPairSum", spec := "fnExactPairSum", inPlace := ["math.Float64bits", "math.Float64frombits"], unfollowed := true, recurses := true, apart := false }
def FnExactPairSumSaid : Prop := fnExactPairSumRow.holds Try.pinned (OpenSpec.ofChange fnExactPairSumSpec)

/-- ITS FALSE NEIGHBOUR: 'it returns false'. Refute it at one input. -/
def fnExactPairSumWrong : ChangeSpec := { name := "fnExactPairSum", fn := fun _ => fun
  | [d] => { results := [.lit (.bool false)], args := [d] }
  | _ => none }
def FnExactPairSumWrongFalsely : Prop := fnExactPairSumRow.holds Try.pinned (OpenSpec.ofChange fnExactPairSumWrong)

/-- 'laws.FnExactMeanOf': WHATEVER THE INPUT: true; the input reads as it did. -/
def fnExactMeanOfSpec : ChangeSpec := { name := "fnExactMeanOf", fn := fun _ => fun
  | [d] => { results := [.lit (.bool true)], args := [d] }
  | _ => none }
def fnExactMeanOfRow : OpenClaim := { program := "ytlbapogmcnpmeaa", sum := "30b11e244b36556795069c618442564939c7b55a2e0402da25e7f85867cf5ae6", func := "loop.example/g03320/laws.FnExactMeanOf", spec := "fnExactMeanOf", inPlace := ["math.Float64bits", "math.Float64frombits"], unfollowed := true, recurses := true, apart := false }
def FnExactMeanOfSaid : Prop := fnExactMeanOfRow.holds Try.pinned (OpenSpec.ofChange fnExactMeanOfSpec)

/-- ITS FALSE NEIGHBOUR: 'it returns false'. Refute it at one input. -/
def fnExactMeanOfWrong : ChangeSpec := { name := "fnExactMeanOf", fn := fun _ => fun
  | [d] => { results := [.lit (.bool false)], args := [d] }
  | _ => none }
def FnExactMeanOfWrongFalsely : Prop := fnExactMeanOfRow.holds Try.pinned (OpenSpec.ofChange fnExactMeanOfWrong)

/-- 'laws.FnExactSpreadOf': WHATEVER THE INPUT: true; the input reads as it did. -/
def fnExactSpreadOfSpec : ChangeSpec := { name := "fnExactSpreadOf", fn := fun _ => fun
  | [d] => { results := [.lit (.bool true)], args := [d] }
  | _ => none }
def fnExactSpreadOfRow : OpenClaim := { program := "ytlbapogmcnpmeaa", sum := "30b11e244b36556795069c618442564939c7b55a2e0402da25e7f85867cf5ae6", func := "loop.example/g03320/laws.FnExactSpreadOf", spec := "fnExactSpreadOf", inPlace := ["math.Float64bits", "math.Float64frombits"], unfollowed := true, recurses := true, apart := false }
def FnExactSpreadOfSaid : Prop := fnExactSpreadOfRow.holds Try.pinned (OpenSpec.ofChange fnExactSpreadOfSpec)

/-- ITS FALSE NEIGHBOUR: 'it returns false'. Refute it at one input. -/
def fnExactSpreadOfWrong : ChangeSpec := { name := "fnExactSpreadOf", fn := fun _ => fun
  | [d] => { results := [.lit (.bool false)], args := [d] }
  | _ => none }
def FnExactSpreadOfWrongFalsely : Prop := fnExactSpreadOfRow.holds Try.pinned (OpenSpec.ofChange fnExactSpreadOfWrong)

/-- 'laws.FnExactMiddleOf': WHATEVER THE INPUT: true; the input reads as it did. -/
def fnExactMiddleOfSpec : ChangeSpec := { name := "fnExactMiddleOf", fn := fun _ => fun
  | [d] => { results := [.lit (.bool true)], args := [d] }
  | _ => none }
def fnExactMiddleOfRow : OpenClaim := { program := "ytlbapogmcnpmeaa", sum := "30b11e244b36556795069c618442564939c7b55a2e0402da25e7f85867cf5ae6", func := "loop.example/g03320/laws.FnExactMiddleOf", spec := "fnExactMiddleOf", inPlace := ["math.Float64bits", "math.Float64frombits"], unfollowed := true, recurses := true, apart := false }
def FnExactMiddleOfSaid : Prop := fnExactMiddleOfRow.holds Try.pinned (OpenSpec.ofChange fnExactMiddleOfSpec)

/-- ITS FALSE NEIGHBOUR: 'it returns false'. Refute it at one input. -/
def fnExactMiddleOfWrong : ChangeSpec := { name := "fnExactMiddleOf", fn := fun _ => fun
  | [d] => { results := [.lit (.bool false)], args := [d] }
  | _ => none }
def FnExactMiddleOfWrongFalsely : Prop := fnExactMiddleOfRow.holds Try.pinned (OpenSpec.ofChange fnExactMiddleOfWrong)

/-- 'laws.FnExactMovingMeans': WHATEVER THE INPUT: true; the input reads as it did. -/
def fnExactMovingMeansSpec : ChangeSpec := { name := "fnExactMovingMeans", fn := fun _ => fun
  | [d1, d2] => { results := [.lit (.bool true)], args := [d1, d2] }
  | _ => none }
def fnExactMovingMeansRow : OpenClaim := { program := "ytlbapogmcnpmeaa", sum := "30b11e244b36556795069c618442564939c7b55a2e0402da25e7f85867cf5ae6", func := "loop.example/g03320/laws.FnExactMovingMeans", spec := "fnExactMovingMeans", inPlace := ["math.Float64bits", "math.Float64frombits"], unfollowed := true, recurses := true, apart := false }
def FnExactMovingMeansSaid : Prop := fnExactMovingMeansRow.holds Try.pinned (OpenSpec.ofChange fnExactMovingMeansSpec)

/-- ITS FALSE NEIGHBOUR: 'it returns false'. Refute it at one input. -/
def fnExactMovingMeansWrong : ChangeSpec := { name := "fnExactMovingMeans", fn := fun _ => fun
  | [d1, d2] => { results := [.lit (.bool false)], args := [d1, d2] }
  | _ => none }
def FnExactMovingMeansWrongFalsely : Prop := fnExactMovingMeansRow.holds Try.pinned (OpenSpec.ofChange fnExactMovingMeansWrong)

/-- 'laws.FnExactDriftOf': WHATEVER THE INPUT: true; the input reads as it did. -/
def fnExactDriftOfSpec : ChangeSpec := { name := "fnExactDriftOf", fn := fun _ => fun
  | [d] => { results := [.lit (.bool true)], args := [d] }
  | _ => none }
def fnExactDriftOfRow : OpenClaim := { program := "ytlbapogmcnpmeaa", sum := "30b11e244b36556795069c618442564939c7b55a2e0402da25e7f85867cf5ae6", func := "loop.example/g03320/laws.FnExactDriftOf", spec := "fnExactDriftOf", inPlace := ["math.Float64bits", "math.Float64frombits"], unfollowed := true, recurses := true, apart := false }
def FnExactDriftOfSaid : Prop := fnExactDriftOfRow.holds Try.pinned (OpenSpec.ofChange fnExactDriftOfSpec)

/-- ITS FALSE NEIGHBOUR: 'it returns false'. Refute it at one input. -/
def fnExactDriftOfWrong : ChangeSpec := { name := "fnExactDriftOf", fn := fun _ => fun
  | [d] => { results := [.lit (.bool false)], args := [d] }
  | _ => none }
def FnExactDriftOfWrongFalsely : Prop := fnExactDriftOfRow.holds Try.pinned (OpenSpec.ofChange fnExactDriftOfWrong)

/-- 'laws.FnExactDetrend': WHATEVER THE INPUT: true; the input reads as it did. -/
def fnExactDetrendSpec : ChangeSpec := { name := "fnExactDetrend", fn := fun _ => fun
  | [d] => { results := [.lit (.bool true)], args := [d] }
  | _ => none }
def fnExactDetrendRow : OpenClaim := { program := "ytlbapogmcnpmeaa", sum := "30b11e244b36556795069c618442564939c7b55a2e0402da25e7f85867cf5ae6", func := "loop.example/g03320/laws.FnExactDetrend", spec := "fnExactDetrend", inPlace := ["math.Float64bits", "math.Float64frombits"], unfollowed := true, recurses := true, apart := false }
def FnExactDetrendSaid : Prop := fnExactDetrendRow.holds Try.pinned (OpenSpec.ofChange fnExactDetrendSpec)

/-- ITS FALSE NEIGHBOUR: 'it returns false'. Refute it at one input. -/
def fnExactDetrendWrong : ChangeSpec := { name := "fnExactDetrend", fn := fun _ => fun
  | [d] => { results := [.lit (.bool false)], args := [d] }
  | _ => none }
def FnExactDetrendWrongFalsely : Prop := fnExactDetrendRow.holds Try.pinned (OpenSpec.ofChange fnExactDetrendWrong)

/-- 'laws.FnExactCountEqual': WHATEVER THE INPUT: true; the input reads as it did. -/
def fnExactCountEqualSpec : ChangeSpec := { name := "fnExactCountEqual", fn := fun _ => fun
  | [d1, d2] => { results := [.lit (.bool true)], args := [d1, d2] }
  | _ => none }
def fnExactCountEqualRow : OpenClaim := { program := "ytlbapogmcnpmeaa", sum := "30b11e244b36556795069c618442564939c7b55a2e0402da25e7f85867cf5ae6", func := "loop.example/g03320/laws.FnExactCountEqual", spec := "fnExactCountEqual", apart := false }
def FnExactCountEqualSaid : Prop := fnExactCountEqualRow.holds Try.pinned (OpenSpec.ofChange fnExactCountEqualSpec)

/-- ITS FALSE NEIGHBOUR: 'it returns false'. Refute it at one input. -/
def fnExactCountEqualWrong : ChangeSpec := { name := "fnExactCountEqual", fn := fun _ => fun
  | [d1, d2] => { results := [.lit (.bool false)], args := [d1, d2] }
  | _ => none }
def FnExactCountEqualWrongFalsely : Prop := fnExactCountEqualRow.holds Try.pinned (OpenSpec.ofChange fnExactCountEqualWrong)

/-- 'laws.FnMeanBetween': WHATEVER THE INPUT: true; the input reads as it did. -/
def fnMeanBetweenSpec : ChangeSpec := { name := "fnMeanBetween", fn := fun _ => fun
  | [d] => { results := [.lit (.bool true)], args := [d] }
  | _ => none }
def fnMeanBetweenRow : OpenClaim := { program := "ytlbapogmcnpmeaa", sum := "30b11e244b36556795069c618442564939c7b55a2e0402da25e7f85867cf5ae6", func := "loop.example/g03320/laws.FnMeanBetween", spec := "fnMeanBetween", inPlace := ["math.Float64bits", "math.Float64frombits"], unfollowed := true, recurses := true, apart := false }
def FnMeanBetweenSaid : Prop := fnMeanBetweenRow.holds Try.pinned (OpenSpec.ofChange fnMeanBetweenSpec)

/-- ITS FALSE NEIGHBOUR: 'it returns false'. Refute it at one input. -/
def fnMeanBetweenWrong : ChangeSpec := { name := "fnMeanBetween", fn := fun _ => fun
  | [d] => { results := [.lit (.bool false)], args := [d] }
  | _ => none }
def FnMeanBetweenWrongFalsely : Prop := fnMeanBetweenRow.holds Try.pinned (OpenSpec.ofChange fnMeanBetweenWrong)

/-- 'laws.FnConstant': WHATEVER THE INPUT: true; the input reads as it did. -/
def fnConstantSpec : ChangeSpec := { name := "fnConstant", fn := fun _ => fun
  | [d] => { results := [.lit (.bool true)], args := [d] }
  | _ => none }
def fnConstantRow : OpenClaim := { program := "ytlbapogmcnpmeaa", sum := "30b11e244b36556795069c618442564939c7b55a2e0402da25e7f85867cf5ae6", func := "loop.example/g03320/laws.FnConstant", spec := "fnConstant", inPlace := ["math.Float64bits", "math.Float64frombits"], unfollowed := true, recurses := true, apart := false }
def FnConstantSaid : Prop := fnConstantRow.holds Try.pinned (OpenSpec.ofChange fnConstantSpec)

/-- ITS FALSE NEIGHBOUR: 'it returns false'. Refute it at one input. -/
def fnConstantWrong : ChangeSpec := { name := "fnConstant", fn := fun _ => fun
  | [d] => { results := [.lit (.bool false)], args := [d] }
  | _ => none }
def FnConstantWrongFalsely : Prop := fnConstantRow.holds Try.pinned (OpenSpec.ofChange fnConstantWrong)

/-- 'laws.FnTurnedList': WHATEVER THE INPUT: true; the input reads as it did. -/
def fnTurnedListSpec : ChangeSpec := { name := "fnTurnedList", fn := fun _ => fun
  | [d] => { results := [.lit (.bool true)], args := [d] }
  | _ => none }
def fnTurnedListRow : OpenClaim := { program := "ytlbapogmcnpmeaa", sum := "30b11e244b36556795069c618442564939c7b55a2e0402da25e7f85867cf5ae6", func := "loop.example/g03320/laws.FnTurnedList", spec := "fnTurnedList", inPlace := ["math.Float64bits", "math.Float64frombits"], unfollowed := true, recurses := true, apart := false }
def FnTurnedListSaid : Prop := fnTurnedListRow.holds Try.pinned (OpenSpec.ofChange fnTurnedListSpec)

/-- ITS FALSE NEIGHBOUR: 'it returns false'. Refute it at one input. -/
def fnTurnedListWrong : ChangeSpec := { name := "fnTurnedList", fn := fun _ => fun
  | [d] => { results := [.lit (.bool false)], args := [d] }
  | _ => none }
def FnTurnedListWrongFalsely : Prop := fnTurnedListRow.holds Try.pinned (OpenSpec.ofChange fnTurnedListWrong)

/-- 'laws.FnTwoSums': WHATEVER THE INPUT: true; the input reads as it did. -/
def fnTwoSumsSpec : ChangeSpec := { name := "fnTwoSums", fn := fun _ => fun
  | [d] => { results := [.lit (.bool true)], args := [d] }
  | _ => none }
def fnTwoSumsRow : OpenClaim := { program := "ytlbapogmcnpmeaa", sum := "30b11e244b36556795069c618442564939c7b55a2e0402da25e7f85867cf5ae6", func := "loop.example/g03320/laws.FnTwoSums", spec := "fnTwoSums", inPlace := ["math.Float64bits", "math.Float64frombits"], unfollowed := true, recurses := true, apart := false }
def FnTwoSumsSaid : Prop := fnTwoSumsRow.holds Try.pinned (OpenSpec.ofChange fnTwoSumsSpec)

/-- ITS FALSE NEIGHBOUR: 'it returns false'. Refute it at one input. -/
def fnTwoSumsWrong : ChangeSpec := { name := "fnTwoSums", fn := fun _ => fun
  | [d] => { results := [.lit (.bool false)], args := [d] }
  | _ => none }
def FnTwoSumsWrongFalsely : Prop := fnTwoSumsRow.holds Try.pinned (OpenSpec.ofChange fnTwoSumsWrong)

/- THE SECOND FORM. 'bulk': how many values and letters a reading holds, each counted each time it is reached (what is shared counts as often as it is met; a slice's spare places count too). A statement '..UptoSaid' is the law's where the arguments, and the package variables that the reading takes, are together of bulk at most 1048576: NARROWER than '..Said'. Prove '..Said' where nothing that the law and all that it calls make is longer than what came in: it says more and counts as full. Else prove '..UptoSaid'. A law counts once. -/
mutual
def uptoBulk {H : Type} : DataW H → Nat
  | .lit (.string bytes) => bytes.length + 1
  | .lit _ => 1
  | .nil => 1
  | .ptr d => uptoBulk d + 1
  | .slice elems spare => uptoBulkAll elems + uptoBulkAll spare + 1
  | .agg parts => uptoBulkAll parts + 1
  | .iface _ d => uptoBulk d + 1
  | .map entries => uptoBulkEntries entries + 1
  | .held _ => 1
def uptoBulkAll {H : Type} : List (DataW H) → Nat
  | [] => 0
  | d :: r => uptoBulk d + uptoBulkAll r
def uptoBulkEntries {H : Type} : List (Lit × DataW H) → Nat
  | [] => 0
  | x :: r => uptoBulkEntry x + uptoBulkEntries r
def uptoBulkEntry {H : Type} : Lit × DataW H → Nat
  | (.string bytes, d) => bytes.length + uptoBulk d + 1
  | (_, d) => uptoBulk d + 1
 end
def uptoSmall : (H : Type) → List (DataW H) → Bool := fun _ ds => decide (uptoBulkAll ds ≤ 1048576)
def OpenSpec.upto (s : _root_.Go.ChangeSpec) : _root_.Go.OpenSpec := { _root_.Go.OpenSpec.ofChange s with cond := some uptoSmall }

/-- 'laws.FnExactSumInOrder', WHERE WHAT IT READS IS OF BULK AT MOST 1048576: true; the input reads as it did. -/
def fnExactSumInOrderUptoRow : OpenClaim := { program := "ytlbapogmcnpmeaa", sum := "30b11e244b36556795069c618442564939c7b55a2e0402da25e7f85867cf5ae6", func := "loop.example/g03320/laws.FnExactSumInOrder", spec := "fnExactSumInOrder", inPlace := ["math.Float64bits", "math.Float64frombits"], unfollowed := true, recurses := true, apart := false, narrowed := true }
def FnExactSumInOrderUptoSaid : Prop := fnExactSumInOrderUptoRow.holds Try.pinned (OpenSpec.upto fnExactSumInOrderSpec)

/-- 'laws.FnExactPairSum', WHERE WHAT IT READS IS OF BULK AT MOST 1048576: true; the input reads as it did. -/
def fnExactPairSumUptoRow : OpenClaim := { program := "ytlbapogmcnpmeaa", sum := "30b11e244b36556795069c618442564939c7b55a2e0402da25e7f85867cf5ae6", func := "loop.example/g03320/laws.FnExactPairSum", spec := "fnExactPairSum", inPlace := ["math.Float64bits", "math.Float64frombits"], unfollowed := true, recurses := true, apart := false, narrowed := true }
def FnExactPairSumUptoSaid : Prop := fnExactPairSumUptoRow.holds Try.pinned (OpenSpec.upto fnExactPairSumSpec)

/-- 'laws.FnExactMeanOf', WHERE WHAT IT READS IS OF BULK AT MOST 1048576: true; the input reads as it did. -/
def fnExactMeanOfUptoRow : OpenClaim := { program := "ytlbapogmcnpmeaa", sum := "30b11e244b36556795069c618442564939c7b55a2e0402da25e7f85867cf5ae6", func := "loop.example/g03320/laws.FnExactMeanOf", spec := "fnExactMeanOf", inPlace := ["math.Float64bits", "math.Float64frombits"], unfollowed := true, recurses := true, apart := false, narrowed := true }
def FnExactMeanOfUptoSaid : Prop := fnExactMeanOfUptoRow.holds Try.pinned (OpenSpec.upto fnExactMeanOfSpec)

/-- 'laws.FnExactSpreadOf', WHERE WHAT IT READS IS OF BULK AT MOST 1048576: true; the input reads as it did. -/
def fnExactSpreadOfUptoRow : OpenClaim := { program := "ytlbapogmcnpmeaa", sum := "30b11e244b36556795069c618442564939c7b55a2e0402da25e7f85867cf5ae6", func := "loop.example/g03320/laws.FnExactSpreadOf", spec := "fnExactSpreadOf", inPlace := ["math.Float64bits", "math.Float64frombits"], unfollowed := true, recurses := true, apart := false, narrowed := true }
def FnExactSpreadOfUptoSaid : Prop := fnExactSpreadOfUptoRow.holds Try.pinned (OpenSpec.upto fnExactSpreadOfSpec)

/-- 'laws.FnExactMiddleOf', WHERE WHAT IT READS IS OF BULK AT MOST 1048576: true; the input reads as it did. -/
def fnExactMiddleOfUptoRow : OpenClaim := { program := "ytlbapogmcnpmeaa", sum := "30b11e244b36556795069c618442564939c7b55a2e0402da25e7f85867cf5ae6", func := "loop.example/g03320/laws.FnExactMiddleOf", spec := "fnExactMiddleOf", inPlace := ["math.Float64bits", "math.Float64frombits"], unfollowed := true, recurses := true, apart := false, narrowed := true }
def FnExactMiddleOfUptoSaid : Prop := fnExactMiddleOfUptoRow.holds Try.pinned (OpenSpec.upto fnExactMiddleOfSpec)

/-- 'laws.FnExactMovingMeans', WHERE WHAT IT READS IS OF BULK AT MOST 1048576: true; the input reads as it did. -/
def fnExactMovingMeansUptoRow : OpenClaim := { program := "ytlbapogmcnpmeaa", sum := "30b11e244b36556795069c618442564939c7b55a2e0402da25e7f85867cf5ae6", func := "loop.example/g03320/laws.FnExactMovingMeans", spec := "fnExactMovingMeans", inPlace := ["math.Float64bits", "math.Float64frombits"], unfollowed := true, recurses := true, apart := false, narrowed := true }
def FnExactMovingMeansUptoSaid : Prop := fnExactMovingMeansUptoRow.holds Try.pinned (OpenSpec.upto fnExactMovingMeansSpec)

/-- 'laws.FnExactDriftOf', WHERE WHAT IT READS IS OF BULK AT MOST 1048576: true; the input reads as it did. -/
def fnExactDriftOfUptoRow : OpenClaim := { program := "ytlbapogmcnpmeaa", sum := "30b11e244b36556795069c618442564939c7b55a2e0402da25e7f85867cf5ae6", func := "loop.example/g03320/laws.FnExactDriftOf", spec := "fnExactDriftOf", inPlace := ["math.Float64bits", "math.Float64frombits"], unfollowed := true, recurses := true, apart := false, narrowed := true }
def FnExactDriftOfUptoSaid : Prop := fnExactDriftOfUptoRow.holds Try.pinned (OpenSpec.upto fnExactDriftOfSpec)

/-- 'laws.FnExactDetrend', WHERE WHAT IT READS IS OF BULK AT MOST 1048576: true; the input reads as it did. -/
def fnExactDetrendUptoRow : OpenClaim := { program := "ytlbapogmcnpmeaa", sum := "30b11e244b36556795069c618442564939c7b55a2e0402da25e7f85867cf5ae6", func := "loop.example/g03320/laws.FnExactDetrend", spec := "fnExactDetrend", inPlace := ["math.Float64bits", "math.Float64frombits"], unfollowed := true, recurses := true, apart := false, narrowed := true }
def FnExactDetrendUptoSaid : Prop := fnExactDetrendUptoRow.holds Try.pinned (OpenSpec.upto fnExactDetrendSpec)

/-- 'laws.FnExactCountEqual', WHERE WHAT IT READS IS OF BULK AT MOST 1048576: true; the input reads as it did. -/
def fnExactCountEqualUptoRow : OpenClaim := { program := "ytlbapogmcnpmeaa", sum := "30b11e244b36556795069c618442564939c7b55a2e0402da25e7f85867cf5ae6", func := "loop.example/g03320/laws.FnExactCountEqual", spec := "fnExactCountEqual", apart := false, narrowed := true }
def FnExactCountEqualUptoSaid : Prop := fnExactCountEqualUptoRow.holds Try.pinned (OpenSpec.upto fnExactCountEqualSpec)

/-- 'laws.FnMeanBetween', WHERE WHAT IT READS IS OF BULK AT MOST 1048576: true; the input reads as it did. -/
def fnMeanBetweenUptoRow : OpenClaim := { program := "ytlbapogmcnpmeaa", sum := "30b11e244b36556795069c618442564939c7b55a2e0402da25e7f85867cf5ae6", func := "loop.example/g03320/laws.FnMeanBetween", spec := "fnMeanBetween", inPlace := ["math.Float64bits", "math.Float64frombits"], unfollowed := true, recurses := true, apart := false, narrowed := true }
def FnMeanBetweenUptoSaid : Prop := fnMeanBetweenUptoRow.holds Try.pinned (OpenSpec.upto fnMeanBetweenSpec)

/-- 'laws.FnConstant', WHERE WHAT IT READS IS OF BULK AT MOST 1048576: true; the input reads as it did. -/
def fnConstantUptoRow : OpenClaim := { program := "ytlbapogmcnpmeaa", sum := "30b11e244b36556795069c618442564939c7b55a2e0402da25e7f85867cf5ae6", func := "loop.example/g03320/laws.FnConstant", spec := "fnConstant", inPlace := ["math.Float64bits", "math.Float64frombits"], unfollowed := true, recurses := true, apart := false, narrowed := true }
def FnConstantUptoSaid : Prop := fnConstantUptoRow.holds Try.pinned (OpenSpec.upto fnConstantSpec)

/-- 'laws.FnTurnedList', WHERE WHAT IT READS IS OF BULK AT MOST 1048576: true; the input reads as it did. -/
def fnTurnedListUptoRow : OpenClaim := { program := "ytlbapogmcnpmeaa", sum := "30b11e244b36556795069c618442564939c7b55a2e0402da25e7f85867cf5ae6", func := "loop.example/g03320/laws.FnTurnedList", spec := "fnTurnedList", inPlace := ["math.Float64bits", "math.Float64frombits"], unfollowed := true, recurses := true, apart := false, narrowed := true }
def FnTurnedListUptoSaid : Prop := fnTurnedListUptoRow.holds Try.pinned (OpenSpec.upto fnTurnedListSpec)

/-- 'laws.FnTwoSums', WHERE WHAT IT READS IS OF BULK AT MOST 1048576: true; the input reads as it did. -/
def fnTwoSumsUptoRow : OpenClaim := { program := "ytlbapogmcnpmeaa", sum := "30b11e244b36556795069c618442564939c7b55a2e0402da25e7f85867cf5ae6", func := "loop.example/g03320/laws.FnTwoSums", spec := "fnTwoSums", inPlace := ["math.Float64bits", "math.Float64frombits"], unfollowed := true, recurses := true, apart := false, narrowed := true }
def FnTwoSumsUptoSaid : Prop := fnTwoSumsUptoRow.holds Try.pinned (OpenSpec.upto fnTwoSumsSpec)

end Rows
end Go.Proofs.Ytlbapogmcnpmeaa
