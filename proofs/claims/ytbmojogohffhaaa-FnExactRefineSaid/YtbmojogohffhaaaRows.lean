/-
  No cell of these rows narrows 'for every input' (looked for: loops, veiled, ifaces, maps, wideKeys, modest, calm, conditions, laid).
  DERIVED. THE GIVEN ROWS OF THIS SEAT. 12 by the template 'for every input the law returns true; each argument reads behind the call as it read before'; 0 by the template 'total and deterministic' (their statements: YtbmojogohffhaaaTotals.lean).
  GIVEN WITH THE SEED: the statements are not yours to turn. If you find one false, say at which input.
  Laid BY PROGRAM, IN A SANDBOX (cutbox-rows.mjs): the forced cells as the released guide's own fill.sh prints them over the translation b1f57d2fc65663b3… (all of the seat's roots in one cut). By AI agents, Wed Nov 11 2026. No macro, syntax, notation, axiom, sorry.
-/
import Derived.Test.YtbmojogohffhaaaChecked
import GoSem.Claim
import GoSem.ClaimJoined
import GoSem.ClaimMapViews
import Derived.JoinedTies
import Derived.KernelRfl
namespace Go.Proofs.Ytbmojogohffhaaa
/- THE CELL 'sum', in the pinned program and in every row, IS THE sha256 OF THE DUMP (.gsa) THAT YtbmojogohffhaaaProg.lean LOADS. Nothing in Lean hashes anything: it is a label: what it is worth is what the hold of that sum in a sandbox is worth. -/
noncomputable def Try.pinned : Pinned := { name := "ytbmojogohffhaaa", sum := "b1f57d2fc65663b315e163467e04b1b872768f55f726de0f39c936f1b720ea3d", checked := Try.checked }
namespace Rows
def none {H : Type} : Left H := { results := [], args := [] }

/-- 'laws.FnNodes': WHATEVER THE INPUT: true; the input reads as it did. -/
def fnNodesSpec : ChangeSpec := { name := "fnNodes", fn := fun _ => fun
  | [d] => { results := [.lit (.bool true)], args := [d] }
  | _ => none }
def fnNodesRow : OpenClaim := { program := "ytbmojogohffhaaa", sum := "b1f57d2fc65663b315e163467e04b1b872768f55f726de0f39c936f1b720ea3d", func := "loop.example/g03320/laws.FnNodes", spec := "fnNodes", inPlace := ["math.Float64bits", "math.Float64frombits"], unfollowed := true, recurses := true, apart := false }
def FnNodesSaid : Prop := fnNodesRow.holds Try.pinned (OpenSpec.ofChange fnNodesSpec)

/-- ITS FALSE NEIGHBOUR: 'it returns false'. Refute it at one input. -/
def fnNodesWrong : ChangeSpec := { name := "fnNodes", fn := fun _ => fun
  | [d] => { results := [.lit (.bool false)], args := [d] }
  | _ => none }
def FnNodesWrongFalsely : Prop := fnNodesRow.holds Try.pinned (OpenSpec.ofChange fnNodesWrong)

/-- 'laws.FnRefined': WHATEVER THE INPUT: true; the input reads as it did. -/
def fnRefinedSpec : ChangeSpec := { name := "fnRefined", fn := fun _ => fun
  | [d] => { results := [.lit (.bool true)], args := [d] }
  | _ => none }
def fnRefinedRow : OpenClaim := { program := "ytbmojogohffhaaa", sum := "b1f57d2fc65663b315e163467e04b1b872768f55f726de0f39c936f1b720ea3d", func := "loop.example/g03320/laws.FnRefined", spec := "fnRefined", inPlace := ["math.Float64bits", "math.Float64frombits"], unfollowed := true, recurses := true, apart := false }
def FnRefinedSaid : Prop := fnRefinedRow.holds Try.pinned (OpenSpec.ofChange fnRefinedSpec)

/-- ITS FALSE NEIGHBOUR: 'it returns false'. Refute it at one input. -/
def fnRefinedWrong : ChangeSpec := { name := "fnRefined", fn := fun _ => fun
  | [d] => { results := [.lit (.bool false)], args := [d] }
  | _ => none }
def FnRefinedWrongFalsely : Prop := fnRefinedRow.holds Try.pinned (OpenSpec.ofChange fnRefinedWrong)

/-- 'laws.FnMirrorTable': WHATEVER THE INPUT: true; the input reads as it did. -/
def fnMirrorTableSpec : ChangeSpec := { name := "fnMirrorTable", fn := fun _ => fun
  | [d] => { results := [.lit (.bool true)], args := [d] }
  | _ => none }
def fnMirrorTableRow : OpenClaim := { program := "ytbmojogohffhaaa", sum := "b1f57d2fc65663b315e163467e04b1b872768f55f726de0f39c936f1b720ea3d", func := "loop.example/g03320/laws.FnMirrorTable", spec := "fnMirrorTable", inPlace := ["math.Float64bits", "math.Float64frombits"], unfollowed := true, recurses := true, apart := false }
def FnMirrorTableSaid : Prop := fnMirrorTableRow.holds Try.pinned (OpenSpec.ofChange fnMirrorTableSpec)

/-- ITS FALSE NEIGHBOUR: 'it returns false'. Refute it at one input. -/
def fnMirrorTableWrong : ChangeSpec := { name := "fnMirrorTable", fn := fun _ => fun
  | [d] => { results := [.lit (.bool false)], args := [d] }
  | _ => none }
def FnMirrorTableWrongFalsely : Prop := fnMirrorTableRow.holds Try.pinned (OpenSpec.ofChange fnMirrorTableWrong)

/-- 'laws.FnExactTableOk': WHATEVER THE INPUT: true; the input reads as it did. -/
def fnExactTableOkSpec : ChangeSpec := { name := "fnExactTableOk", fn := fun _ => fun
  | [d] => { results := [.lit (.bool true)], args := [d] }
  | _ => none }
def fnExactTableOkRow : OpenClaim := { program := "ytbmojogohffhaaa", sum := "b1f57d2fc65663b315e163467e04b1b872768f55f726de0f39c936f1b720ea3d", func := "loop.example/g03320/laws.FnExactTableOk", spec := "fnExactTableOk", inPlace := ["math.Float64bits", "math.Float64frombits"], unfollowed := true, recurses := true, apart := false }
def FnExactTableOkSaid : Prop := fnExactTableOkRow.holds Try.pinned (OpenSpec.ofChange fnExactTableOkSpec)

/-- ITS FALSE NEIGHBOUR: 'it returns false'. Refute it at one input. -/
def fnExactTableOkWrong : ChangeSpec := { name := "fnExactTableOk", fn := fun _ => fun
  | [d] => { results := [.lit (.bool false)], args := [d] }
  | _ => none }
def FnExactTableOkWrongFalsely : Prop := fnExactTableOkRow.holds Try.pinned (OpenSpec.ofChange fnExactTableOkWrong)

/-- 'laws.FnExactSegmentOf': WHATEVER THE INPUT: true; the input reads as it did. -/
def fnExactSegmentOfSpec : ChangeSpec := { name := "fnExactSegmentOf", fn := fun _ => fun
  | [d1, d2] => { results := [.lit (.bool true)], args := [d1, d2] }
  | _ => none }
def fnExactSegmentOfRow : OpenClaim := { program := "ytbmojogohffhaaa", sum := "b1f57d2fc65663b315e163467e04b1b872768f55f726de0f39c936f1b720ea3d", func := "loop.example/g03320/laws.FnExactSegmentOf", spec := "fnExactSegmentOf", inPlace := ["math.Float64bits", "math.Float64frombits"], unfollowed := true, recurses := true, apart := false }
def FnExactSegmentOfSaid : Prop := fnExactSegmentOfRow.holds Try.pinned (OpenSpec.ofChange fnExactSegmentOfSpec)

/-- ITS FALSE NEIGHBOUR: 'it returns false'. Refute it at one input. -/
def fnExactSegmentOfWrong : ChangeSpec := { name := "fnExactSegmentOf", fn := fun _ => fun
  | [d1, d2] => { results := [.lit (.bool false)], args := [d1, d2] }
  | _ => none }
def FnExactSegmentOfWrongFalsely : Prop := fnExactSegmentOfRow.holds Try.pinned (OpenSpec.ofChange fnExactSegmentOfWrong)

/-- 'laws.FnExactInterpolate': WHATEVER THE INPUT: true; the input reads as it did. -/
def fnExactInterpolateSpec : ChangeSpec := { name := "fnExactInterpolate", fn := fun _ => fun
  | [d1, d2] => { results := [.lit (.bool true)], args := [d1, d2] }
  | _ => none }
def fnExactInterpolateRow : OpenClaim := { program := "ytbmojogohffhaaa", sum := "b1f57d2fc65663b315e163467e04b1b872768f55f726de0f39c936f1b720ea3d", func := "loop.example/g03320/laws.FnExactInterpolate", spec := "fnExactInterpolate", inPlace := ["math.Float64bits", "math.Float64frombits"], unfollowed := true, recurses := true, apart := false }
def FnExactInterpolateSaid : Prop := fnExactInterpolateRow.holds Try.pinned (OpenSpec.ofChange fnExactInterpolateSpec)

/-- ITS FALSE NEIGHBOUR: 'it returns false'. Refute it at one input. -/
def fnExactInterpolateWrong : ChangeSpec := { name := "fnExactInterpolate", fn := fun _ => fun
  | [d1, d2] => { results := [.lit (.bool false)], args := [d1, d2] }
  | _ => none }
def FnExactInterpolateWrongFalsely : Prop := fnExactInterpolateRow.holds Try.pinned (OpenSpec.ofChange fnExactInterpolateWrong)

/-- 'laws.FnExactTableRises': WHATEVER THE INPUT: true; the input reads as it did. -/
def fnExactTableRisesSpec : ChangeSpec := { name := "fnExactTableRises", fn := fun _ => fun
  | [d] => { results := [.lit (.bool true)], args := [d] }
  | _ => none }
def fnExactTableRisesRow : OpenClaim := { program := "ytbmojogohffhaaa", sum := "b1f57d2fc65663b315e163467e04b1b872768f55f726de0f39c936f1b720ea3d", func := "loop.example/g03320/laws.FnExactTableRises", spec := "fnExactTableRises", inPlace := ["math.Float64bits", "math.Float64frombits"], unfollowed := true, recurses := true, apart := false }
def FnExactTableRisesSaid : Prop := fnExactTableRisesRow.holds Try.pinned (OpenSpec.ofChange fnExactTableRisesSpec)

/-- ITS FALSE NEIGHBOUR: 'it returns false'. Refute it at one input. -/
def fnExactTableRisesWrong : ChangeSpec := { name := "fnExactTableRises", fn := fun _ => fun
  | [d] => { results := [.lit (.bool false)], args := [d] }
  | _ => none }
def FnExactTableRisesWrongFalsely : Prop := fnExactTableRisesRow.holds Try.pinned (OpenSpec.ofChange fnExactTableRisesWrong)

/-- 'laws.FnExactRefine': WHATEVER THE INPUT: true; the input reads as it did. -/
def fnExactRefineSpec : ChangeSpec := { name := "fnExactRefine", fn := fun _ => fun
  | [d1, d2] => { results := [.lit (.bool true)], args := [d1, d2] }
  | _ => none }
def fnExactRefineRow : OpenClaim := { program := "ytbmojogohffhaaa", sum := "b1f57d2fc65663b315e163467e04b1b872768f55f726de0f39c936f1b720ea3d", func := "loop.example/g03320/laws.FnExactRefine", spec := "fnExactRefine", inPlace := ["math.Float64bits", "math.Float64frombits"], unfollowed := true, recurses := true, apart := false }
def FnExactRefineSaid : Prop := fnExactRefineRow.holds Try.pinned (OpenSpec.ofChange fnExactRefineSpec)

/-- ITS FALSE NEIGHBOUR: 'it returns false'. Refute it at one input. -/
def fnExactRefineWrong : ChangeSpec := { name := "fnExactRefine", fn := fun _ => fun
  | [d1, d2] => { results := [.lit (.bool false)], args := [d1, d2] }
  | _ => none }
def FnExactRefineWrongFalsely : Prop := fnExactRefineRow.holds Try.pinned (OpenSpec.ofChange fnExactRefineWrong)

/-- 'laws.FnExactLargest': WHATEVER THE INPUT: true; the input reads as it did. -/
def fnExactLargestSpec : ChangeSpec := { name := "fnExactLargest", fn := fun _ => fun
  | [d] => { results := [.lit (.bool true)], args := [d] }
  | _ => none }
def fnExactLargestRow : OpenClaim := { program := "ytbmojogohffhaaa", sum := "b1f57d2fc65663b315e163467e04b1b872768f55f726de0f39c936f1b720ea3d", func := "loop.example/g03320/laws.FnExactLargest", spec := "fnExactLargest", inPlace := ["math.Float64bits", "math.Float64frombits"], unfollowed := true, recurses := true, apart := false }
def FnExactLargestSaid : Prop := fnExactLargestRow.holds Try.pinned (OpenSpec.ofChange fnExactLargestSpec)

/-- ITS FALSE NEIGHBOUR: 'it returns false'. Refute it at one input. -/
def fnExactLargestWrong : ChangeSpec := { name := "fnExactLargest", fn := fun _ => fun
  | [d] => { results := [.lit (.bool false)], args := [d] }
  | _ => none }
def FnExactLargestWrongFalsely : Prop := fnExactLargestRow.holds Try.pinned (OpenSpec.ofChange fnExactLargestWrong)

/-- 'laws.FnExactScaleTable': WHATEVER THE INPUT: true; the input reads as it did. -/
def fnExactScaleTableSpec : ChangeSpec := { name := "fnExactScaleTable", fn := fun _ => fun
  | [d1, d2] => { results := [.lit (.bool true)], args := [d1, d2] }
  | _ => none }
def fnExactScaleTableRow : OpenClaim := { program := "ytbmojogohffhaaa", sum := "b1f57d2fc65663b315e163467e04b1b872768f55f726de0f39c936f1b720ea3d", func := "loop.example/g03320/laws.FnExactScaleTable", spec := "fnExactScaleTable", inPlace := ["math.Float64bits", "math.Float64frombits"], unfollowed := true, recurses := true, apart := false }
def FnExactScaleTableSaid : Prop := fnExactScaleTableRow.holds Try.pinned (OpenSpec.ofChange fnExactScaleTableSpec)

/-- ITS FALSE NEIGHBOUR: 'it returns false'. Refute it at one input. -/
def fnExactScaleTableWrong : ChangeSpec := { name := "fnExactScaleTable", fn := fun _ => fun
  | [d1, d2] => { results := [.lit (.bool false)], args := [d1, d2] }
  | _ => none }
def FnExactScaleTableWrongFalsely : Prop := fnExactScaleTableRow.holds Try.pinned (OpenSpec.ofChange fnExactScaleTableWrong)

/-- 'laws.FnExactMirrorTable': WHATEVER THE INPUT: true; the input reads as it did. -/
def fnExactMirrorTableSpec : ChangeSpec := { name := "fnExactMirrorTable", fn := fun _ => fun
  | [d] => { results := [.lit (.bool true)], args := [d] }
  | _ => none }
def fnExactMirrorTableRow : OpenClaim := { program := "ytbmojogohffhaaa", sum := "b1f57d2fc65663b315e163467e04b1b872768f55f726de0f39c936f1b720ea3d", func := "loop.example/g03320/laws.FnExactMirrorTable", spec := "fnExactMirrorTable", inPlace := ["math.Float64bits", "math.Float64frombits"], unfollowed := true, recurses := true, apart := false }
def FnExactMirrorTableSaid : Prop := fnExactMirrorTableRow.holds Try.pinned (OpenSpec.ofChange fnExactMirrorTableSpec)

/-- ITS FALSE NEIGHBOUR: 'it returns false'. Refute it at one input. -/
def fnExactMirrorTableWrong : ChangeSpec := { name := "fnExactMirrorTable", fn := fun _ => fun
  | [d] => { results := [.lit (.bool false)], args := [d] }
  | _ => none }
def FnExactMirrorTableWrongFalsely : Prop := fnExactMirrorTableRow.holds Try.pinned (OpenSpec.ofChange fnExactMirrorTableWrong)

/-- 'laws.FnExactResiduals': WHATEVER THE INPUT: true; the input reads as it did. -/
def fnExactResidualsSpec : ChangeSpec := { name := "fnExactResiduals", fn := fun _ => fun
  | [d1, d2] => { results := [.lit (.bool true)], args := [d1, d2] }
  | _ => none }
def fnExactResidualsRow : OpenClaim := { program := "ytbmojogohffhaaa", sum := "b1f57d2fc65663b315e163467e04b1b872768f55f726de0f39c936f1b720ea3d", func := "loop.example/g03320/laws.FnExactResiduals", spec := "fnExactResiduals", inPlace := ["math.Float64bits", "math.Float64frombits"], unfollowed := true, recurses := true, apart := false }
def FnExactResidualsSaid : Prop := fnExactResidualsRow.holds Try.pinned (OpenSpec.ofChange fnExactResidualsSpec)

/-- ITS FALSE NEIGHBOUR: 'it returns false'. Refute it at one input. -/
def fnExactResidualsWrong : ChangeSpec := { name := "fnExactResiduals", fn := fun _ => fun
  | [d1, d2] => { results := [.lit (.bool false)], args := [d1, d2] }
  | _ => none }
def FnExactResidualsWrongFalsely : Prop := fnExactResidualsRow.holds Try.pinned (OpenSpec.ofChange fnExactResidualsWrong)

/- THE SECOND FORM. 'bulk': how many values and letters a reading holds, each counted each time it is reached (what is shared counts as often as it is met; a slice's spare places count too). A statement '..UptoSaid' is the law's where the arguments, and the package variables that the reading takes, are together of bulk at most 1048576: NARROWER than '..Said'. Prove '..Said' where nothing that the law and all that it calls make is longer than what came in: it says more and counts as full. Else prove '..UptoSaid'. A law counts once. -/
mutual
def uptoBulk {H : Type} : DataW H → Nat
  | .lit (.string bytes) => bytes.length + 1
  | .lit _ => 1
  | .nil => 1
  | .ptr d => uptoBulk d + 1
  | .slice elems spare => uptoBulkAll elems + uptoBulkAll spare + 1
  | .agg parts => uptoBulkAll parts + 1
  | .iface _ d => uptoBulk d + 1
  | .map entries => uptoBulkEntries entries + 1
  | .held _ => 1
def uptoBulkAll {H : Type} : List (DataW H) → Nat
  | [] => 0
  | d :: r => uptoBulk d + uptoBulkAll r
def uptoBulkEntries {H : Type} : List (Lit × DataW H) → Nat
  | [] => 0
  | x :: r => uptoBulkEntry x + uptoBulkEntries r
def uptoBulkEntry {H : Type} : Lit × DataW H → Nat
  | (.string bytes, d) => bytes.length + uptoBulk d + 1
  | (_, d) => uptoBulk d + 1
 end
def uptoSmall : (H : Type) → List (DataW H) → Bool := fun _ ds => decide (uptoBulkAll ds ≤ 1048576)
def OpenSpec.upto (s : _root_.Go.ChangeSpec) : _root_.Go.OpenSpec := { _root_.Go.OpenSpec.ofChange s with cond := some uptoSmall }

/-- 'laws.FnNodes', WHERE WHAT IT READS IS OF BULK AT MOST 1048576: true; the input reads as it did. -/
def fnNodesUptoRow : OpenClaim := { program := "ytbmojogohffhaaa", sum := "b1f57d2fc65663b315e163467e04b1b872768f55f726de0f39c936f1b720ea3d", func := "loop.example/g03320/laws.FnNodes", spec := "fnNodes", inPlace := ["math.Float64bits", "math.Float64frombits"], unfollowed := true, recurses := true, apart := false, narrowed := true }
def FnNodesUptoSaid : Prop := fnNodesUptoRow.holds Try.pinned (OpenSpec.upto fnNodesSpec)

/-- 'laws.FnRefined', WHERE WHAT IT READS IS OF BULK AT MOST 1048576: true; the input reads as it did. -/
def fnRefinedUptoRow : OpenClaim := { program := "ytbmojogohffhaaa", sum := "b1f57d2fc65663b315e163467e04b1b872768f55f726de0f39c936f1b720ea3d", func := "loop.example/g03320/laws.FnRefined", spec := "fnRefined", inPlace := ["math.Float64bits", "math.Float64frombits"], unfollowed := true, recurses := true, apart := false, narrowed := true }
def FnRefinedUptoSaid : Prop := fnRefinedUptoRow.holds Try.pinned (OpenSpec.upto fnRefinedSpec)

/-- 'laws.FnMirrorTable', WHERE WHAT IT READS IS OF BULK AT MOST 1048576: true; the input reads as it did. -/
def fnMirrorTableUptoRow : OpenClaim := { program := "ytbmojogohffhaaa", sum := "b1f57d2fc65663b315e163467e04b1b872768f55f726de0f39c936f1b720ea3d", func := "loop.example/g03320/laws.FnMirrorTable", spec := "fnMirrorTable", inPlace := ["math.Float64bits", "math.Float64frombits"], unfollowed := true, recurses := true, apart := false, narrowed := true }
def FnMirrorTableUptoSaid : Prop := fnMirrorTableUptoRow.holds Try.pinned (OpenSpec.upto fnMirrorTableSpec)

/-- 'laws.FnExactTableOk', WHERE WHAT IT READS IS OF BULK AT MOST 1048576: true; the input reads as it did. -/
def fnExactTableOkUptoRow : OpenClaim := { program := "ytbmojogohffhaaa", sum := "b1f57d2fc65663b315e163467e04b1b872768f55f726de0f39c936f1b720ea3d", func := "loop.example/g03320/laws.FnExactTableOk", spec := "fnExactTableOk", inPlace := ["math.Float64bits", "math.Float64frombits"], unfollowed := true, recurses := true, apart := false, narrowed := true }
def FnExactTableOkUptoSaid : Prop := fnExactTableOkUptoRow.holds Try.pinned (OpenSpec.upto fnExactTableOkSpec)

/-- 'laws.FnExactSegmentOf', WHERE WHAT IT READS IS OF BULK AT MOST 1048576: true; the input reads as it did. -/
def fnExactSegmentOfUptoRow : OpenClaim := { program := "ytbmojogohffhaaa", sum := "b1f57d2fc65663b315e163467e04b1b872768f55f726de0f39c936f1b720ea3d", func := "loop.example/g03320/laws.FnExactSegmentOf", spec := "fnExactSegmentOf", inPlace := ["math.Float64bits", "math.Float64frombits"], unfollowed := true, recurses := true, apart := false, narrowed := true }
def FnExactSegmentOfUptoSaid : Prop := fnExactSegmentOfUptoRow.holds Try.pinned (OpenSpec.upto fnExactSegmentOfSpec)

/-- 'laws.FnExactInterpolate', WHERE WHAT IT READS IS OF BULK AT MOST 1048576: true; the input reads as it did. -/
def fnExactInterpolateUptoRow : OpenClaim := { program := "ytbmojogohffhaaa", sum := "b1f57d2fc65663b315e163467e04b1b872768f55f726de0f39c936f1b720ea3d", func := "loop.example/g03320/laws.FnExactInterpolate", spec := "fnExactInterpolate", inPlace := ["math.Float64bits", "math.Float64frombits"], unfollowed := true, recurses := true, apart := false, narrowed := true }
def FnExactInterpolateUptoSaid : Prop := fnExactInterpolateUptoRow.holds Try.pinned (OpenSpec.upto fnExactInterpolateSpec)

/-- 'laws.FnExactTableRises', WHERE WHAT IT READS IS OF BULK AT MOST 1048576: true; the input reads as it did. -/
def fnExactTableRisesUptoRow : OpenClaim := { program := "ytbmojogohffhaaa", sum := "b1f57d2fc65663b315e163467e04b1b872768f55f726de0f39c936f1b720ea3d", func := "loop.example/g03320/laws.FnExactTableRises", spec := "fnExactTableRises", inPlace := ["math.Float64bits", "math.Float64frombits"], unfollowed := true, recurses := true, apart := false, narrowed := true }
def FnExactTableRisesUptoSaid : Prop := fnExactTableRisesUptoRow.holds Try.pinned (OpenSpec.upto fnExactTableRisesSpec)

/-- 'laws.FnExactRefine', WHERE WHAT IT READS IS OF BULK AT MOST 1048576: true; the input reads as it did. -/
def fnExactRefineUptoRow : OpenClaim := { program := "ytbmojogohffhaaa", sum := "b1f57d2fc65663b315e163467e04b1b872768f55f726de0f39c936f1b720ea3d", func := "loop.example/g03320/laws.FnExactRefine", spec := "fnExactRefine", inPlace := ["math.Float64bits", "math.Float64frombits"], unfollowed := true, recurses := true, apart := false, narrowed := true }
def FnExactRefineUptoSaid : Prop := fnExactRefineUptoRow.holds Try.pinned (OpenSpec.upto fnExactRefineSpec)

/-- 'laws.FnExactLargest', WHERE WHAT IT READS IS OF BULK AT MOST 1048576: true; the input reads as it did. -/
def fnExactLargestUptoRow : OpenClaim := { program := "ytbmojogohffhaaa", sum := "b1f57d2fc65663b315e163467e04b1b872768f55f726de0f39c936f1b720ea3d", func := "loop.example/g03320/laws.FnExactLargest", spec := "fnExactLargest", inPlace := ["math.Float64bits", "math.Float64frombits"], unfollowed := true, recurses := true, apart := false, narrowed := true }
def FnExactLargestUptoSaid : Prop := fnExactLargestUptoRow.holds Try.pinned (OpenSpec.upto fnExactLargestSpec)

/-- 'laws.FnExactScaleTable', WHERE WHAT IT READS IS OF BULK AT MOST 1048576: true; the input reads as it did. -/
def fnExactScaleTableUptoRow : OpenClaim := { program := "ytbmojogohffhaaa", sum := "b1f57d2fc65663b315e163467e04b1b872768f55f726de0f39c936f1b720ea3d", func := "loop.example/g03320/laws.FnExactScaleTable", spec := "fnExactScaleTable", inPlace := ["math.Float64bits", "math.Float64frombits"], unfollowed := true, recurses := true, apart := false, narrowed := true }
def FnExactScaleTableUptoSaid : Prop := fnExactScaleTableUptoRow.holds Try.pinned (OpenSpec.upto fnExactScaleTableSpec)

/-- 'laws.FnExactMirrorTable', WHERE WHAT IT READS IS OF BULK AT MOST 1048576: true; the input reads as it did. -/
def fnExactMirrorTableUptoRow : OpenClaim := { program := "ytbmojogohffhaaa", sum := "b1f57d2fc65663b315e163467e04b1b872768f55f726de0f39c936f1b720ea3d", func := "loop.example/g03320/laws.FnExactMirrorTable", spec := "fnExactMirrorTable", inPlace := ["math.Float64bits", "math.Float64frombits"], unfollowed := true, recurses := true, apart := false, narrowed := true }
def FnExactMirrorTableUptoSaid : Prop := fnExactMirrorTableUptoRow.holds Try.pinned (OpenSpec.upto fnExactMirrorTableSpec)

/-- 'laws.FnExactResiduals', WHERE WHAT IT READS IS OF BULK AT MOST 1048576: true; the input reads as it did. -/
def fnExactResidualsUptoRow : OpenClaim := { program := "ytbmojogohffhaaa", sum := "b1f57d2fc65663b315e163467e04b1b872768f55f726de0f39c936f1b720ea3d", func := "loop.example/g03320/laws.FnExactResiduals", spec := "fnExactResiduals", inPlace := ["math.Float64bits", "math.Float64frombits"], unfollowed := true, recurses := true, apart := false, narrowed := true }
def FnExactResidualsUptoSaid : Prop := fnExactResidualsUptoRow.holds Try.pinned (OpenSpec.upto fnExactResidualsSpec)

end Rows
end Go.Proofs.Ytbmojogohffhaaa
