/-
  No cell of these rows narrows 'for every input' (looked for: loops, veiled, ifaces, maps, wideKeys, modest, calm, conditions, laid).
  DERIVED. THE GIVEN ROWS OF THIS SEAT. 12 by the template 'for every input the law returns true; each argument reads behind the call as it read before'; 0 by the template 'total and deterministic' (their statements: YtmnpmbliikalhaaTotals.lean).
  GIVEN WITH THE SEED: the statements are not yours to turn. If you find one false, say at which input.
  Laid BY PROGRAM, IN A SANDBOX (cutbox-rows.mjs): the forced cells as the released guide's own fill.sh prints them over the translation 66fec56c6659637a… (all of the seat's roots in one cut). By AI agents, Wed Nov 11 2026. No macro, syntax, notation, axiom, sorry.
-/
import Derived.Test.YtmnpmbliikalhaaChecked
import GoSem.Claim
import GoSem.ClaimJoined
import GoSem.ClaimMapViews
import Derived.JoinedTies
import Derived.KernelRfl
namespace Go.Proofs.Ytmnpmbliikalhaa
/- THE CELL 'sum', in the pinned program and in every row, IS THE sha256 OF THE DUMP (.gsa) THAT YtmnpmbliikalhaaProg.lean LOADS. Nothing in Lean hashes anything: it is a label: what it is worth is what the hold of that sum in a sandbox is worth. -/
noncomputable def Try.pinned : Pinned := { name := "ytmnpmbliikalhaa", sum := "66fec56c6659637aa6c4705b3d49fa01b7bfede609dae832144fdaa8e8f3d25d", checked := Try.checked }
namespace Rows
def none {H : Type} : Left H := { results := [], args := [] }

/-- 'laws.FnSettles': WHATEVER THE INPUT: true; the input reads as it did. -/
def fnSettlesSpec : ChangeSpec := { name := "fnSettles", fn := fun _ => fun
  | [d] => { results := [.lit (.bool true)], args := [d] }
  | _ => none }
def fnSettlesRow : OpenClaim := { program := "ytmnpmbliikalhaa", sum := "66fec56c6659637aa6c4705b3d49fa01b7bfede609dae832144fdaa8e8f3d25d", func := "loop.example/g03320/laws.FnSettles", spec := "fnSettles", inPlace := ["math.Float64bits", "math.Float64frombits"], apart := false }
def FnSettlesSaid : Prop := fnSettlesRow.holds Try.pinned (OpenSpec.ofChange fnSettlesSpec)

/-- ITS FALSE NEIGHBOUR: 'it returns false'. Refute it at one input. -/
def fnSettlesWrong : ChangeSpec := { name := "fnSettles", fn := fun _ => fun
  | [d] => { results := [.lit (.bool false)], args := [d] }
  | _ => none }
def FnSettlesWrongFalsely : Prop := fnSettlesRow.holds Try.pinned (OpenSpec.ofChange fnSettlesWrong)

/-- 'laws.FnCodeSigns': WHATEVER THE INPUT: true; the input reads as it did. -/
def fnCodeSignsSpec : ChangeSpec := { name := "fnCodeSigns", fn := fun _ => fun
  | [d] => { results := [.lit (.bool true)], args := [d] }
  | _ => none }
def fnCodeSignsRow : OpenClaim := { program := "ytmnpmbliikalhaa", sum := "66fec56c6659637aa6c4705b3d49fa01b7bfede609dae832144fdaa8e8f3d25d", func := "loop.example/g03320/laws.FnCodeSigns", spec := "fnCodeSigns", inPlace := ["math.Float64bits", "math.Float64frombits"], apart := false }
def FnCodeSignsSaid : Prop := fnCodeSignsRow.holds Try.pinned (OpenSpec.ofChange fnCodeSignsSpec)

/-- ITS FALSE NEIGHBOUR: 'it returns false'. Refute it at one input. -/
def fnCodeSignsWrong : ChangeSpec := { name := "fnCodeSigns", fn := fun _ => fun
  | [d] => { results := [.lit (.bool false)], args := [d] }
  | _ => none }
def FnCodeSignsWrongFalsely : Prop := fnCodeSignsRow.holds Try.pinned (OpenSpec.ofChange fnCodeSignsWrong)

/-- 'laws.FnCodeClose': WHATEVER THE INPUT: true; the input reads as it did. -/
def fnCodeCloseSpec : ChangeSpec := { name := "fnCodeClose", fn := fun _ => fun
  | [d] => { results := [.lit (.bool true)], args := [d] }
  | _ => none }
def fnCodeCloseRow : OpenClaim := { program := "ytmnpmbliikalhaa", sum := "66fec56c6659637aa6c4705b3d49fa01b7bfede609dae832144fdaa8e8f3d25d", func := "loop.example/g03320/laws.FnCodeClose", spec := "fnCodeClose", inPlace := ["math.Float64bits", "math.Float64frombits"], apart := false }
def FnCodeCloseSaid : Prop := fnCodeCloseRow.holds Try.pinned (OpenSpec.ofChange fnCodeCloseSpec)

/-- ITS FALSE NEIGHBOUR: 'it returns false'. Refute it at one input. -/
def fnCodeCloseWrong : ChangeSpec := { name := "fnCodeClose", fn := fun _ => fun
  | [d] => { results := [.lit (.bool false)], args := [d] }
  | _ => none }
def FnCodeCloseWrongFalsely : Prop := fnCodeCloseRow.holds Try.pinned (OpenSpec.ofChange fnCodeCloseWrong)

/-- 'laws.FnCodeRises': WHATEVER THE INPUT: true; the input reads as it did. -/
def fnCodeRisesSpec : ChangeSpec := { name := "fnCodeRises", fn := fun _ => fun
  | [d] => { results := [.lit (.bool true)], args := [d] }
  | _ => none }
def fnCodeRisesRow : OpenClaim := { program := "ytmnpmbliikalhaa", sum := "66fec56c6659637aa6c4705b3d49fa01b7bfede609dae832144fdaa8e8f3d25d", func := "loop.example/g03320/laws.FnCodeRises", spec := "fnCodeRises", inPlace := ["math.Float64bits", "math.Float64frombits"], apart := false }
def FnCodeRisesSaid : Prop := fnCodeRisesRow.holds Try.pinned (OpenSpec.ofChange fnCodeRisesSpec)

/-- ITS FALSE NEIGHBOUR: 'it returns false'. Refute it at one input. -/
def fnCodeRisesWrong : ChangeSpec := { name := "fnCodeRises", fn := fun _ => fun
  | [d] => { results := [.lit (.bool false)], args := [d] }
  | _ => none }
def FnCodeRisesWrongFalsely : Prop := fnCodeRisesRow.holds Try.pinned (OpenSpec.ofChange fnCodeRisesWrong)

/-- 'laws.FnExactRangesOk': WHATEVER THE INPUT: true; the input reads as it did. -/
def fnExactRangesOkSpec : ChangeSpec := { name := "fnExactRangesOk", fn := fun _ => fun
  | [d] => { results := [.lit (.bool true)], args := [d] }
  | _ => none }
def fnExactRangesOkRow : OpenClaim := { program := "ytmnpmbliikalhaa", sum := "66fec56c6659637aa6c4705b3d49fa01b7bfede609dae832144fdaa8e8f3d25d", func := "loop.example/g03320/laws.FnExactRangesOk", spec := "fnExactRangesOk", inPlace := ["math.Float64bits", "math.Float64frombits"], apart := false }
def FnExactRangesOkSaid : Prop := fnExactRangesOkRow.holds Try.pinned (OpenSpec.ofChange fnExactRangesOkSpec)

/-- ITS FALSE NEIGHBOUR: 'it returns false'. Refute it at one input. -/
def fnExactRangesOkWrong : ChangeSpec := { name := "fnExactRangesOk", fn := fun _ => fun
  | [d] => { results := [.lit (.bool false)], args := [d] }
  | _ => none }
def FnExactRangesOkWrongFalsely : Prop := fnExactRangesOkRow.holds Try.pinned (OpenSpec.ofChange fnExactRangesOkWrong)

/-- 'laws.FnExactStepRange': WHATEVER THE INPUT: true; the input reads as it did. -/
def fnExactStepRangeSpec : ChangeSpec := { name := "fnExactStepRange", fn := fun _ => fun
  | [d1, d2, d3] => { results := [.lit (.bool true)], args := [d1, d2, d3] }
  | _ => none }
def fnExactStepRangeRow : OpenClaim := { program := "ytmnpmbliikalhaa", sum := "66fec56c6659637aa6c4705b3d49fa01b7bfede609dae832144fdaa8e8f3d25d", func := "loop.example/g03320/laws.FnExactStepRange", spec := "fnExactStepRange", inPlace := ["math.Float64bits", "math.Float64frombits"], apart := false }
def FnExactStepRangeSaid : Prop := fnExactStepRangeRow.holds Try.pinned (OpenSpec.ofChange fnExactStepRangeSpec)

/-- ITS FALSE NEIGHBOUR: 'it returns false'. Refute it at one input. -/
def fnExactStepRangeWrong : ChangeSpec := { name := "fnExactStepRange", fn := fun _ => fun
  | [d1, d2, d3] => { results := [.lit (.bool false)], args := [d1, d2, d3] }
  | _ => none }
def FnExactStepRangeWrongFalsely : Prop := fnExactStepRangeRow.holds Try.pinned (OpenSpec.ofChange fnExactStepRangeWrong)

/-- 'laws.FnExactSettle': WHATEVER THE INPUT: true; the input reads as it did. -/
def fnExactSettleSpec : ChangeSpec := { name := "fnExactSettle", fn := fun _ => fun
  | [d1, d2, d3] => { results := [.lit (.bool true)], args := [d1, d2, d3] }
  | _ => none }
def fnExactSettleRow : OpenClaim := { program := "ytmnpmbliikalhaa", sum := "66fec56c6659637aa6c4705b3d49fa01b7bfede609dae832144fdaa8e8f3d25d", func := "loop.example/g03320/laws.FnExactSettle", spec := "fnExactSettle", inPlace := ["math.Float64bits", "math.Float64frombits"], apart := false }
def FnExactSettleSaid : Prop := fnExactSettleRow.holds Try.pinned (OpenSpec.ofChange fnExactSettleSpec)

/-- ITS FALSE NEIGHBOUR: 'it returns false'. Refute it at one input. -/
def fnExactSettleWrong : ChangeSpec := { name := "fnExactSettle", fn := fun _ => fun
  | [d1, d2, d3] => { results := [.lit (.bool false)], args := [d1, d2, d3] }
  | _ => none }
def FnExactSettleWrongFalsely : Prop := fnExactSettleRow.holds Try.pinned (OpenSpec.ofChange fnExactSettleWrong)

/-- 'laws.FnExactRunRange': WHATEVER THE INPUT: true; the input reads as it did. -/
def fnExactRunRangeSpec : ChangeSpec := { name := "fnExactRunRange", fn := fun _ => fun
  | [d1, d2, d3] => { results := [.lit (.bool true)], args := [d1, d2, d3] }
  | _ => none }
def fnExactRunRangeRow : OpenClaim := { program := "ytmnpmbliikalhaa", sum := "66fec56c6659637aa6c4705b3d49fa01b7bfede609dae832144fdaa8e8f3d25d", func := "loop.example/g03320/laws.FnExactRunRange", spec := "fnExactRunRange", inPlace := ["math.Float64bits", "math.Float64frombits"], unfollowed := true, recurses := true, apart := false }
def FnExactRunRangeSaid : Prop := fnExactRunRangeRow.holds Try.pinned (OpenSpec.ofChange fnExactRunRangeSpec)

/-- ITS FALSE NEIGHBOUR: 'it returns false'. Refute it at one input. -/
def fnExactRunRangeWrong : ChangeSpec := { name := "fnExactRunRange", fn := fun _ => fun
  | [d1, d2, d3] => { results := [.lit (.bool false)], args := [d1, d2, d3] }
  | _ => none }
def FnExactRunRangeWrongFalsely : Prop := fnExactRunRangeRow.holds Try.pinned (OpenSpec.ofChange fnExactRunRangeWrong)

/-- 'laws.FnExactOverload': WHATEVER THE INPUT: true; the input reads as it did. -/
def fnExactOverloadSpec : ChangeSpec := { name := "fnExactOverload", fn := fun _ => fun
  | [d1, d2, d3] => { results := [.lit (.bool true)], args := [d1, d2, d3] }
  | _ => none }
def fnExactOverloadRow : OpenClaim := { program := "ytmnpmbliikalhaa", sum := "66fec56c6659637aa6c4705b3d49fa01b7bfede609dae832144fdaa8e8f3d25d", func := "loop.example/g03320/laws.FnExactOverload", spec := "fnExactOverload", inPlace := ["math.Float64bits", "math.Float64frombits"], apart := false }
def FnExactOverloadSaid : Prop := fnExactOverloadRow.holds Try.pinned (OpenSpec.ofChange fnExactOverloadSpec)

/-- ITS FALSE NEIGHBOUR: 'it returns false'. Refute it at one input. -/
def fnExactOverloadWrong : ChangeSpec := { name := "fnExactOverload", fn := fun _ => fun
  | [d1, d2, d3] => { results := [.lit (.bool false)], args := [d1, d2, d3] }
  | _ => none }
def FnExactOverloadWrongFalsely : Prop := fnExactOverloadRow.holds Try.pinned (OpenSpec.ofChange fnExactOverloadWrong)

/-- 'laws.FnExactBestRange': WHATEVER THE INPUT: true; the input reads as it did. -/
def fnExactBestRangeSpec : ChangeSpec := { name := "fnExactBestRange", fn := fun _ => fun
  | [d1, d2] => { results := [.lit (.bool true)], args := [d1, d2] }
  | _ => none }
def fnExactBestRangeRow : OpenClaim := { program := "ytmnpmbliikalhaa", sum := "66fec56c6659637aa6c4705b3d49fa01b7bfede609dae832144fdaa8e8f3d25d", func := "loop.example/g03320/laws.FnExactBestRange", spec := "fnExactBestRange", inPlace := ["math.Float64bits", "math.Float64frombits"], apart := false }
def FnExactBestRangeSaid : Prop := fnExactBestRangeRow.holds Try.pinned (OpenSpec.ofChange fnExactBestRangeSpec)

/-- ITS FALSE NEIGHBOUR: 'it returns false'. Refute it at one input. -/
def fnExactBestRangeWrong : ChangeSpec := { name := "fnExactBestRange", fn := fun _ => fun
  | [d1, d2] => { results := [.lit (.bool false)], args := [d1, d2] }
  | _ => none }
def FnExactBestRangeWrongFalsely : Prop := fnExactBestRangeRow.holds Try.pinned (OpenSpec.ofChange fnExactBestRangeWrong)

/-- 'laws.FnExactCodeOf': WHATEVER THE INPUT: true; the input reads as it did. -/
def fnExactCodeOfSpec : ChangeSpec := { name := "fnExactCodeOf", fn := fun _ => fun
  | [d1, d2, d3] => { results := [.lit (.bool true)], args := [d1, d2, d3] }
  | _ => none }
def fnExactCodeOfRow : OpenClaim := { program := "ytmnpmbliikalhaa", sum := "66fec56c6659637aa6c4705b3d49fa01b7bfede609dae832144fdaa8e8f3d25d", func := "loop.example/g03320/laws.FnExactCodeOf", spec := "fnExactCodeOf", inPlace := ["math.Float64bits", "math.Float64frombits"], apart := false }
def FnExactCodeOfSaid : Prop := fnExactCodeOfRow.holds Try.pinned (OpenSpec.ofChange fnExactCodeOfSpec)

/-- ITS FALSE NEIGHBOUR: 'it returns false'. Refute it at one input. -/
def fnExactCodeOfWrong : ChangeSpec := { name := "fnExactCodeOf", fn := fun _ => fun
  | [d1, d2, d3] => { results := [.lit (.bool false)], args := [d1, d2, d3] }
  | _ => none }
def FnExactCodeOfWrongFalsely : Prop := fnExactCodeOfRow.holds Try.pinned (OpenSpec.ofChange fnExactCodeOfWrong)

/-- 'laws.FnExactValueOf': WHATEVER THE INPUT: true; the input reads as it did. -/
def fnExactValueOfSpec : ChangeSpec := { name := "fnExactValueOf", fn := fun _ => fun
  | [d1, d2, d3] => { results := [.lit (.bool true)], args := [d1, d2, d3] }
  | _ => none }
def fnExactValueOfRow : OpenClaim := { program := "ytmnpmbliikalhaa", sum := "66fec56c6659637aa6c4705b3d49fa01b7bfede609dae832144fdaa8e8f3d25d", func := "loop.example/g03320/laws.FnExactValueOf", spec := "fnExactValueOf", inPlace := ["math.Float64bits", "math.Float64frombits"], apart := false }
def FnExactValueOfSaid : Prop := fnExactValueOfRow.holds Try.pinned (OpenSpec.ofChange fnExactValueOfSpec)

/-- ITS FALSE NEIGHBOUR: 'it returns false'. Refute it at one input. -/
def fnExactValueOfWrong : ChangeSpec := { name := "fnExactValueOf", fn := fun _ => fun
  | [d1, d2, d3] => { results := [.lit (.bool false)], args := [d1, d2, d3] }
  | _ => none }
def FnExactValueOfWrongFalsely : Prop := fnExactValueOfRow.holds Try.pinned (OpenSpec.ofChange fnExactValueOfWrong)

/- THE SECOND FORM. 'bulk': how many values and letters a reading holds, each counted each time it is reached (what is shared counts as often as it is met; a slice's spare places count too). A statement '..UptoSaid' is the law's where the arguments, and the package variables that the reading takes, are together of bulk at most 1048576: NARROWER than '..Said'. Prove '..Said' where nothing that the law and all that it calls make is longer than what came in: it says more and counts as full. Else prove '..UptoSaid'. A law counts once. -/
mutual
def uptoBulk {H : Type} : DataW H → Nat
  | .lit (.string bytes) => bytes.length + 1
  | .lit _ => 1
  | .nil => 1
  | .ptr d => uptoBulk d + 1
  | .slice elems spare => uptoBulkAll elems + uptoBulkAll spare + 1
  | .agg parts => uptoBulkAll parts + 1
  | .iface _ d => uptoBulk d + 1
  | .map entries => uptoBulkEntries entries + 1
  | .held _ => 1
def uptoBulkAll {H : Type} : List (DataW H) → Nat
  | [] => 0
  | d :: r => uptoBulk d + uptoBulkAll r
def uptoBulkEntries {H : Type} : List (Lit × DataW H) → Nat
  | [] => 0
  | x :: r => uptoBulkEntry x + uptoBulkEntries r
def uptoBulkEntry {H : Type} : Lit × DataW H → Nat
  | (.string bytes, d) => bytes.length + uptoBulk d + 1
  | (_, d) => uptoBulk d + 1
 end
def uptoSmall : (H : Type) → List (DataW H) → Bool := fun _ ds => decide (uptoBulkAll ds ≤ 1048576)
def OpenSpec.upto (s : _root_.Go.ChangeSpec) : _root_.Go.OpenSpec := { _root_.Go.OpenSpec.ofChange s with cond := some uptoSmall }

/-- 'laws.FnSettles', WHERE WHAT IT READS IS OF BULK AT MOST 1048576: true; the input reads as it did. -/
def fnSettlesUptoRow : OpenClaim := { program := "ytmnpmbliikalhaa", sum := "66fec56c6659637aa6c4705b3d49fa01b7bfede609dae832144fdaa8e8f3d25d", func := "loop.example/g03320/laws.FnSettles", spec := "fnSettles", inPlace := ["math.Float64bits", "math.Float64frombits"], apart := false, narrowed := true }
def FnSettlesUptoSaid : Prop := fnSettlesUptoRow.holds Try.pinned (OpenSpec.upto fnSettlesSpec)

/-- 'laws.FnCodeSigns', WHERE WHAT IT READS IS OF BULK AT MOST 1048576: true; the input reads as it did. -/
def fnCodeSignsUptoRow : OpenClaim := { program := "ytmnpmbliikalhaa", sum := "66fec56c6659637aa6c4705b3d49fa01b7bfede609dae832144fdaa8e8f3d25d", func := "loop.example/g03320/laws.FnCodeSigns", spec := "fnCodeSigns", inPlace := ["math.Float64bits", "math.Float64frombits"], apart := false, narrowed := true }
def FnCodeSignsUptoSaid : Prop := fnCodeSignsUptoRow.holds Try.pinned (OpenSpec.upto fnCodeSignsSpec)

/-- 'laws.FnCodeClose', WHERE WHAT IT READS IS OF BULK AT MOST 1048576: true; the input reads as it did. -/
def fnCodeCloseUptoRow : OpenClaim := { program := "ytmnpmbliikalhaa", sum := "66fec56c6659637aa6c4705b3d49fa01b7bfede609dae832144fdaa8e8f3d25d", func := "loop.example/g03320/laws.FnCodeClose", spec := "fnCodeClose", inPlace := ["math.Float64bits", "math.Float64frombits"], apart := false, narrowed := true }
def FnCodeCloseUptoSaid : Prop := fnCodeCloseUptoRow.holds Try.pinned (OpenSpec.upto fnCodeCloseSpec)

/-- 'laws.FnCodeRises', WHERE WHAT IT READS IS OF BULK AT MOST 1048576: true; the input reads as it did. -/
def fnCodeRisesUptoRow : OpenClaim := { program := "ytmnpmbliikalhaa", sum := "66fec56c6659637aa6c4705b3d49fa01b7bfede609dae832144fdaa8e8f3d25d", func := "loop.example/g03320/laws.FnCodeRises", spec := "fnCodeRises", inPlace := ["math.Float64bits", "math.Float64frombits"], apart := false, narrowed := true }
def FnCodeRisesUptoSaid : Prop := fnCodeRisesUptoRow.holds Try.pinned (OpenSpec.upto fnCodeRisesSpec)

/-- 'laws.FnExactRangesOk', WHERE WHAT IT READS IS OF BULK AT MOST 1048576: true; the input reads as it did. -/
def fnExactRangesOkUptoRow : OpenClaim := { program := "ytmnpmbliikalhaa", sum := "66fec56c6659637aa6c4705b3d49fa01b7bfede609dae832144fdaa8e8f3d25d", func := "loop.example/g03320/laws.FnExactRangesOk", spec := "fnExactRangesOk", inPlace := ["math.Float64bits", "math.Float64frombits"], apart := false, narrowed := true }
def FnExactRangesOkUptoSaid : Prop := fnExactRangesOkUptoRow.holds Try.pinned (OpenSpec.upto fnExactRangesOkSpec)

/-- 'laws.FnExactStepRange', WHERE WHAT IT READS IS OF BULK AT MOST 1048576: true; the input reads as it did. -/
def fnExactStepRangeUptoRow : OpenClaim := { program := "ytmnpmbliikalhaa", sum := "66fec56c6659637aa6c4705b3d49fa01b7bfede609dae832144fdaa8e8f3d25d", func := "loop.example/g03320/laws.FnExactStepRange", spec := "fnExactStepRange", inPlace := ["math.Float64bits", "math.Float64frombits"], apart := false, narrowed := true }
def FnExactStepRangeUptoSaid : Prop := fnExactStepRangeUptoRow.holds Try.pinned (OpenSpec.upto fnExactStepRangeSpec)

/-- 'laws.FnExactSettle', WHERE WHAT IT READS IS OF BULK AT MOST 1048576: true; the input reads as it did. -/
def fnExactSettleUptoRow : OpenClaim := { program := "ytmnpmbliikalhaa", sum := "66fec56c6659637aa6c4705b3d49fa01b7bfede609dae832144fdaa8e8f3d25d", func := "loop.example/g03320/laws.FnExactSettle", spec := "fnExactSettle", inPlace := ["math.Float64bits", "math.Float64frombits"], apart := false, narrowed := true }
def FnExactSettleUptoSaid : Prop := fnExactSettleUptoRow.holds Try.pinned (OpenSpec.upto fnExactSettleSpec)

/-- 'laws.FnExactRunRange', WHERE WHAT IT READS IS OF BULK AT MOST 1048576: true; the input reads as it did. -/
def fnExactRunRangeUptoRow : OpenClaim := { program := "ytmnpmbliikalhaa", sum := "66fec56c6659637aa6c4705b3d49fa01b7bfede609dae832144fdaa8e8f3d25d", func := "loop.example/g03320/laws.FnExactRunRange", spec := "fnExactRunRange", inPlace := ["math.Float64bits", "math.Float64frombits"], unfollowed := true, recurses := true, apart := false, narrowed := true }
def FnExactRunRangeUptoSaid : Prop := fnExactRunRangeUptoRow.holds Try.pinned (OpenSpec.upto fnExactRunRangeSpec)

/-- 'laws.FnExactOverload', WHERE WHAT IT READS IS OF BULK AT MOST 1048576: true; the input reads as it did. -/
def fnExactOverloadUptoRow : OpenClaim := { program := "ytmnpmbliikalhaa", sum := "66fec56c6659637aa6c4705b3d49fa01b7bfede609dae832144fdaa8e8f3d25d", func := "loop.example/g03320/laws.FnExactOverload", spec := "fnExactOverload", inPlace := ["math.Float64bits", "math.Float64frombits"], apart := false, narrowed := true }
def FnExactOverloadUptoSaid : Prop := fnExactOverloadUptoRow.holds Try.pinned (OpenSpec.upto fnExactOverloadSpec)

/-- 'laws.FnExactBestRange', WHERE WHAT IT READS IS OF BULK AT MOST 1048576: true; the input reads as it did. -/
def fnExactBestRangeUptoRow : OpenClaim := { program := "ytmnpmbliikalhaa", sum := "66fec56c6659637aa6c4705b3d49fa01b7bfede609dae832144fdaa8e8f3d25d", func := "loop.example/g03320/laws.FnExactBestRange", spec := "fnExactBestRange", inPlace := ["math.Float64bits", "math.Float64frombits"], apart := false, narrowed := true }
def FnExactBestRangeUptoSaid : Prop := fnExactBestRangeUptoRow.holds Try.pinned (OpenSpec.upto fnExactBestRangeSpec)

/-- 'laws.FnExactCodeOf', WHERE WHAT IT READS IS OF BULK AT MOST 1048576: true; the input reads as it did. -/
def fnExactCodeOfUptoRow : OpenClaim := { program := "ytmnpmbliikalhaa", sum := "66fec56c6659637aa6c4705b3d49fa01b7bfede609dae832144fdaa8e8f3d25d", func := "loop.example/g03320/laws.FnExactCodeOf", spec := "fnExactCodeOf", inPlace := ["math.Float64bits", "math.Float64frombits"], apart := false, narrowed := true }
def FnExactCodeOfUptoSaid : Prop := fnExactCodeOfUptoRow.holds Try.pinned (OpenSpec.upto fnExactCodeOfSpec)

/-- 'laws.FnExactValueOf', WHERE WHAT IT READS IS OF BULK AT MOST 1048576: true; the input reads as it did. -/
def fnExactValueOfUptoRow : OpenClaim := { program := "ytmnpmbliikalhaa", sum := "66fec56c6659637aa6c4705b3d49fa01b7bfede609dae832144fdaa8e8f3d25d", func := "loop.example/g03320/laws.FnExactValueOf", spec := "fnExactValueOf", inPlace := ["math.Float64bits", "math.Float64frombits"], apart := false, narrowed := true }
def FnExactValueOfUptoSaid : Prop := fnExactValueOfUptoRow.holds Try.pinned (OpenSpec.upto fnExactValueOfSpec)

end Rows
end Go.Proofs.Ytmnpmbliikalhaa
