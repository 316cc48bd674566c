/-
  No cell of these rows narrows 'for every input' (looked for: loops, veiled, ifaces, maps, wideKeys, modest, calm, conditions, laid).
  DERIVED. THE GIVEN ROWS OF THIS SEAT. 6 by the template 'for every input the law returns true; each argument reads behind the call as it read before'; 0 by the template 'total and deterministic' (their statements: YtkjjeccgmeiniaaTotals.lean).
  GIVEN WITH THE SEED: the statements are not yours to turn. If you find one false, say at which input.
  Laid BY PROGRAM, IN A SANDBOX (cutbox-rows.mjs): the forced cells as the released guide's own fill.sh prints them over the translation 79386a562858c956… (all of the seat's roots in one cut). By AI agents, Wed Nov 11 2026. No macro, syntax, notation, axiom, sorry.
-/
import Derived.Test.YtkjjeccgmeiniaaChecked
import GoSem.Claim
import GoSem.ClaimJoined
import GoSem.ClaimMapViews
import Derived.JoinedTies
import Derived.KernelRfl
namespace Go.Proofs.Ytkjjeccgmeiniaa
/- THE CELL 'sum', in the pinned program and in every row, IS THE sha256 OF THE DUMP (.gsa) THAT YtkjjeccgmeiniaaProg.lean LOADS. Nothing in Lean hashes anything: it is a label: what it is worth is what the hold of that sum in a sandbox is worth. -/
noncomputable def Try.pinned : Pinned := { name := "ytkjjeccgmeiniaa", sum := "79386a562858c956b419d73bf28c02ffdedaec19ec2ee5f003cc31efa43acbba", checked := Try.checked }
namespace Rows
def none {H : Type} : Left H := { results := [], args := [] }

/-- 'laws.FnQuantumBack': WHATEVER THE INPUT: true; the input reads as it did. -/
def fnQuantumBackSpec : ChangeSpec := { name := "fnQuantumBack", fn := fun _ => fun
  | [d] => { results := [.lit (.bool true)], args := [d] }
  | _ => none }
def fnQuantumBackRow : OpenClaim := { program := "ytkjjeccgmeiniaa", sum := "79386a562858c956b419d73bf28c02ffdedaec19ec2ee5f003cc31efa43acbba", func := "loop.example/g03320/laws.FnQuantumBack", spec := "fnQuantumBack", inPlace := ["math.Float64bits", "math.Float64frombits"], unfollowed := true, recurses := true, apart := false }
def FnQuantumBackSaid : Prop := fnQuantumBackRow.holds Try.pinned (OpenSpec.ofChange fnQuantumBackSpec)

/-- ITS FALSE NEIGHBOUR: 'it returns false'. Refute it at one input. -/
def fnQuantumBackWrong : ChangeSpec := { name := "fnQuantumBack", fn := fun _ => fun
  | [d] => { results := [.lit (.bool false)], args := [d] }
  | _ => none }
def FnQuantumBackWrongFalsely : Prop := fnQuantumBackRow.holds Try.pinned (OpenSpec.ofChange fnQuantumBackWrong)

/-- 'laws.FnQuantumSigns': WHATEVER THE INPUT: true; the input reads as it did. -/
def fnQuantumSignsSpec : ChangeSpec := { name := "fnQuantumSigns", fn := fun _ => fun
  | [d] => { results := [.lit (.bool true)], args := [d] }
  | _ => none }
def fnQuantumSignsRow : OpenClaim := { program := "ytkjjeccgmeiniaa", sum := "79386a562858c956b419d73bf28c02ffdedaec19ec2ee5f003cc31efa43acbba", func := "loop.example/g03320/laws.FnQuantumSigns", spec := "fnQuantumSigns", inPlace := ["math.Float64bits", "math.Float64frombits"], unfollowed := true, recurses := true, apart := false }
def FnQuantumSignsSaid : Prop := fnQuantumSignsRow.holds Try.pinned (OpenSpec.ofChange fnQuantumSignsSpec)

/-- ITS FALSE NEIGHBOUR: 'it returns false'. Refute it at one input. -/
def fnQuantumSignsWrong : ChangeSpec := { name := "fnQuantumSigns", fn := fun _ => fun
  | [d] => { results := [.lit (.bool false)], args := [d] }
  | _ => none }
def FnQuantumSignsWrongFalsely : Prop := fnQuantumSignsRow.holds Try.pinned (OpenSpec.ofChange fnQuantumSignsWrong)

/-- 'laws.FnEquivalence': WHATEVER THE INPUT: true; the input reads as it did. -/
def fnEquivalenceSpec : ChangeSpec := { name := "fnEquivalence", fn := fun _ => fun
  | [d] => { results := [.lit (.bool true)], args := [d] }
  | _ => none }
def fnEquivalenceRow : OpenClaim := { program := "ytkjjeccgmeiniaa", sum := "79386a562858c956b419d73bf28c02ffdedaec19ec2ee5f003cc31efa43acbba", func := "loop.example/g03320/laws.FnEquivalence", spec := "fnEquivalence", inPlace := ["math.Float64bits", "math.Float64frombits"], unfollowed := true, recurses := true, apart := false }
def FnEquivalenceSaid : Prop := fnEquivalenceRow.holds Try.pinned (OpenSpec.ofChange fnEquivalenceSpec)

/-- ITS FALSE NEIGHBOUR: 'it returns false'. Refute it at one input. -/
def fnEquivalenceWrong : ChangeSpec := { name := "fnEquivalence", fn := fun _ => fun
  | [d] => { results := [.lit (.bool false)], args := [d] }
  | _ => none }
def FnEquivalenceWrongFalsely : Prop := fnEquivalenceRow.holds Try.pinned (OpenSpec.ofChange fnEquivalenceWrong)

/-- 'laws.FnExactUnitValue': WHATEVER THE INPUT: true; the input reads as it did. -/
def fnExactUnitValueSpec : ChangeSpec := { name := "fnExactUnitValue", fn := fun _ => fun
  | [d] => { results := [.lit (.bool true)], args := [d] }
  | _ => none }
def fnExactUnitValueRow : OpenClaim := { program := "ytkjjeccgmeiniaa", sum := "79386a562858c956b419d73bf28c02ffdedaec19ec2ee5f003cc31efa43acbba", func := "loop.example/g03320/laws.FnExactUnitValue", spec := "fnExactUnitValue", unfollowed := true, recurses := true, apart := false }
def FnExactUnitValueSaid : Prop := fnExactUnitValueRow.holds Try.pinned (OpenSpec.ofChange fnExactUnitValueSpec)

/-- ITS FALSE NEIGHBOUR: 'it returns false'. Refute it at one input. -/
def fnExactUnitValueWrong : ChangeSpec := { name := "fnExactUnitValue", fn := fun _ => fun
  | [d] => { results := [.lit (.bool false)], args := [d] }
  | _ => none }
def FnExactUnitValueWrongFalsely : Prop := fnExactUnitValueRow.holds Try.pinned (OpenSpec.ofChange fnExactUnitValueWrong)

/-- 'laws.FnExactQuantumOf': WHATEVER THE INPUT: true; the input reads as it did. -/
def fnExactQuantumOfSpec : ChangeSpec := { name := "fnExactQuantumOf", fn := fun _ => fun
  | [d1, d2] => { results := [.lit (.bool true)], args := [d1, d2] }
  | _ => none }
def fnExactQuantumOfRow : OpenClaim := { program := "ytkjjeccgmeiniaa", sum := "79386a562858c956b419d73bf28c02ffdedaec19ec2ee5f003cc31efa43acbba", func := "loop.example/g03320/laws.FnExactQuantumOf", spec := "fnExactQuantumOf", inPlace := ["math.Float64bits", "math.Float64frombits"], unfollowed := true, recurses := true, apart := false }
def FnExactQuantumOfSaid : Prop := fnExactQuantumOfRow.holds Try.pinned (OpenSpec.ofChange fnExactQuantumOfSpec)

/-- ITS FALSE NEIGHBOUR: 'it returns false'. Refute it at one input. -/
def fnExactQuantumOfWrong : ChangeSpec := { name := "fnExactQuantumOf", fn := fun _ => fun
  | [d1, d2] => { results := [.lit (.bool false)], args := [d1, d2] }
  | _ => none }
def FnExactQuantumOfWrongFalsely : Prop := fnExactQuantumOfRow.holds Try.pinned (OpenSpec.ofChange fnExactQuantumOfWrong)

/-- 'laws.FnExactInUnits': WHATEVER THE INPUT: true; the input reads as it did. -/
def fnExactInUnitsSpec : ChangeSpec := { name := "fnExactInUnits", fn := fun _ => fun
  | [d1, d2] => { results := [.lit (.bool true)], args := [d1, d2] }
  | _ => none }
def fnExactInUnitsRow : OpenClaim := { program := "ytkjjeccgmeiniaa", sum := "79386a562858c956b419d73bf28c02ffdedaec19ec2ee5f003cc31efa43acbba", func := "loop.example/g03320/laws.FnExactInUnits", spec := "fnExactInUnits", inPlace := ["math.Float64bits", "math.Float64frombits"], unfollowed := true, recurses := true, apart := false }
def FnExactInUnitsSaid : Prop := fnExactInUnitsRow.holds Try.pinned (OpenSpec.ofChange fnExactInUnitsSpec)

/-- ITS FALSE NEIGHBOUR: 'it returns false'. Refute it at one input. -/
def fnExactInUnitsWrong : ChangeSpec := { name := "fnExactInUnits", fn := fun _ => fun
  | [d1, d2] => { results := [.lit (.bool false)], args := [d1, d2] }
  | _ => none }
def FnExactInUnitsWrongFalsely : Prop := fnExactInUnitsRow.holds Try.pinned (OpenSpec.ofChange fnExactInUnitsWrong)

/- THE SECOND FORM. 'bulk': how many values and letters a reading holds, each counted each time it is reached (what is shared counts as often as it is met; a slice's spare places count too). A statement '..UptoSaid' is the law's where the arguments, and the package variables that the reading takes, are together of bulk at most 1048576: NARROWER than '..Said'. Prove '..Said' where nothing that the law and all that it calls make is longer than what came in: it says more and counts as full. Else prove '..UptoSaid'. A law counts once. -/
mutual
def uptoBulk {H : Type} : DataW H → Nat
  | .lit (.string bytes) => bytes.length + 1
  | .lit _ => 1
  | .nil => 1
  | .ptr d => uptoBulk d + 1
  | .slice elems spare => uptoBulkAll elems + uptoBulkAll spare + 1
  | .agg parts => uptoBulkAll parts + 1
  | .iface _ d => uptoBulk d + 1
  | .map entries => uptoBulkEntries entries + 1
  | .held _ => 1
def uptoBulkAll {H : Type} : List (DataW H) → Nat
  | [] => 0
  | d :: r => uptoBulk d + uptoBulkAll r
def uptoBulkEntries {H : Type} : List (Lit × DataW H) → Nat
  | [] => 0
  | x :: r => uptoBulkEntry x + uptoBulkEntries r
def uptoBulkEntry {H : Type} : Lit × DataW H → Nat
  | (.string bytes, d) => bytes.length + uptoBulk d + 1
  | (_, d) => uptoBulk d + 1
 end
def uptoSmall : (H : Type) → List (DataW H) → Bool := fun _ ds => decide (uptoBulkAll ds ≤ 1048576)
def OpenSpec.upto (s : _root_.Go.ChangeSpec) : _root_.Go.OpenSpec := { _root_.Go.OpenSpec.ofChange s with cond := some uptoSmall }

/-- 'laws.FnQuantumBack', WHERE WHAT IT READS IS OF BULK AT MOST 1048576: true; the input reads as it did. -/
def fnQuantumBackUptoRow : OpenClaim := { program := "ytkjjeccgmeiniaa", sum := "79386a562858c956b419d73bf28c02ffdedaec19ec2ee5f003cc31efa43acbba", func := "loop.example/g03320/laws.FnQuantumBack", spec := "fnQuantumBack", inPlace := ["math.Float64bits", "math.Float64frombits"], unfollowed := true, recurses := true, apart := false, narrowed := true }
def FnQuantumBackUptoSaid : Prop := fnQuantumBackUptoRow.holds Try.pinned (OpenSpec.upto fnQuantumBackSpec)

/-- 'laws.FnQuantumSigns', WHERE WHAT IT READS IS OF BULK AT MOST 1048576: true; the input reads as it did. -/
def fnQuantumSignsUptoRow : OpenClaim := { program := "ytkjjeccgmeiniaa", sum := "79386a562858c956b419d73bf28c02ffdedaec19ec2ee5f003cc31efa43acbba", func := "loop.example/g03320/laws.FnQuantumSigns", spec := "fnQuantumSigns", inPlace := ["math.Float64bits", "math.Float64frombits"], unfollowed := true, recurses := true, apart := false, narrowed := true }
def FnQuantumSignsUptoSaid : Prop := fnQuantumSignsUptoRow.holds Try.pinned (OpenSpec.upto fnQuantumSignsSpec)

/-- 'laws.FnEquivalence', WHERE WHAT IT READS IS OF BULK AT MOST 1048576: true; the input reads as it did. -/
def fnEquivalenceUptoRow : OpenClaim := { program := "ytkjjeccgmeiniaa", sum := "79386a562858c956b419d73bf28c02ffdedaec19ec2ee5f003cc31efa43acbba", func := "loop.example/g03320/laws.FnEquivalence", spec := "fnEquivalence", inPlace := ["math.Float64bits", "math.Float64frombits"], unfollowed := true, recurses := true, apart := false, narrowed := true }
def FnEquivalenceUptoSaid : Prop := fnEquivalenceUptoRow.holds Try.pinned (OpenSpec.upto fnEquivalenceSpec)

/-- 'laws.FnExactUnitValue', WHERE WHAT IT READS IS OF BULK AT MOST 1048576: true; the input reads as it did. -/
def fnExactUnitValueUptoRow : OpenClaim := { program := "ytkjjeccgmeiniaa", sum := "79386a562858c956b419d73bf28c02ffdedaec19ec2ee5f003cc31efa43acbba", func := "loop.example/g03320/laws.FnExactUnitValue", spec := "fnExactUnitValue", unfollowed := true, recurses := true, apart := false, narrowed := true }
def FnExactUnitValueUptoSaid : Prop := fnExactUnitValueUptoRow.holds Try.pinned (OpenSpec.upto fnExactUnitValueSpec)

/-- 'laws.FnExactQuantumOf', WHERE WHAT IT READS IS OF BULK AT MOST 1048576: true; the input reads as it did. -/
def fnExactQuantumOfUptoRow : OpenClaim := { program := "ytkjjeccgmeiniaa", sum := "79386a562858c956b419d73bf28c02ffdedaec19ec2ee5f003cc31efa43acbba", func := "loop.example/g03320/laws.FnExactQuantumOf", spec := "fnExactQuantumOf", inPlace := ["math.Float64bits", "math.Float64frombits"], unfollowed := true, recurses := true, apart := false, narrowed := true }
def FnExactQuantumOfUptoSaid : Prop := fnExactQuantumOfUptoRow.holds Try.pinned (OpenSpec.upto fnExactQuantumOfSpec)

/-- 'laws.FnExactInUnits', WHERE WHAT IT READS IS OF BULK AT MOST 1048576: true; the input reads as it did. -/
def fnExactInUnitsUptoRow : OpenClaim := { program := "ytkjjeccgmeiniaa", sum := "79386a562858c956b419d73bf28c02ffdedaec19ec2ee5f003cc31efa43acbba", func := "loop.example/g03320/laws.FnExactInUnits", spec := "fnExactInUnits", inPlace := ["math.Float64bits", "math.Float64frombits"], unfollowed := true, recurses := true, apart := false, narrowed := true }
def FnExactInUnitsUptoSaid : Prop := fnExactInUnitsUptoRow.holds Try.pinned (OpenSpec.upto fnExactInUnitsSpec)

end Rows
end Go.Proofs.Ytkjjeccgmeiniaa
