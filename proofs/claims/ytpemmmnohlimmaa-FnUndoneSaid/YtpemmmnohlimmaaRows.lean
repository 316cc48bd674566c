/-
  No cell of these rows narrows 'for every input' (looked for: loops, veiled, ifaces, maps, wideKeys, modest, calm, conditions, laid).
  DERIVED. THE GIVEN ROWS OF THIS SEAT. 3 by the template 'for every input the law returns true; each argument reads behind the call as it read before'; 0 by the template 'total and deterministic' (their statements: YtpemmmnohlimmaaTotals.lean).
  GIVEN WITH THE SEED: the statements are not yours to turn. If you find one false, say at which input.
  Laid BY PROGRAM, IN A SANDBOX (cutbox-rows.mjs): the forced cells as the released guide's own fill.sh prints them over the translation 7a80b915833ae251… (all of the seat's roots in one cut). By AI agents, Wed Nov 11 2026. No macro, syntax, notation, axiom, sorry.
-/
import Derived.Test.YtpemmmnohlimmaaChecked
import GoSem.Claim
import GoSem.ClaimJoined
import GoSem.ClaimMapViews
import Derived.JoinedTies
import Derived.KernelRfl
namespace Go.Proofs.Ytpemmmnohlimmaa
/- THE CELL 'sum', in the pinned program and in every row, IS THE sha256 OF THE DUMP (.gsa) THAT YtpemmmnohlimmaaProg.lean LOADS. Nothing in Lean hashes anything: it is a label: what it is worth is what the hold of that sum in a sandbox is worth. -/
noncomputable def Try.pinned : Pinned := { name := "ytpemmmnohlimmaa", sum := "7a80b915833ae2512db9f4313843ca4b9712abcc4faaf35fe81687317e79798c", checked := Try.checked }
namespace Rows
def none {H : Type} : Left H := { results := [], args := [] }

/-- 'laws.FnStepByStep': WHATEVER THE INPUT: true; the input reads as it did. -/
def fnStepByStepSpec : ChangeSpec := { name := "fnStepByStep", fn := fun _ => fun
  | [d] => { results := [.lit (.bool true)], args := [d] }
  | _ => none }
def fnStepByStepRow : OpenClaim := { program := "ytpemmmnohlimmaa", sum := "7a80b915833ae2512db9f4313843ca4b9712abcc4faaf35fe81687317e79798c", func := "loop.example/g03320/laws.FnStepByStep", spec := "fnStepByStep", inPlace := ["math.Float64bits", "math.Float64frombits"], unfollowed := true, recurses := true, apart := false }
def FnStepByStepSaid : Prop := fnStepByStepRow.holds Try.pinned (OpenSpec.ofChange fnStepByStepSpec)

/-- ITS FALSE NEIGHBOUR: 'it returns false'. Refute it at one input. -/
def fnStepByStepWrong : ChangeSpec := { name := "fnStepByStep", fn := fun _ => fun
  | [d] => { results := [.lit (.bool false)], args := [d] }
  | _ => none }
def FnStepByStepWrongFalsely : Prop := fnStepByStepRow.holds Try.pinned (OpenSpec.ofChange fnStepByStepWrong)

/-- 'laws.FnUndone': WHATEVER THE INPUT: true; the input reads as it did. -/
def fnUndoneSpec : ChangeSpec := { name := "fnUndone", fn := fun _ => fun
  | [d] => { results := [.lit (.bool true)], args := [d] }
  | _ => none }
def fnUndoneRow : OpenClaim := { program := "ytpemmmnohlimmaa", sum := "7a80b915833ae2512db9f4313843ca4b9712abcc4faaf35fe81687317e79798c", func := "loop.example/g03320/laws.FnUndone", spec := "fnUndone", inPlace := ["math.Float64bits", "math.Float64frombits"], unfollowed := true, recurses := true, apart := false }
def FnUndoneSaid : Prop := fnUndoneRow.holds Try.pinned (OpenSpec.ofChange fnUndoneSpec)

/-- ITS FALSE NEIGHBOUR: 'it returns false'. Refute it at one input. -/
def fnUndoneWrong : ChangeSpec := { name := "fnUndone", fn := fun _ => fun
  | [d] => { results := [.lit (.bool false)], args := [d] }
  | _ => none }
def FnUndoneWrongFalsely : Prop := fnUndoneRow.holds Try.pinned (OpenSpec.ofChange fnUndoneWrong)

/-- 'laws.FnMirrorSteps': WHATEVER THE INPUT: true; the input reads as it did. -/
def fnMirrorStepsSpec : ChangeSpec := { name := "fnMirrorSteps", fn := fun _ => fun
  | [d] => { results := [.lit (.bool true)], args := [d] }
  | _ => none }
def fnMirrorStepsRow : OpenClaim := { program := "ytpemmmnohlimmaa", sum := "7a80b915833ae2512db9f4313843ca4b9712abcc4faaf35fe81687317e79798c", func := "loop.example/g03320/laws.FnMirrorSteps", spec := "fnMirrorSteps", inPlace := ["math.Float64bits", "math.Float64frombits"], unfollowed := true, recurses := true, apart := false }
def FnMirrorStepsSaid : Prop := fnMirrorStepsRow.holds Try.pinned (OpenSpec.ofChange fnMirrorStepsSpec)

/-- ITS FALSE NEIGHBOUR: 'it returns false'. Refute it at one input. -/
def fnMirrorStepsWrong : ChangeSpec := { name := "fnMirrorSteps", fn := fun _ => fun
  | [d] => { results := [.lit (.bool false)], args := [d] }
  | _ => none }
def FnMirrorStepsWrongFalsely : Prop := fnMirrorStepsRow.holds Try.pinned (OpenSpec.ofChange fnMirrorStepsWrong)

/- THE SECOND FORM. 'bulk': how many values and letters a reading holds, each counted each time it is reached (what is shared counts as often as it is met; a slice's spare places count too). A statement '..UptoSaid' is the law's where the arguments, and the package variables that the reading takes, are together of bulk at most 1048576: NARROWER than '..Said'. Prove '..Said' where nothing that the law and all that it calls make is longer than what came in: it says more and counts as full. Else prove '..UptoSaid'. A law counts once. -/
mutual
def uptoBulk {H : Type} : DataW H → Nat
  | .lit (.string bytes) => bytes.length + 1
  | .lit _ => 1
  | .nil => 1
  | .ptr d => uptoBulk d + 1
  | .slice elems spare => uptoBulkAll elems + uptoBulkAll spare + 1
  | .agg parts => uptoBulkAll parts + 1
  | .iface _ d => uptoBulk d + 1
  | .map entries => uptoBulkEntries entries + 1
  | .held _ => 1
def uptoBulkAll {H : Type} : List (DataW H) → Nat
  | [] => 0
  | d :: r => uptoBulk d + uptoBulkAll r
def uptoBulkEntries {H : Type} : List (Lit × DataW H) → Nat
  | [] => 0
  | x :: r => uptoBulkEntry x + uptoBulkEntries r
def uptoBulkEntry {H : Type} : Lit × DataW H → Nat
  | (.string bytes, d) => bytes.length + uptoBulk d + 1
  | (_, d) => uptoBulk d + 1
 end
def uptoSmall : (H : Type) → List (DataW H) → Bool := fun _ ds => decide (uptoBulkAll ds ≤ 1048576)
def OpenSpec.upto (s : _root_.Go.ChangeSpec) : _root_.Go.OpenSpec := { _root_.Go.OpenSpec.ofChange s with cond := some uptoSmall }

/-- 'laws.FnStepByStep', WHERE WHAT IT READS IS OF BULK AT MOST 1048576: true; the input reads as it did. -/
def fnStepByStepUptoRow : OpenClaim := { program := "ytpemmmnohlimmaa", sum := "7a80b915833ae2512db9f4313843ca4b9712abcc4faaf35fe81687317e79798c", func := "loop.example/g03320/laws.FnStepByStep", spec := "fnStepByStep", inPlace := ["math.Float64bits", "math.Float64frombits"], unfollowed := true, recurses := true, apart := false, narrowed := true }
def FnStepByStepUptoSaid : Prop := fnStepByStepUptoRow.holds Try.pinned (OpenSpec.upto fnStepByStepSpec)

/-- 'laws.FnUndone', WHERE WHAT IT READS IS OF BULK AT MOST 1048576: true; the input reads as it did. -/
def fnUndoneUptoRow : OpenClaim := { program := "ytpemmmnohlimmaa", sum := "7a80b915833ae2512db9f4313843ca4b9712abcc4faaf35fe81687317e79798c", func := "loop.example/g03320/laws.FnUndone", spec := "fnUndone", inPlace := ["math.Float64bits", "math.Float64frombits"], unfollowed := true, recurses := true, apart := false, narrowed := true }
def FnUndoneUptoSaid : Prop := fnUndoneUptoRow.holds Try.pinned (OpenSpec.upto fnUndoneSpec)

/-- 'laws.FnMirrorSteps', WHERE WHAT IT READS IS OF BULK AT MOST 1048576: true; the input reads as it did. -/
def fnMirrorStepsUptoRow : OpenClaim := { program := "ytpemmmnohlimmaa", sum := "7a80b915833ae2512db9f4313843ca4b9712abcc4faaf35fe81687317e79798c", func := "loop.example/g03320/laws.FnMirrorSteps", spec := "fnMirrorSteps", inPlace := ["math.Float64bits", "math.Float64frombits"], unfollowed := true, recurses := true, apart := false, narrowed := true }
def FnMirrorStepsUptoSaid : Prop := fnMirrorStepsUptoRow.holds Try.pinned (OpenSpec.upto fnMirrorStepsSpec)

end Rows
end Go.Proofs.Ytpemmmnohlimmaa
