/-
  No cell of these rows narrows 'for every input' (looked for: loops, veiled, ifaces, maps, wideKeys, modest, calm, conditions, laid).
  DERIVED. THE GIVEN ROWS OF THIS SEAT. 3 by the template 'for every input the law returns true; each argument reads behind the call as it read before'; 0 by the template 'total and deterministic' (their statements: YtjkjgichneoflaaTotals.lean).
  GIVEN WITH THE SEED: the statements are not yours to turn. If you find one false, say at which input.
  Laid BY PROGRAM, IN A SANDBOX (cutbox-rows.mjs): the forced cells as the released guide's own fill.sh prints them over the translation 1b128c6f4756ecbe… (all of the seat's roots in one cut). By AI agents, Wed Nov 11 2026. No macro, syntax, notation, axiom, sorry.
-/
import Derived.Test.YtjkjgichneoflaaChecked
import GoSem.Claim
import GoSem.ClaimJoined
import GoSem.ClaimMapViews
import Derived.JoinedTies
import Derived.KernelRfl
namespace Go.Proofs.Ytjkjgichneoflaa
/- THE CELL 'sum', in the pinned program and in every row, IS THE sha256 OF THE DUMP (.gsa) THAT YtjkjgichneoflaaProg.lean LOADS. Nothing in Lean hashes anything: it is a label: what it is worth is what the hold of that sum in a sandbox is worth. -/
noncomputable def Try.pinned : Pinned := { name := "ytjkjgichneoflaa", sum := "1b128c6f4756ecbe6b8a7416a74b05a895c1c5aebdd856ce24dfbcc4f7656a5e", checked := Try.checked }
namespace Rows
def none {H : Type} : Left H := { results := [], args := [] }

/-- 'laws.FnPlusNothing': WHATEVER THE INPUT: true; the input reads as it did. -/
def fnPlusNothingSpec : ChangeSpec := { name := "fnPlusNothing", fn := fun _ => fun
  | [d] => { results := [.lit (.bool true)], args := [d] }
  | _ => none }
def fnPlusNothingRow : OpenClaim := { program := "ytjkjgichneoflaa", sum := "1b128c6f4756ecbe6b8a7416a74b05a895c1c5aebdd856ce24dfbcc4f7656a5e", func := "loop.example/g03320/laws.FnPlusNothing", spec := "fnPlusNothing", inPlace := ["math.Float64bits", "math.Float64frombits"], unfollowed := true, recurses := true, apart := false }
def FnPlusNothingSaid : Prop := fnPlusNothingRow.holds Try.pinned (OpenSpec.ofChange fnPlusNothingSpec)

/-- ITS FALSE NEIGHBOUR: 'it returns false'. Refute it at one input. -/
def fnPlusNothingWrong : ChangeSpec := { name := "fnPlusNothing", fn := fun _ => fun
  | [d] => { results := [.lit (.bool false)], args := [d] }
  | _ => none }
def FnPlusNothingWrongFalsely : Prop := fnPlusNothingRow.holds Try.pinned (OpenSpec.ofChange fnPlusNothingWrong)

/-- 'laws.FnMirrorExpr': WHATEVER THE INPUT: true; the input reads as it did. -/
def fnMirrorExprSpec : ChangeSpec := { name := "fnMirrorExpr", fn := fun _ => fun
  | [d] => { results := [.lit (.bool true)], args := [d] }
  | _ => none }
def fnMirrorExprRow : OpenClaim := { program := "ytjkjgichneoflaa", sum := "1b128c6f4756ecbe6b8a7416a74b05a895c1c5aebdd856ce24dfbcc4f7656a5e", func := "loop.example/g03320/laws.FnMirrorExpr", spec := "fnMirrorExpr", inPlace := ["math.Float64bits", "math.Float64frombits"], unfollowed := true, recurses := true, apart := false }
def FnMirrorExprSaid : Prop := fnMirrorExprRow.holds Try.pinned (OpenSpec.ofChange fnMirrorExprSpec)

/-- ITS FALSE NEIGHBOUR: 'it returns false'. Refute it at one input. -/
def fnMirrorExprWrong : ChangeSpec := { name := "fnMirrorExpr", fn := fun _ => fun
  | [d] => { results := [.lit (.bool false)], args := [d] }
  | _ => none }
def FnMirrorExprWrongFalsely : Prop := fnMirrorExprRow.holds Try.pinned (OpenSpec.ofChange fnMirrorExprWrong)

/-- 'laws.FnSlotsOnly': WHATEVER THE INPUT: true; the input reads as it did. -/
def fnSlotsOnlySpec : ChangeSpec := { name := "fnSlotsOnly", fn := fun _ => fun
  | [d] => { results := [.lit (.bool true)], args := [d] }
  | _ => none }
def fnSlotsOnlyRow : OpenClaim := { program := "ytjkjgichneoflaa", sum := "1b128c6f4756ecbe6b8a7416a74b05a895c1c5aebdd856ce24dfbcc4f7656a5e", func := "loop.example/g03320/laws.FnSlotsOnly", spec := "fnSlotsOnly", inPlace := ["math.Float64bits", "math.Float64frombits"], unfollowed := true, recurses := true, apart := false }
def FnSlotsOnlySaid : Prop := fnSlotsOnlyRow.holds Try.pinned (OpenSpec.ofChange fnSlotsOnlySpec)

/-- ITS FALSE NEIGHBOUR: 'it returns false'. Refute it at one input. -/
def fnSlotsOnlyWrong : ChangeSpec := { name := "fnSlotsOnly", fn := fun _ => fun
  | [d] => { results := [.lit (.bool false)], args := [d] }
  | _ => none }
def FnSlotsOnlyWrongFalsely : Prop := fnSlotsOnlyRow.holds Try.pinned (OpenSpec.ofChange fnSlotsOnlyWrong)

/- THE SECOND FORM. 'bulk': how many values and letters a reading holds, each counted each time it is reached (what is shared counts as often as it is met; a slice's spare places count too). A statement '..UptoSaid' is the law's where the arguments, and the package variables that the reading takes, are together of bulk at most 1048576: NARROWER than '..Said'. Prove '..Said' where nothing that the law and all that it calls make is longer than what came in: it says more and counts as full. Else prove '..UptoSaid'. A law counts once. -/
mutual
def uptoBulk {H : Type} : DataW H → Nat
  | .lit (.string bytes) => bytes.length + 1
  | .lit _ => 1
  | .nil => 1
  | .ptr d => uptoBulk d + 1
  | .slice elems spare => uptoBulkAll elems + uptoBulkAll spare + 1
  | .agg parts => uptoBulkAll parts + 1
  | .iface _ d => uptoBulk d + 1
  | .map entries => uptoBulkEntries entries + 1
  | .held _ => 1
def uptoBulkAll {H : Type} : List (DataW H) → Nat
  | [] => 0
  | d :: r => uptoBulk d + uptoBulkAll r
def uptoBulkEntries {H : Type} : List (Lit × DataW H) → Nat
  | [] => 0
  | x :: r => uptoBulkEntry x + uptoBulkEntries r
def uptoBulkEntry {H : Type} : Lit × DataW H → Nat
  | (.string bytes, d) => bytes.length + uptoBulk d + 1
  | (_, d) => uptoBulk d + 1
 end
def uptoSmall : (H : Type) → List (DataW H) → Bool := fun _ ds => decide (uptoBulkAll ds ≤ 1048576)
def OpenSpec.upto (s : _root_.Go.ChangeSpec) : _root_.Go.OpenSpec := { _root_.Go.OpenSpec.ofChange s with cond := some uptoSmall }

/-- 'laws.FnPlusNothing', WHERE WHAT IT READS IS OF BULK AT MOST 1048576: true; the input reads as it did. -/
def fnPlusNothingUptoRow : OpenClaim := { program := "ytjkjgichneoflaa", sum := "1b128c6f4756ecbe6b8a7416a74b05a895c1c5aebdd856ce24dfbcc4f7656a5e", func := "loop.example/g03320/laws.FnPlusNothing", spec := "fnPlusNothing", inPlace := ["math.Float64bits", "math.Float64frombits"], unfollowed := true, recurses := true, apart := false, narrowed := true }
def FnPlusNothingUptoSaid : Prop := fnPlusNothingUptoRow.holds Try.pinned (OpenSpec.upto fnPlusNothingSpec)

/-- 'laws.FnMirrorExpr', WHERE WHAT IT READS IS OF BULK AT MOST 1048576: true; the input reads as it did. -/
def fnMirrorExprUptoRow : OpenClaim := { program := "ytjkjgichneoflaa", sum := "1b128c6f4756ecbe6b8a7416a74b05a895c1c5aebdd856ce24dfbcc4f7656a5e", func := "loop.example/g03320/laws.FnMirrorExpr", spec := "fnMirrorExpr", inPlace := ["math.Float64bits", "math.Float64frombits"], unfollowed := true, recurses := true, apart := false, narrowed := true }
def FnMirrorExprUptoSaid : Prop := fnMirrorExprUptoRow.holds Try.pinned (OpenSpec.upto fnMirrorExprSpec)

/-- 'laws.FnSlotsOnly', WHERE WHAT IT READS IS OF BULK AT MOST 1048576: true; the input reads as it did. -/
def fnSlotsOnlyUptoRow : OpenClaim := { program := "ytjkjgichneoflaa", sum := "1b128c6f4756ecbe6b8a7416a74b05a895c1c5aebdd856ce24dfbcc4f7656a5e", func := "loop.example/g03320/laws.FnSlotsOnly", spec := "fnSlotsOnly", inPlace := ["math.Float64bits", "math.Float64frombits"], unfollowed := true, recurses := true, apart := false, narrowed := true }
def FnSlotsOnlyUptoSaid : Prop := fnSlotsOnlyUptoRow.holds Try.pinned (OpenSpec.upto fnSlotsOnlySpec)

end Rows
end Go.Proofs.Ytjkjgichneoflaa
