/-
  No cell of these rows narrows 'for every input' (looked for: loops, veiled, ifaces, maps, wideKeys, modest, calm, conditions, laid).
  DERIVED. THE GIVEN ROWS OF THIS SEAT. 9 by the template 'for every input the law returns true; each argument reads behind the call as it read before'; 0 by the template 'total and deterministic' (their statements: YtegcgbddoeoipaaTotals.lean).
  GIVEN WITH THE SEED: the statements are not yours to turn. If you find one false, say at which input.
  Laid BY PROGRAM, IN A SANDBOX (cutbox-rows.mjs): the forced cells as the released guide's own fill.sh prints them over the translation df6a84e4b1fd20aa… (all of the seat's roots in one cut). By AI agents, Wed Nov 11 2026. No macro, syntax, notation, axiom, sorry.
-/
import Derived.Test.YtegcgbddoeoipaaChecked
import GoSem.Claim
import GoSem.ClaimJoined
import GoSem.ClaimMapViews
import Derived.JoinedTies
import Derived.KernelRfl
namespace Go.Proofs.Ytegcgbddoeoipaa
/- THE CELL 'sum', in the pinned program and in every row, IS THE sha256 OF THE DUMP (.gsa) THAT YtegcgbddoeoipaaProg.lean LOADS. Nothing in Lean hashes anything: it is a label: what it is worth is what the hold of that sum in a sandbox is worth. -/
noncomputable def Try.pinned : Pinned := { name := "ytegcgbddoeoipaa", sum := "df6a84e4b1fd20aa6547a9e19e07dd498067f8200d7a8c7be2a8f83fcde908eb", checked := Try.checked }
namespace Rows
def none {H : Type} : Left H := { results := [], args := [] }

/-- 'laws.FnTurnsTogether': WHATEVER THE INPUT: true; the input reads as it did. -/
def fnTurnsTogetherSpec : ChangeSpec := { name := "fnTurnsTogether", fn := fun _ => fun
  | [d] => { results := [.lit (.bool true)], args := [d] }
  | _ => none }
def fnTurnsTogetherRow : OpenClaim := { program := "ytegcgbddoeoipaa", sum := "df6a84e4b1fd20aa6547a9e19e07dd498067f8200d7a8c7be2a8f83fcde908eb", func := "loop.example/g03320/laws.FnTurnsTogether", spec := "fnTurnsTogether", inPlace := ["math.Float64bits", "math.Float64frombits"], apart := false }
def FnTurnsTogetherSaid : Prop := fnTurnsTogetherRow.holds Try.pinned (OpenSpec.ofChange fnTurnsTogetherSpec)

/-- ITS FALSE NEIGHBOUR: 'it returns false'. Refute it at one input. -/
def fnTurnsTogetherWrong : ChangeSpec := { name := "fnTurnsTogether", fn := fun _ => fun
  | [d] => { results := [.lit (.bool false)], args := [d] }
  | _ => none }
def FnTurnsTogetherWrongFalsely : Prop := fnTurnsTogetherRow.holds Try.pinned (OpenSpec.ofChange fnTurnsTogetherWrong)

/-- 'laws.FnTurnBack': WHATEVER THE INPUT: true; the input reads as it did. -/
def fnTurnBackSpec : ChangeSpec := { name := "fnTurnBack", fn := fun _ => fun
  | [d] => { results := [.lit (.bool true)], args := [d] }
  | _ => none }
def fnTurnBackRow : OpenClaim := { program := "ytegcgbddoeoipaa", sum := "df6a84e4b1fd20aa6547a9e19e07dd498067f8200d7a8c7be2a8f83fcde908eb", func := "loop.example/g03320/laws.FnTurnBack", spec := "fnTurnBack", inPlace := ["math.Float64bits", "math.Float64frombits"], apart := false }
def FnTurnBackSaid : Prop := fnTurnBackRow.holds Try.pinned (OpenSpec.ofChange fnTurnBackSpec)

/-- ITS FALSE NEIGHBOUR: 'it returns false'. Refute it at one input. -/
def fnTurnBackWrong : ChangeSpec := { name := "fnTurnBack", fn := fun _ => fun
  | [d] => { results := [.lit (.bool false)], args := [d] }
  | _ => none }
def FnTurnBackWrongFalsely : Prop := fnTurnBackRow.holds Try.pinned (OpenSpec.ofChange fnTurnBackWrong)

/-- 'laws.FnQuadrants': WHATEVER THE INPUT: true; the input reads as it did. -/
def fnQuadrantsSpec : ChangeSpec := { name := "fnQuadrants", fn := fun _ => fun
  | [d] => { results := [.lit (.bool true)], args := [d] }
  | _ => none }
def fnQuadrantsRow : OpenClaim := { program := "ytegcgbddoeoipaa", sum := "df6a84e4b1fd20aa6547a9e19e07dd498067f8200d7a8c7be2a8f83fcde908eb", func := "loop.example/g03320/laws.FnQuadrants", spec := "fnQuadrants", inPlace := ["math.Float64bits", "math.Float64frombits"], apart := false }
def FnQuadrantsSaid : Prop := fnQuadrantsRow.holds Try.pinned (OpenSpec.ofChange fnQuadrantsSpec)

/-- ITS FALSE NEIGHBOUR: 'it returns false'. Refute it at one input. -/
def fnQuadrantsWrong : ChangeSpec := { name := "fnQuadrants", fn := fun _ => fun
  | [d] => { results := [.lit (.bool false)], args := [d] }
  | _ => none }
def FnQuadrantsWrongFalsely : Prop := fnQuadrantsRow.holds Try.pinned (OpenSpec.ofChange fnQuadrantsWrong)

/-- 'laws.FnRatioOne': WHATEVER THE INPUT: true; the input reads as it did. -/
def fnRatioOneSpec : ChangeSpec := { name := "fnRatioOne", fn := fun _ => fun
  | [d] => { results := [.lit (.bool true)], args := [d] }
  | _ => none }
def fnRatioOneRow : OpenClaim := { program := "ytegcgbddoeoipaa", sum := "df6a84e4b1fd20aa6547a9e19e07dd498067f8200d7a8c7be2a8f83fcde908eb", func := "loop.example/g03320/laws.FnRatioOne", spec := "fnRatioOne", inPlace := ["math.Float64bits", "math.Float64frombits"], apart := false }
def FnRatioOneSaid : Prop := fnRatioOneRow.holds Try.pinned (OpenSpec.ofChange fnRatioOneSpec)

/-- ITS FALSE NEIGHBOUR: 'it returns false'. Refute it at one input. -/
def fnRatioOneWrong : ChangeSpec := { name := "fnRatioOne", fn := fun _ => fun
  | [d] => { results := [.lit (.bool false)], args := [d] }
  | _ => none }
def FnRatioOneWrongFalsely : Prop := fnRatioOneRow.holds Try.pinned (OpenSpec.ofChange fnRatioOneWrong)

/-- 'laws.FnSides': WHATEVER THE INPUT: true; the input reads as it did. -/
def fnSidesSpec : ChangeSpec := { name := "fnSides", fn := fun _ => fun
  | [d] => { results := [.lit (.bool true)], args := [d] }
  | _ => none }
def fnSidesRow : OpenClaim := { program := "ytegcgbddoeoipaa", sum := "df6a84e4b1fd20aa6547a9e19e07dd498067f8200d7a8c7be2a8f83fcde908eb", func := "loop.example/g03320/laws.FnSides", spec := "fnSides", apart := false }
def FnSidesSaid : Prop := fnSidesRow.holds Try.pinned (OpenSpec.ofChange fnSidesSpec)

/-- ITS FALSE NEIGHBOUR: 'it returns false'. Refute it at one input. -/
def fnSidesWrong : ChangeSpec := { name := "fnSides", fn := fun _ => fun
  | [d] => { results := [.lit (.bool false)], args := [d] }
  | _ => none }
def FnSidesWrongFalsely : Prop := fnSidesRow.holds Try.pinned (OpenSpec.ofChange fnSidesWrong)

/-- 'laws.FnSeries': WHATEVER THE INPUT: true; the input reads as it did. -/
def fnSeriesSpec : ChangeSpec := { name := "fnSeries", fn := fun _ => fun
  | [d] => { results := [.lit (.bool true)], args := [d] }
  | _ => none }
def fnSeriesRow : OpenClaim := { program := "ytegcgbddoeoipaa", sum := "df6a84e4b1fd20aa6547a9e19e07dd498067f8200d7a8c7be2a8f83fcde908eb", func := "loop.example/g03320/laws.FnSeries", spec := "fnSeries", inPlace := ["math.Float64bits", "math.Float64frombits"], apart := false }
def FnSeriesSaid : Prop := fnSeriesRow.holds Try.pinned (OpenSpec.ofChange fnSeriesSpec)

/-- ITS FALSE NEIGHBOUR: 'it returns false'. Refute it at one input. -/
def fnSeriesWrong : ChangeSpec := { name := "fnSeries", fn := fun _ => fun
  | [d] => { results := [.lit (.bool false)], args := [d] }
  | _ => none }
def FnSeriesWrongFalsely : Prop := fnSeriesRow.holds Try.pinned (OpenSpec.ofChange fnSeriesWrong)

/-- 'laws.FnExactTurnOk': WHATEVER THE INPUT: true; the input reads as it did. -/
def fnExactTurnOkSpec : ChangeSpec := { name := "fnExactTurnOk", fn := fun _ => fun
  | [d] => { results := [.lit (.bool true)], args := [d] }
  | _ => none }
def fnExactTurnOkRow : OpenClaim := { program := "ytegcgbddoeoipaa", sum := "df6a84e4b1fd20aa6547a9e19e07dd498067f8200d7a8c7be2a8f83fcde908eb", func := "loop.example/g03320/laws.FnExactTurnOk", spec := "fnExactTurnOk", apart := false }
def FnExactTurnOkSaid : Prop := fnExactTurnOkRow.holds Try.pinned (OpenSpec.ofChange fnExactTurnOkSpec)

/-- ITS FALSE NEIGHBOUR: 'it returns false'. Refute it at one input. -/
def fnExactTurnOkWrong : ChangeSpec := { name := "fnExactTurnOk", fn := fun _ => fun
  | [d] => { results := [.lit (.bool false)], args := [d] }
  | _ => none }
def FnExactTurnOkWrongFalsely : Prop := fnExactTurnOkRow.holds Try.pinned (OpenSpec.ofChange fnExactTurnOkWrong)

/-- 'laws.FnExactComposeTurns': WHATEVER THE INPUT: true; the input reads as it did. -/
def fnExactComposeTurnsSpec : ChangeSpec := { name := "fnExactComposeTurns", fn := fun _ => fun
  | [d1, d2] => { results := [.lit (.bool true)], args := [d1, d2] }
  | _ => none }
def fnExactComposeTurnsRow : OpenClaim := { program := "ytegcgbddoeoipaa", sum := "df6a84e4b1fd20aa6547a9e19e07dd498067f8200d7a8c7be2a8f83fcde908eb", func := "loop.example/g03320/laws.FnExactComposeTurns", spec := "fnExactComposeTurns", apart := false }
def FnExactComposeTurnsSaid : Prop := fnExactComposeTurnsRow.holds Try.pinned (OpenSpec.ofChange fnExactComposeTurnsSpec)

/-- ITS FALSE NEIGHBOUR: 'it returns false'. Refute it at one input. -/
def fnExactComposeTurnsWrong : ChangeSpec := { name := "fnExactComposeTurns", fn := fun _ => fun
  | [d1, d2] => { results := [.lit (.bool false)], args := [d1, d2] }
  | _ => none }
def FnExactComposeTurnsWrongFalsely : Prop := fnExactComposeTurnsRow.holds Try.pinned (OpenSpec.ofChange fnExactComposeTurnsWrong)

/-- 'laws.FnExactInverseTurn': WHATEVER THE INPUT: true; the input reads as it did. -/
def fnExactInverseTurnSpec : ChangeSpec := { name := "fnExactInverseTurn", fn := fun _ => fun
  | [d] => { results := [.lit (.bool true)], args := [d] }
  | _ => none }
def fnExactInverseTurnRow : OpenClaim := { program := "ytegcgbddoeoipaa", sum := "df6a84e4b1fd20aa6547a9e19e07dd498067f8200d7a8c7be2a8f83fcde908eb", func := "loop.example/g03320/laws.FnExactInverseTurn", spec := "fnExactInverseTurn", apart := false }
def FnExactInverseTurnSaid : Prop := fnExactInverseTurnRow.holds Try.pinned (OpenSpec.ofChange fnExactInverseTurnSpec)

/-- ITS FALSE NEIGHBOUR: 'it returns false'. Refute it at one input. -/
def fnExactInverseTurnWrong : ChangeSpec := { name := "fnExactInverseTurn", fn := fun _ => fun
  | [d] => { results := [.lit (.bool false)], args := [d] }
  | _ => none }
def FnExactInverseTurnWrongFalsely : Prop := fnExactInverseTurnRow.holds Try.pinned (OpenSpec.ofChange fnExactInverseTurnWrong)

/- THE SECOND FORM. 'bulk': how many values and letters a reading holds, each counted each time it is reached (what is shared counts as often as it is met; a slice's spare places count too). A statement '..UptoSaid' is the law's where the arguments, and the package variables that the reading takes, are together of bulk at most 1048576: NARROWER than '..Said'. Prove '..Said' where nothing that the law and all that it calls make is longer than what came in: it says more and counts as full. Else prove '..UptoSaid'. A law counts once. -/
mutual
def uptoBulk {H : Type} : DataW H → Nat
  | .lit (.string bytes) => bytes.length + 1
  | .lit _ => 1
  | .nil => 1
  | .ptr d => uptoBulk d + 1
  | .slice elems spare => uptoBulkAll elems + uptoBulkAll spare + 1
  | .agg parts => uptoBulkAll parts + 1
  | .iface _ d => uptoBulk d + 1
  | .map entries => uptoBulkEntries entries + 1
  | .held _ => 1
def uptoBulkAll {H : Type} : List (DataW H) → Nat
  | [] => 0
  | d :: r => uptoBulk d + uptoBulkAll r
def uptoBulkEntries {H : Type} : List (Lit × DataW H) → Nat
  | [] => 0
  | x :: r => uptoBulkEntry x + uptoBulkEntries r
def uptoBulkEntry {H : Type} : Lit × DataW H → Nat
  | (.string bytes, d) => bytes.length + uptoBulk d + 1
  | (_, d) => uptoBulk d + 1
 end
def uptoSmall : (H : Type) → List (DataW H) → Bool := fun _ ds => decide (uptoBulkAll ds ≤ 1048576)
def OpenSpec.upto (s : _root_.Go.ChangeSpec) : _root_.Go.OpenSpec := { _root_.Go.OpenSpec.ofChange s with cond := some uptoSmall }

/-- 'laws.FnTurnsTogether', WHERE WHAT IT READS IS OF BULK AT MOST 1048576: true; the input reads as it did. -/
def fnTurnsTogetherUptoRow : OpenClaim := { program := "ytegcgbddoeoipaa", sum := "df6a84e4b1fd20aa6547a9e19e07dd498067f8200d7a8c7be2a8f83fcde908eb", func := "loop.example/g03320/laws.FnTurnsTogether", spec := "fnTurnsTogether", inPlace := ["math.Float64bits", "math.Float64frombits"], apart := false, narrowed := true }
def FnTurnsTogetherUptoSaid : Prop := fnTurnsTogetherUptoRow.holds Try.pinned (OpenSpec.upto fnTurnsTogetherSpec)

/-- 'laws.FnTurnBack', WHERE WHAT IT READS IS OF BULK AT MOST 1048576: true; the input reads as it did. -/
def fnTurnBackUptoRow : OpenClaim := { program := "ytegcgbddoeoipaa", sum := "df6a84e4b1fd20aa6547a9e19e07dd498067f8200d7a8c7be2a8f83fcde908eb", func := "loop.example/g03320/laws.FnTurnBack", spec := "fnTurnBack", inPlace := ["math.Float64bits", "math.Float64frombits"], apart := false, narrowed := true }
def FnTurnBackUptoSaid : Prop := fnTurnBackUptoRow.holds Try.pinned (OpenSpec.upto fnTurnBackSpec)

/-- 'laws.FnQuadrants', WHERE WHAT IT READS IS OF BULK AT MOST 1048576: true; the input reads as it did. -/
def fnQuadrantsUptoRow : OpenClaim := { program := "ytegcgbddoeoipaa", sum := "df6a84e4b1fd20aa6547a9e19e07dd498067f8200d7a8c7be2a8f83fcde908eb", func := "loop.example/g03320/laws.FnQuadrants", spec := "fnQuadrants", inPlace := ["math.Float64bits", "math.Float64frombits"], apart := false, narrowed := true }
def FnQuadrantsUptoSaid : Prop := fnQuadrantsUptoRow.holds Try.pinned (OpenSpec.upto fnQuadrantsSpec)

/-- 'laws.FnRatioOne', WHERE WHAT IT READS IS OF BULK AT MOST 1048576: true; the input reads as it did. -/
def fnRatioOneUptoRow : OpenClaim := { program := "ytegcgbddoeoipaa", sum := "df6a84e4b1fd20aa6547a9e19e07dd498067f8200d7a8c7be2a8f83fcde908eb", func := "loop.example/g03320/laws.FnRatioOne", spec := "fnRatioOne", inPlace := ["math.Float64bits", "math.Float64frombits"], apart := false, narrowed := true }
def FnRatioOneUptoSaid : Prop := fnRatioOneUptoRow.holds Try.pinned (OpenSpec.upto fnRatioOneSpec)

/-- 'laws.FnSides', WHERE WHAT IT READS IS OF BULK AT MOST 1048576: true; the input reads as it did. -/
def fnSidesUptoRow : OpenClaim := { program := "ytegcgbddoeoipaa", sum := "df6a84e4b1fd20aa6547a9e19e07dd498067f8200d7a8c7be2a8f83fcde908eb", func := "loop.example/g03320/laws.FnSides", spec := "fnSides", apart := false, narrowed := true }
def FnSidesUptoSaid : Prop := fnSidesUptoRow.holds Try.pinned (OpenSpec.upto fnSidesSpec)

/-- 'laws.FnSeries', WHERE WHAT IT READS IS OF BULK AT MOST 1048576: true; the input reads as it did. -/
def fnSeriesUptoRow : OpenClaim := { program := "ytegcgbddoeoipaa", sum := "df6a84e4b1fd20aa6547a9e19e07dd498067f8200d7a8c7be2a8f83fcde908eb", func := "loop.example/g03320/laws.FnSeries", spec := "fnSeries", inPlace := ["math.Float64bits", "math.Float64frombits"], apart := false, narrowed := true }
def FnSeriesUptoSaid : Prop := fnSeriesUptoRow.holds Try.pinned (OpenSpec.upto fnSeriesSpec)

/-- 'laws.FnExactTurnOk', WHERE WHAT IT READS IS OF BULK AT MOST 1048576: true; the input reads as it did. -/
def fnExactTurnOkUptoRow : OpenClaim := { program := "ytegcgbddoeoipaa", sum := "df6a84e4b1fd20aa6547a9e19e07dd498067f8200d7a8c7be2a8f83fcde908eb", func := "loop.example/g03320/laws.FnExactTurnOk", spec := "fnExactTurnOk", apart := false, narrowed := true }
def FnExactTurnOkUptoSaid : Prop := fnExactTurnOkUptoRow.holds Try.pinned (OpenSpec.upto fnExactTurnOkSpec)

/-- 'laws.FnExactComposeTurns', WHERE WHAT IT READS IS OF BULK AT MOST 1048576: true; the input reads as it did. -/
def fnExactComposeTurnsUptoRow : OpenClaim := { program := "ytegcgbddoeoipaa", sum := "df6a84e4b1fd20aa6547a9e19e07dd498067f8200d7a8c7be2a8f83fcde908eb", func := "loop.example/g03320/laws.FnExactComposeTurns", spec := "fnExactComposeTurns", apart := false, narrowed := true }
def FnExactComposeTurnsUptoSaid : Prop := fnExactComposeTurnsUptoRow.holds Try.pinned (OpenSpec.upto fnExactComposeTurnsSpec)

/-- 'laws.FnExactInverseTurn', WHERE WHAT IT READS IS OF BULK AT MOST 1048576: true; the input reads as it did. -/
def fnExactInverseTurnUptoRow : OpenClaim := { program := "ytegcgbddoeoipaa", sum := "df6a84e4b1fd20aa6547a9e19e07dd498067f8200d7a8c7be2a8f83fcde908eb", func := "loop.example/g03320/laws.FnExactInverseTurn", spec := "fnExactInverseTurn", apart := false, narrowed := true }
def FnExactInverseTurnUptoSaid : Prop := fnExactInverseTurnUptoRow.holds Try.pinned (OpenSpec.upto fnExactInverseTurnSpec)

end Rows
end Go.Proofs.Ytegcgbddoeoipaa
