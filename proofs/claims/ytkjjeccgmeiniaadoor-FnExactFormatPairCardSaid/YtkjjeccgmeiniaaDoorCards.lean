/-
  DERIVED. GIVEN WITH THE SEED: THE CARDS: each row of YtkjjeccgmeiniaaDoorRows.lean that lists a variable, with what it lists TIED to the program's text (the seventh form; the later family's looks); each row that meets fmt, with fmt's text TOLD by the authors' own Lean function (tested against real Go, not proved from fmt's source: count such statements apart). THE CARD IS WHAT COUNTS. Prove the row's statement (the work); the ties are given (YtkjjeccgmeiniaaDoorTie.lean); close each card by the builder's one call (the guide's Derived/Test/ToyasCard.lean, 'card_holds'). Laid BY PROGRAM, IN A SANDBOX (cutbox-door.mjs). By AI agents, Wed Nov 11 2026. No macro, syntax, notation, axiom, sorry.
-/
import Derived.Test.YtkjjeccgmeiniaaDoorRows
import GoSem.ClaimSeven
namespace Go.Proofs.YtkjjeccgmeiniaaDoor
namespace Rows

/-- THE TIED CARD OF 'laws.FnPairText'. -/
def fnPairTextCard : Claim7 := { stood := { row := fnPairTextRow, standIns := [], harness := (true, "0bc0c38800f1face12b470e24ea35e8385449cf4b887def7cf8922c0de601c5d"), looks := true }, kinds := [], alts := [], laidByText := true, laidKinds := [.data, .data, .data, .data, .sentinel, .sentinel, .pinned], laidTests := true, laidLooks := .later }
def FnPairTextCardSaid : Prop := Claim7.holds Tryd.pinned (.plain (OpenSpec.ofChange fnPairTextSpec)) fnPairTextCard

/-- THE TIED CARD OF 'laws.FnRunsCompared'. -/
def fnRunsComparedCard : Claim7 := { stood := { row := fnRunsComparedRow, standIns := [], harness := (true, "0bc0c38800f1face12b470e24ea35e8385449cf4b887def7cf8922c0de601c5d"), looks := true }, kinds := [], alts := [], laidByText := true, laidKinds := [.data, .data, .data], laidTests := true, laidLooks := .later }
def FnRunsComparedCardSaid : Prop := Claim7.holds Tryd.pinned (.plain (OpenSpec.ofChange fnRunsComparedSpec)) fnRunsComparedCard

/-- THE TIED CARD OF 'laws.FnExactFormatPair'. -/
def fnExactFormatPairCard : Claim7 := { stood := { row := fnExactFormatPairRow, standIns := [], harness := (true, "0bc0c38800f1face12b470e24ea35e8385449cf4b887def7cf8922c0de601c5d"), looks := true }, kinds := [], alts := [], laidByText := true, laidKinds := [.data, .data, .data], laidTests := true, laidLooks := .later }
def FnExactFormatPairCardSaid : Prop := Claim7.holds Tryd.pinned (.plain (OpenSpec.ofChange fnExactFormatPairSpec)) fnExactFormatPairCard

/-- THE TIED CARD OF 'laws.FnExactParsePair'. -/
def fnExactParsePairCard : Claim7 := { stood := { row := fnExactParsePairRow, standIns := [], harness := (true, "0bc0c38800f1face12b470e24ea35e8385449cf4b887def7cf8922c0de601c5d"), looks := true }, kinds := [], alts := [], laidByText := true, laidKinds := [.data, .data, .data, .data, .sentinel, .sentinel, .pinned], laidTests := true, laidLooks := .later }
def FnExactParsePairCardSaid : Prop := Claim7.holds Tryd.pinned (.plain (OpenSpec.ofChange fnExactParsePairSpec)) fnExactParsePairCard

/-- THE SECOND FORM's CARD OF 'laws.FnPairText'. -/
def fnPairTextUptoCard : Claim7 := { stood := { row := fnPairTextUptoRow, standIns := [], harness := (true, "0bc0c38800f1face12b470e24ea35e8385449cf4b887def7cf8922c0de601c5d"), looks := true }, kinds := [], alts := [], laidByText := true, laidKinds := [.data, .data, .data, .data, .sentinel, .sentinel, .pinned], laidTests := true, laidLooks := .later }
def FnPairTextUptoCardSaid : Prop := Claim7.holds Tryd.pinned (.plain (OpenSpec.upto fnPairTextSpec)) fnPairTextUptoCard

/-- THE SECOND FORM's CARD OF 'laws.FnRunsCompared'. -/
def fnRunsComparedUptoCard : Claim7 := { stood := { row := fnRunsComparedUptoRow, standIns := [], harness := (true, "0bc0c38800f1face12b470e24ea35e8385449cf4b887def7cf8922c0de601c5d"), looks := true }, kinds := [], alts := [], laidByText := true, laidKinds := [.data, .data, .data], laidTests := true, laidLooks := .later }
def FnRunsComparedUptoCardSaid : Prop := Claim7.holds Tryd.pinned (.plain (OpenSpec.upto fnRunsComparedSpec)) fnRunsComparedUptoCard

/-- THE SECOND FORM's CARD OF 'laws.FnExactFormatPair'. -/
def fnExactFormatPairUptoCard : Claim7 := { stood := { row := fnExactFormatPairUptoRow, standIns := [], harness := (true, "0bc0c38800f1face12b470e24ea35e8385449cf4b887def7cf8922c0de601c5d"), looks := true }, kinds := [], alts := [], laidByText := true, laidKinds := [.data, .data, .data], laidTests := true, laidLooks := .later }
def FnExactFormatPairUptoCardSaid : Prop := Claim7.holds Tryd.pinned (.plain (OpenSpec.upto fnExactFormatPairSpec)) fnExactFormatPairUptoCard

/-- THE SECOND FORM's CARD OF 'laws.FnExactParsePair'. -/
def fnExactParsePairUptoCard : Claim7 := { stood := { row := fnExactParsePairUptoRow, standIns := [], harness := (true, "0bc0c38800f1face12b470e24ea35e8385449cf4b887def7cf8922c0de601c5d"), looks := true }, kinds := [], alts := [], laidByText := true, laidKinds := [.data, .data, .data, .data, .sentinel, .sentinel, .pinned], laidTests := true, laidLooks := .later }
def FnExactParsePairUptoCardSaid : Prop := Claim7.holds Tryd.pinned (.plain (OpenSpec.upto fnExactParsePairSpec)) fnExactParsePairUptoCard
end Rows
end Go.Proofs.YtkjjeccgmeiniaaDoor
