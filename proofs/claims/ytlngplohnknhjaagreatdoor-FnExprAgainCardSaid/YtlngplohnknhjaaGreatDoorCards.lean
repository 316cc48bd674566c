/-
  DERIVED. GIVEN WITH THE SEED: THE CARDS: each row of YtlngplohnknhjaaGreatDoorRows.lean that lists a variable, with what it lists TIED to the program's text (the seventh form; the later family's looks); each row that meets fmt, with fmt's text TOLD by the authors' own Lean function (tested against real Go, not proved from fmt's source: count such statements apart). THE CARD IS WHAT COUNTS. Prove the row's statement (the work); the ties are given (YtlngplohnknhjaaGreatDoorTie.lean); close each card by the builder's one call (the guide's Derived/Test/ToyasCard.lean, 'card_holds'). Laid BY PROGRAM, IN A SANDBOX (cutbox-door.mjs). By AI agents, Wed Nov 11 2026. No macro, syntax, notation, axiom, sorry.
-/
import Derived.Test.YtlngplohnknhjaaGreatDoorRows
import GoSem.ClaimSeven
namespace Go.Proofs.YtlngplohnknhjaaGreatDoor
namespace Rows

/-- THE TIED CARD OF 'laws.FnExprAgain'. -/
def fnExprAgainCard : Claim7 := { stood := { row := fnExprAgainRow, standIns := [], harness := (true, "1841ad23a7aeead5fda796987d640d41234051bc61676f2b0e520ad89c73d433"), looks := true }, kinds := [], alts := [], laidByText := true, laidKinds := [.data, .data, .data, .data, .pinned], laidTests := true, laidLooks := .later }
def FnExprAgainCardSaid : Prop := Claim7.holds Tryz.pinned (.plain (OpenSpec.ofChange fnExprAgainSpec)) fnExprAgainCard

/-- THE TIED CARD OF 'laws.FnExactParseExpr'. -/
def fnExactParseExprCard : Claim7 := { stood := { row := fnExactParseExprRow, standIns := [], harness := (true, "1841ad23a7aeead5fda796987d640d41234051bc61676f2b0e520ad89c73d433"), looks := true }, kinds := [], alts := [], laidByText := true, laidKinds := [.data, .data, .data, .data, .pinned], laidTests := true, laidLooks := .later }
def FnExactParseExprCardSaid : Prop := Claim7.holds Tryz.pinned (.plain (OpenSpec.ofChange fnExactParseExprSpec)) fnExactParseExprCard

/-- THE SECOND FORM's CARD OF 'laws.FnExprAgain'. -/
def fnExprAgainUptoCard : Claim7 := { stood := { row := fnExprAgainUptoRow, standIns := [], harness := (true, "1841ad23a7aeead5fda796987d640d41234051bc61676f2b0e520ad89c73d433"), looks := true }, kinds := [], alts := [], laidByText := true, laidKinds := [.data, .data, .data, .data, .pinned], laidTests := true, laidLooks := .later }
def FnExprAgainUptoCardSaid : Prop := Claim7.holds Tryz.pinned (.plain (OpenSpec.upto fnExprAgainSpec)) fnExprAgainUptoCard

/-- THE SECOND FORM's CARD OF 'laws.FnExactParseExpr'. -/
def fnExactParseExprUptoCard : Claim7 := { stood := { row := fnExactParseExprUptoRow, standIns := [], harness := (true, "1841ad23a7aeead5fda796987d640d41234051bc61676f2b0e520ad89c73d433"), looks := true }, kinds := [], alts := [], laidByText := true, laidKinds := [.data, .data, .data, .data, .pinned], laidTests := true, laidLooks := .later }
def FnExactParseExprUptoCardSaid : Prop := Claim7.holds Tryz.pinned (.plain (OpenSpec.upto fnExactParseExprSpec)) fnExactParseExprUptoCard
end Rows
end Go.Proofs.YtlngplohnknhjaaGreatDoor
