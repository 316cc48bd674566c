/-
  DERIVED. GIVEN WITH THE SEED: THE CARDS: each row of YtgfeahammmfdaaaDoorRows.lean that lists a variable, with what it lists TIED to the program's text (the seventh form; the later family's looks); each row that meets fmt, with fmt's text TOLD by the authors' own Lean function (tested against real Go, not proved from fmt's source: count such statements apart). THE CARD IS WHAT COUNTS. Prove the row's statement (the work); the ties are given (YtgfeahammmfdaaaDoorTie.lean); close each card by the builder's one call (the guide's Derived/Test/ToyasCard.lean, 'card_holds'). Laid BY PROGRAM, IN A SANDBOX (cutbox-door.mjs). By AI agents, Wed Nov 11 2026. No macro, syntax, notation, axiom, sorry.
-/
import Derived.Test.YtgfeahammmfdaaaDoorRows
import GoSem.ClaimSeven
namespace Go.Proofs.YtgfeahammmfdaaaDoor
namespace Rows

/-- THE TIED CARD OF 'laws.FnNumbers'. -/
def fnNumbersCard : Claim7 := { stood := { row := fnNumbersRow, standIns := [], harness := (true, "c38478a99c5c5f27c9fd73679c7d1d46bba0f75beb2769c15a20768e12ab14dc"), looks := false }, kinds := [], alts := [], laidByText := true, laidKinds := [.data, .data, .data], laidTests := true, laidLooks := .later }
def FnNumbersCardSaid : Prop := Claim7.holds Tryd.pinned (.plain (OpenSpec.ofChange fnNumbersSpec)) fnNumbersCard

/-- THE TIED CARD OF 'laws.FnWholeTexts'. -/
def fnWholeTextsCard : Claim7 := { stood := { row := fnWholeTextsRow, standIns := [], harness := (true, "c38478a99c5c5f27c9fd73679c7d1d46bba0f75beb2769c15a20768e12ab14dc"), looks := false }, kinds := [], alts := [], laidByText := true, laidKinds := [.data, .data, .data], laidTests := true, laidLooks := .later }
def FnWholeTextsCardSaid : Prop := Claim7.holds Tryd.pinned (.plain (OpenSpec.ofChange fnWholeTextsSpec)) fnWholeTextsCard

/-- THE TIED CARD OF 'laws.FnHexText'. -/
def fnHexTextCard : Claim7 := { stood := { row := fnHexTextRow, standIns := [], harness := (true, "c38478a99c5c5f27c9fd73679c7d1d46bba0f75beb2769c15a20768e12ab14dc"), looks := false }, kinds := [], alts := [], laidByText := true, laidKinds := [.data, .data, .data], laidTests := true, laidLooks := .later }
def FnHexTextCardSaid : Prop := Claim7.holds Tryd.pinned (.plain (OpenSpec.ofChange fnHexTextSpec)) fnHexTextCard

/-- THE TIED CARD OF 'laws.FnExactSplitFields'. -/
def fnExactSplitFieldsCard : Claim7 := { stood := { row := fnExactSplitFieldsRow, standIns := [], harness := (true, "c38478a99c5c5f27c9fd73679c7d1d46bba0f75beb2769c15a20768e12ab14dc"), looks := false }, kinds := [], alts := [], laidByText := true, laidKinds := [.listed, .data], laidTests := true, laidLooks := .later }
def FnExactSplitFieldsCardSaid : Prop := Claim7.holds Tryd.pinned (.plain (OpenSpec.ofChange fnExactSplitFieldsSpec)) fnExactSplitFieldsCard

/-- THE TIED CARD OF 'laws.FnFieldsAgain'. -/
def fnFieldsAgainCard : Claim7 := { stood := { row := fnFieldsAgainRow, standIns := [], harness := (true, "c38478a99c5c5f27c9fd73679c7d1d46bba0f75beb2769c15a20768e12ab14dc"), looks := false }, kinds := [], alts := [], laidByText := true, laidKinds := [.data, .data, .data, .listed, .data], laidTests := true, laidLooks := .later }
def FnFieldsAgainCardSaid : Prop := Claim7.holds Tryd.pinned (.plain (OpenSpec.ofChange fnFieldsAgainSpec)) fnFieldsAgainCard

/-- THE TIED CARD OF 'laws.FnExactFormatSingle'. -/
def fnExactFormatSingleCard : Claim7 := { stood := { row := fnExactFormatSingleRow, standIns := [], harness := (true, "c38478a99c5c5f27c9fd73679c7d1d46bba0f75beb2769c15a20768e12ab14dc"), looks := false }, kinds := [], alts := [], laidByText := true, laidKinds := [.data, .data, .data], laidTests := true, laidLooks := .later }
def FnExactFormatSingleCardSaid : Prop := Claim7.holds Tryd.pinned (.plain (OpenSpec.ofChange fnExactFormatSingleSpec)) fnExactFormatSingleCard

/-- THE TIED CARD OF 'laws.FnExactParseSingle'. -/
def fnExactParseSingleCard : Claim7 := { stood := { row := fnExactParseSingleRow, standIns := [], harness := (true, "c38478a99c5c5f27c9fd73679c7d1d46bba0f75beb2769c15a20768e12ab14dc"), looks := false }, kinds := [], alts := [], laidByText := true, laidKinds := [.data, .data, .data], laidTests := true, laidLooks := .later }
def FnExactParseSingleCardSaid : Prop := Claim7.holds Tryd.pinned (.plain (OpenSpec.ofChange fnExactParseSingleSpec)) fnExactParseSingleCard

/-- THE TIED CARD OF 'laws.FnSingleAgain'. -/
def fnSingleAgainCard : Claim7 := { stood := { row := fnSingleAgainRow, standIns := [], harness := (true, "c38478a99c5c5f27c9fd73679c7d1d46bba0f75beb2769c15a20768e12ab14dc"), looks := false }, kinds := [], alts := [], laidByText := true, laidKinds := [.data, .data, .data], laidTests := true, laidLooks := .later }
def FnSingleAgainCardSaid : Prop := Claim7.holds Tryd.pinned (.plain (OpenSpec.ofChange fnSingleAgainSpec)) fnSingleAgainCard

/-- THE SECOND FORM's CARD OF 'laws.FnNumbers'. -/
def fnNumbersUptoCard : Claim7 := { stood := { row := fnNumbersUptoRow, standIns := [], harness := (true, "c38478a99c5c5f27c9fd73679c7d1d46bba0f75beb2769c15a20768e12ab14dc"), looks := false }, kinds := [], alts := [], laidByText := true, laidKinds := [.data, .data, .data], laidTests := true, laidLooks := .later }
def FnNumbersUptoCardSaid : Prop := Claim7.holds Tryd.pinned (.plain (OpenSpec.upto fnNumbersSpec)) fnNumbersUptoCard

/-- THE SECOND FORM's CARD OF 'laws.FnWholeTexts'. -/
def fnWholeTextsUptoCard : Claim7 := { stood := { row := fnWholeTextsUptoRow, standIns := [], harness := (true, "c38478a99c5c5f27c9fd73679c7d1d46bba0f75beb2769c15a20768e12ab14dc"), looks := false }, kinds := [], alts := [], laidByText := true, laidKinds := [.data, .data, .data], laidTests := true, laidLooks := .later }
def FnWholeTextsUptoCardSaid : Prop := Claim7.holds Tryd.pinned (.plain (OpenSpec.upto fnWholeTextsSpec)) fnWholeTextsUptoCard

/-- THE SECOND FORM's CARD OF 'laws.FnHexText'. -/
def fnHexTextUptoCard : Claim7 := { stood := { row := fnHexTextUptoRow, standIns := [], harness := (true, "c38478a99c5c5f27c9fd73679c7d1d46bba0f75beb2769c15a20768e12ab14dc"), looks := false }, kinds := [], alts := [], laidByText := true, laidKinds := [.data, .data, .data], laidTests := true, laidLooks := .later }
def FnHexTextUptoCardSaid : Prop := Claim7.holds Tryd.pinned (.plain (OpenSpec.upto fnHexTextSpec)) fnHexTextUptoCard

/-- THE SECOND FORM's CARD OF 'laws.FnExactSplitFields'. -/
def fnExactSplitFieldsUptoCard : Claim7 := { stood := { row := fnExactSplitFieldsUptoRow, standIns := [], harness := (true, "c38478a99c5c5f27c9fd73679c7d1d46bba0f75beb2769c15a20768e12ab14dc"), looks := false }, kinds := [], alts := [], laidByText := true, laidKinds := [.listed, .data], laidTests := true, laidLooks := .later }
def FnExactSplitFieldsUptoCardSaid : Prop := Claim7.holds Tryd.pinned (.plain (OpenSpec.upto fnExactSplitFieldsSpec)) fnExactSplitFieldsUptoCard

/-- THE SECOND FORM's CARD OF 'laws.FnFieldsAgain'. -/
def fnFieldsAgainUptoCard : Claim7 := { stood := { row := fnFieldsAgainUptoRow, standIns := [], harness := (true, "c38478a99c5c5f27c9fd73679c7d1d46bba0f75beb2769c15a20768e12ab14dc"), looks := false }, kinds := [], alts := [], laidByText := true, laidKinds := [.data, .data, .data, .listed, .data], laidTests := true, laidLooks := .later }
def FnFieldsAgainUptoCardSaid : Prop := Claim7.holds Tryd.pinned (.plain (OpenSpec.upto fnFieldsAgainSpec)) fnFieldsAgainUptoCard

/-- THE SECOND FORM's CARD OF 'laws.FnExactFormatSingle'. -/
def fnExactFormatSingleUptoCard : Claim7 := { stood := { row := fnExactFormatSingleUptoRow, standIns := [], harness := (true, "c38478a99c5c5f27c9fd73679c7d1d46bba0f75beb2769c15a20768e12ab14dc"), looks := false }, kinds := [], alts := [], laidByText := true, laidKinds := [.data, .data, .data], laidTests := true, laidLooks := .later }
def FnExactFormatSingleUptoCardSaid : Prop := Claim7.holds Tryd.pinned (.plain (OpenSpec.upto fnExactFormatSingleSpec)) fnExactFormatSingleUptoCard

/-- THE SECOND FORM's CARD OF 'laws.FnExactParseSingle'. -/
def fnExactParseSingleUptoCard : Claim7 := { stood := { row := fnExactParseSingleUptoRow, standIns := [], harness := (true, "c38478a99c5c5f27c9fd73679c7d1d46bba0f75beb2769c15a20768e12ab14dc"), looks := false }, kinds := [], alts := [], laidByText := true, laidKinds := [.data, .data, .data], laidTests := true, laidLooks := .later }
def FnExactParseSingleUptoCardSaid : Prop := Claim7.holds Tryd.pinned (.plain (OpenSpec.upto fnExactParseSingleSpec)) fnExactParseSingleUptoCard

/-- THE SECOND FORM's CARD OF 'laws.FnSingleAgain'. -/
def fnSingleAgainUptoCard : Claim7 := { stood := { row := fnSingleAgainUptoRow, standIns := [], harness := (true, "c38478a99c5c5f27c9fd73679c7d1d46bba0f75beb2769c15a20768e12ab14dc"), looks := false }, kinds := [], alts := [], laidByText := true, laidKinds := [.data, .data, .data], laidTests := true, laidLooks := .later }
def FnSingleAgainUptoCardSaid : Prop := Claim7.holds Tryd.pinned (.plain (OpenSpec.upto fnSingleAgainSpec)) fnSingleAgainUptoCard
end Rows
end Go.Proofs.YtgfeahammmfdaaaDoor
