/-
  DERIVED. GIVEN WITH THE SEED: THE CARDS: each row of YtpfllejfbmgbpaaDoorRows.lean that lists a variable, with what it lists TIED to the program's text (the seventh form; the later family's looks); each row that meets fmt, with fmt's text TOLD by the authors' own Lean function (tested against real Go, not proved from fmt's source: count such statements apart). THE CARD IS WHAT COUNTS. Prove the row's statement (the work); the ties are given (YtpfllejfbmgbpaaDoorTie.lean); close each card by the builder's one call (the guide's Derived/Test/ToyasCard.lean, 'card_holds'). Laid BY PROGRAM, IN A SANDBOX (cutbox-door.mjs). By AI agents, Wed Nov 11 2026. No macro, syntax, notation, axiom, sorry.
-/
import Derived.Test.YtpfllejfbmgbpaaDoorRows
import GoSem.ClaimSeven
namespace Go.Proofs.YtpfllejfbmgbpaaDoor
namespace Rows

/-- THE TIED CARD OF 'laws.FnExactBlockOk'. -/
def fnExactBlockOkCard : Claim7 := { stood := { row := fnExactBlockOkRow, standIns := [], harness := (true, "925126e5058dfd397f61f87dc2c8f08b358f5154b9033d57bd458c8d5365a151"), looks := true }, kinds := [], alts := [], laidByText := true, laidKinds := [.data], laidTests := true, laidLooks := .later }
def FnExactBlockOkCardSaid : Prop := Claim7.holds Tryd.pinned (.plain (OpenSpec.ofChange fnExactBlockOkSpec)) fnExactBlockOkCard

/-- THE TIED CARD OF 'laws.FnExactRecPut'. -/
def fnExactRecPutCard : Claim7 := { stood := { row := fnExactRecPutRow, standIns := [], harness := (true, "925126e5058dfd397f61f87dc2c8f08b358f5154b9033d57bd458c8d5365a151"), looks := true }, kinds := [], alts := [], laidByText := true, laidKinds := [.data, .data, .data], laidTests := true, laidLooks := .later }
def FnExactRecPutCardSaid : Prop := Claim7.holds Tryd.pinned (.plain (OpenSpec.ofChange fnExactRecPutSpec)) fnExactRecPutCard

/-- THE TIED CARD OF 'laws.FnExactLogPut'. -/
def fnExactLogPutCard : Claim7 := { stood := { row := fnExactLogPutRow, standIns := [], harness := (true, "925126e5058dfd397f61f87dc2c8f08b358f5154b9033d57bd458c8d5365a151"), looks := true }, kinds := [], alts := [], laidByText := true, laidKinds := [.data, .data, .data], laidTests := true, laidLooks := .later }
def FnExactLogPutCardSaid : Prop := Claim7.holds Tryd.pinned (.plain (OpenSpec.ofChange fnExactLogPutSpec)) fnExactLogPutCard

/-- THE SECOND FORM's CARD OF 'laws.FnExactBlockOk'. -/
def fnExactBlockOkUptoCard : Claim7 := { stood := { row := fnExactBlockOkUptoRow, standIns := [], harness := (true, "925126e5058dfd397f61f87dc2c8f08b358f5154b9033d57bd458c8d5365a151"), looks := true }, kinds := [], alts := [], laidByText := true, laidKinds := [.data], laidTests := true, laidLooks := .later }
def FnExactBlockOkUptoCardSaid : Prop := Claim7.holds Tryd.pinned (.plain (OpenSpec.upto fnExactBlockOkSpec)) fnExactBlockOkUptoCard

/-- THE SECOND FORM's CARD OF 'laws.FnExactRecPut'. -/
def fnExactRecPutUptoCard : Claim7 := { stood := { row := fnExactRecPutUptoRow, standIns := [], harness := (true, "925126e5058dfd397f61f87dc2c8f08b358f5154b9033d57bd458c8d5365a151"), looks := true }, kinds := [], alts := [], laidByText := true, laidKinds := [.data, .data, .data], laidTests := true, laidLooks := .later }
def FnExactRecPutUptoCardSaid : Prop := Claim7.holds Tryd.pinned (.plain (OpenSpec.upto fnExactRecPutSpec)) fnExactRecPutUptoCard

/-- THE SECOND FORM's CARD OF 'laws.FnExactLogPut'. -/
def fnExactLogPutUptoCard : Claim7 := { stood := { row := fnExactLogPutUptoRow, standIns := [], harness := (true, "925126e5058dfd397f61f87dc2c8f08b358f5154b9033d57bd458c8d5365a151"), looks := true }, kinds := [], alts := [], laidByText := true, laidKinds := [.data, .data, .data], laidTests := true, laidLooks := .later }
def FnExactLogPutUptoCardSaid : Prop := Claim7.holds Tryd.pinned (.plain (OpenSpec.upto fnExactLogPutSpec)) fnExactLogPutUptoCard
end Rows
end Go.Proofs.YtpfllejfbmgbpaaDoor
