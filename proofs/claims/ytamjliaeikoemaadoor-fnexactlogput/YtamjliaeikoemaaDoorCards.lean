/-
  DERIVED. GIVEN WITH THE SEED: THE CARDS: each row of YtamjliaeikoemaaDoorRows.lean that lists a variable, with what it lists TIED to the program's text (the seventh form; the later family's looks); each row that meets fmt, with fmt's text TOLD by the authors' own Lean function (tested against real Go, not proved from fmt's source: count such statements apart). THE CARD IS WHAT COUNTS. Prove the row's statement (the work); the ties are given (YtamjliaeikoemaaDoorTie.lean); close each card by the builder's one call (the guide's Derived/Test/ToyasCard.lean, 'card_holds'). Laid BY PROGRAM, IN A SANDBOX (cutbox-door.mjs). By AI agents, Wed Nov 11 2026. No macro, syntax, notation, axiom, sorry.
-/
import Derived.Test.YtamjliaeikoemaaDoorRows
import GoSem.ClaimSeven
namespace Go.Proofs.YtamjliaeikoemaaDoor
namespace Rows

/-- THE TIED CARD OF 'laws.FnExactRecPut'. -/
def fnExactRecPutCard : Claim7 := { stood := { row := fnExactRecPutRow, standIns := [], harness := (true, "e3502a6c0784d07b36a76d51eaf4d6dd660344a11e3de6c9c578e5a5b123a8eb"), looks := true }, kinds := [], alts := [], laidByText := true, laidKinds := [.data, .data, .data], laidTests := true, laidLooks := .later }
def FnExactRecPutCardSaid : Prop := Claim7.holds Tryd.pinned (.plain (OpenSpec.ofChange fnExactRecPutSpec)) fnExactRecPutCard

/-- THE TIED CARD OF 'laws.FnExactLogPut'. -/
def fnExactLogPutCard : Claim7 := { stood := { row := fnExactLogPutRow, standIns := [], harness := (true, "e3502a6c0784d07b36a76d51eaf4d6dd660344a11e3de6c9c578e5a5b123a8eb"), looks := true }, kinds := [], alts := [], laidByText := true, laidKinds := [.data, .data, .data], laidTests := true, laidLooks := .later }
def FnExactLogPutCardSaid : Prop := Claim7.holds Tryd.pinned (.plain (OpenSpec.ofChange fnExactLogPutSpec)) fnExactLogPutCard

/-- THE SECOND FORM's CARD OF 'laws.FnExactRecPut'. -/
def fnExactRecPutUptoCard : Claim7 := { stood := { row := fnExactRecPutUptoRow, standIns := [], harness := (true, "e3502a6c0784d07b36a76d51eaf4d6dd660344a11e3de6c9c578e5a5b123a8eb"), looks := true }, kinds := [], alts := [], laidByText := true, laidKinds := [.data, .data, .data], laidTests := true, laidLooks := .later }
def FnExactRecPutUptoCardSaid : Prop := Claim7.holds Tryd.pinned (.plain (OpenSpec.upto fnExactRecPutSpec)) fnExactRecPutUptoCard

/-- THE SECOND FORM's CARD OF 'laws.FnExactLogPut'. -/
def fnExactLogPutUptoCard : Claim7 := { stood := { row := fnExactLogPutUptoRow, standIns := [], harness := (true, "e3502a6c0784d07b36a76d51eaf4d6dd660344a11e3de6c9c578e5a5b123a8eb"), looks := true }, kinds := [], alts := [], laidByText := true, laidKinds := [.data, .data, .data], laidTests := true, laidLooks := .later }
def FnExactLogPutUptoCardSaid : Prop := Claim7.holds Tryd.pinned (.plain (OpenSpec.upto fnExactLogPutSpec)) fnExactLogPutUptoCard
end Rows
end Go.Proofs.YtamjliaeikoemaaDoor
