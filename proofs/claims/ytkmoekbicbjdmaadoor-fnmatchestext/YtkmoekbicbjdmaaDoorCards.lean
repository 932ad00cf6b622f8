/-
  DERIVED. GIVEN WITH THE SEED: THE CARDS: each row of YtkmoekbicbjdmaaDoorRows.lean that lists a variable, with what it lists TIED to the program's text (the seventh form; the later family's looks); each row that meets fmt, with fmt's text TOLD by the authors' own Lean function (tested against real Go, not proved from fmt's source: count such statements apart). THE CARD IS WHAT COUNTS. Prove the row's statement (the work); the ties are given (YtkmoekbicbjdmaaDoorTie.lean); close each card by the builder's one call (the guide's Derived/Test/ToyasCard.lean, 'card_holds'). Laid BY PROGRAM, IN A SANDBOX (cutbox-door.mjs). By AI agents, Wed Nov 11 2026. No macro, syntax, notation, axiom, sorry.
-/
import Derived.Test.YtkmoekbicbjdmaaDoorRows
import GoSem.ClaimSeven
namespace Go.Proofs.YtkmoekbicbjdmaaDoor
namespace Rows

/-- THE TIED CARD OF 'laws.FnLabelsText'. -/
def fnLabelsTextCard : Claim7 := { stood := { row := fnLabelsTextRow, standIns := [], harness := (true, "dabbb8bbb0c36554fd8dcd2618ffdbec44a0ea012c25e649c83d9cb08f8738e9"), looks := true }, kinds := [], alts := [], laidByText := true, laidKinds := [.data, .pinned], laidTests := true, laidLooks := .later }
def FnLabelsTextCardSaid : Prop := Claim7.holds Tryd.pinned (.plain (OpenSpec.ofChange fnLabelsTextSpec)) fnLabelsTextCard

/-- THE TIED CARD OF 'laws.FnMatchesText'. -/
def fnMatchesTextCard : Claim7 := { stood := { row := fnMatchesTextRow, standIns := [], harness := (true, "dabbb8bbb0c36554fd8dcd2618ffdbec44a0ea012c25e649c83d9cb08f8738e9"), looks := true }, kinds := [], alts := [], laidByText := true, laidKinds := [.data, .pinned], laidTests := true, laidLooks := .later }
def FnMatchesTextCardSaid : Prop := Claim7.holds Tryd.pinned (.plain (OpenSpec.ofChange fnMatchesTextSpec)) fnMatchesTextCard

/-- THE TIED CARD OF 'laws.FnExactLabelsGet'. -/
def fnExactLabelsGetCard : Claim7 := { stood := { row := fnExactLabelsGetRow, standIns := [], harness := (true, "dabbb8bbb0c36554fd8dcd2618ffdbec44a0ea012c25e649c83d9cb08f8738e9"), looks := true }, kinds := [], alts := [], laidByText := true, laidKinds := [.data, .pinned], laidTests := true, laidLooks := .later }
def FnExactLabelsGetCardSaid : Prop := Claim7.holds Tryd.pinned (.plain (OpenSpec.ofChange fnExactLabelsGetSpec)) fnExactLabelsGetCard

/-- THE TIED CARD OF 'laws.FnExactMatchesGet'. -/
def fnExactMatchesGetCard : Claim7 := { stood := { row := fnExactMatchesGetRow, standIns := [], harness := (true, "dabbb8bbb0c36554fd8dcd2618ffdbec44a0ea012c25e649c83d9cb08f8738e9"), looks := true }, kinds := [], alts := [], laidByText := true, laidKinds := [.data, .pinned], laidTests := true, laidLooks := .later }
def FnExactMatchesGetCardSaid : Prop := Claim7.holds Tryd.pinned (.plain (OpenSpec.ofChange fnExactMatchesGetSpec)) fnExactMatchesGetCard

/-- THE SECOND FORM's CARD OF 'laws.FnLabelsText'. -/
def fnLabelsTextUptoCard : Claim7 := { stood := { row := fnLabelsTextUptoRow, standIns := [], harness := (true, "dabbb8bbb0c36554fd8dcd2618ffdbec44a0ea012c25e649c83d9cb08f8738e9"), looks := true }, kinds := [], alts := [], laidByText := true, laidKinds := [.data, .pinned], laidTests := true, laidLooks := .later }
def FnLabelsTextUptoCardSaid : Prop := Claim7.holds Tryd.pinned (.plain (OpenSpec.upto fnLabelsTextSpec)) fnLabelsTextUptoCard

/-- THE SECOND FORM's CARD OF 'laws.FnMatchesText'. -/
def fnMatchesTextUptoCard : Claim7 := { stood := { row := fnMatchesTextUptoRow, standIns := [], harness := (true, "dabbb8bbb0c36554fd8dcd2618ffdbec44a0ea012c25e649c83d9cb08f8738e9"), looks := true }, kinds := [], alts := [], laidByText := true, laidKinds := [.data, .pinned], laidTests := true, laidLooks := .later }
def FnMatchesTextUptoCardSaid : Prop := Claim7.holds Tryd.pinned (.plain (OpenSpec.upto fnMatchesTextSpec)) fnMatchesTextUptoCard

/-- THE SECOND FORM's CARD OF 'laws.FnExactLabelsGet'. -/
def fnExactLabelsGetUptoCard : Claim7 := { stood := { row := fnExactLabelsGetUptoRow, standIns := [], harness := (true, "dabbb8bbb0c36554fd8dcd2618ffdbec44a0ea012c25e649c83d9cb08f8738e9"), looks := true }, kinds := [], alts := [], laidByText := true, laidKinds := [.data, .pinned], laidTests := true, laidLooks := .later }
def FnExactLabelsGetUptoCardSaid : Prop := Claim7.holds Tryd.pinned (.plain (OpenSpec.upto fnExactLabelsGetSpec)) fnExactLabelsGetUptoCard

/-- THE SECOND FORM's CARD OF 'laws.FnExactMatchesGet'. -/
def fnExactMatchesGetUptoCard : Claim7 := { stood := { row := fnExactMatchesGetUptoRow, standIns := [], harness := (true, "dabbb8bbb0c36554fd8dcd2618ffdbec44a0ea012c25e649c83d9cb08f8738e9"), looks := true }, kinds := [], alts := [], laidByText := true, laidKinds := [.data, .pinned], laidTests := true, laidLooks := .later }
def FnExactMatchesGetUptoCardSaid : Prop := Claim7.holds Tryd.pinned (.plain (OpenSpec.upto fnExactMatchesGetSpec)) fnExactMatchesGetUptoCard
end Rows
end Go.Proofs.YtkmoekbicbjdmaaDoor
