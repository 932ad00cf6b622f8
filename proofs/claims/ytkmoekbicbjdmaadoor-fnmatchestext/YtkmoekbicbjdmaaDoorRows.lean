/-
  NARROWER THAN 'FOR EVERY INPUT', by the rows' own cells (each row's printed sentence says how): FnLabelsText: laid · FnMatchesText: laid · FnExactLabelsGet: laid · FnExactMatchesGet: laid.
  DERIVED. THE GIVEN ROWS OF THIS SEAT. 4 by the template 'for every input the law returns true; each argument reads behind the call as it read before'; 0 by the template 'total and deterministic' (their statements: YtkmoekbicbjdmaaDoorTotals.lean).
  GIVEN WITH THE SEED: the statements are not yours to turn. If you find one false, say at which input.
  Laid BY PROGRAM, IN A SANDBOX (cutbox-rows.mjs): the forced cells as the released guide's own fill.sh prints them over the translation 1b7318eefa77d3dd… (all of the seat's roots in one cut). By AI agents, Wed Nov 11 2026. No macro, syntax, notation, axiom, sorry.
-/
import Derived.Test.YtkmoekbicbjdmaaDoorChecked
import GoSem.PinnedTables
import GoSem.Claim
import GoSem.ClaimJoined
import GoSem.ClaimMapViews
import Derived.JoinedTies
import Derived.KernelRfl
namespace Go.Proofs.YtkmoekbicbjdmaaDoor
/- THE CELL 'sum', in the pinned program and in every row, IS THE sha256 OF THE DUMP (.gsa) THAT YtkmoekbicbjdmaaDoorProg.lean LOADS. Nothing in Lean hashes anything: it is a label: what it is worth is what the hold of that sum in a sandbox is worth. -/
noncomputable def Tryd.pinned : Pinned := { name := "ytkmoekbicbjdmaadoor", sum := "1b7318eefa77d3ddded46a420e16c68919e1aaf7958332452092d9ce0f0b5a3c", checked := Tryd.checked }
namespace Rows
def none {H : Type} : Left H := { results := [], args := [] }

/- WHAT THE LISTED PACKAGE-LEVEL VARIABLES READ AS WHEN THE CALL BEGINS. Each datum BY PROGRAM (the guide's laid-datum.mjs) off the statement by which the dump's own 'gosem.cut.vars' lays the variable. In a bare row this is a premise. The card (YtkmoekbicbjdmaaDoorCards.lean) ties it to the program's text. -/
def laid_unicode_utf8_acceptRanges {H : Type} : DataW H := .agg [.agg [.lit (.int .u8 128), .lit (.int .u8 191)], .agg [.lit (.int .u8 160), .lit (.int .u8 191)], .agg [.lit (.int .u8 128), .lit (.int .u8 159)], .agg [.lit (.int .u8 144), .lit (.int .u8 191)], .agg [.lit (.int .u8 128), .lit (.int .u8 143)], .agg [.lit (.int .u8 0), .lit (.int .u8 0)], .agg [.lit (.int .u8 0), .lit (.int .u8 0)], .agg [.lit (.int .u8 0), .lit (.int .u8 0)], .agg [.lit (.int .u8 0), .lit (.int .u8 0)], .agg [.lit (.int .u8 0), .lit (.int .u8 0)], .agg [.lit (.int .u8 0), .lit (.int .u8 0)], .agg [.lit (.int .u8 0), .lit (.int .u8 0)], .agg [.lit (.int .u8 0), .lit (.int .u8 0)], .agg [.lit (.int .u8 0), .lit (.int .u8 0)], .agg [.lit (.int .u8 0), .lit (.int .u8 0)], .agg [.lit (.int .u8 0), .lit (.int .u8 0)]]
/-- One of Go's own tables, pinned by name: the form's constant. -/
def laid_unicode_utf8_first : DataW Unit := Go.Pinned.utf8First

/-- 'laws.FnLabelsText': WHATEVER THE INPUT: true; the input reads as it did. -/
def fnLabelsTextSpec : ChangeSpec := { name := "fnLabelsText", fn := fun _ => fun
  | [d1, d2] => { results := [.lit (.bool true)], args := [d1, d2] }
  | _ => none }
def fnLabelsTextRow : OpenClaim := { program := "ytkmoekbicbjdmaadoor", sum := "1b7318eefa77d3ddded46a420e16c68919e1aaf7958332452092d9ce0f0b5a3c", func := "loop.example/almanack/laws.FnLabelsText", spec := "fnLabelsText", inPlace := ["internal/abi.NoEscape", "internal/bytealg.MakeNoZero", "internal/bytealg.CountString", "internal/bytealg.IndexByteString", "internal/bytealg.IndexString"], unfollowed := true, recurses := true, named := ["unicode/utf8.first", "unicode/utf8.acceptRanges", "internal/bytealg.MaxLen"], apart := false, laid := [("unicode/utf8.acceptRanges", laid_unicode_utf8_acceptRanges), ("unicode/utf8.first", laid_unicode_utf8_first)] }
def FnLabelsTextSaid : Prop := fnLabelsTextRow.holds Tryd.pinned (OpenSpec.ofChange fnLabelsTextSpec)

/-- ITS FALSE NEIGHBOUR: 'it returns false'. Refute it at one input. -/
def fnLabelsTextWrong : ChangeSpec := { name := "fnLabelsText", fn := fun _ => fun
  | [d1, d2] => { results := [.lit (.bool false)], args := [d1, d2] }
  | _ => none }
def FnLabelsTextWrongFalsely : Prop := fnLabelsTextRow.holds Tryd.pinned (OpenSpec.ofChange fnLabelsTextWrong)

/-- 'laws.FnMatchesText': WHATEVER THE INPUT: true; the input reads as it did. -/
def fnMatchesTextSpec : ChangeSpec := { name := "fnMatchesText", fn := fun _ => fun
  | [d1, d2] => { results := [.lit (.bool true)], args := [d1, d2] }
  | _ => none }
def fnMatchesTextRow : OpenClaim := { program := "ytkmoekbicbjdmaadoor", sum := "1b7318eefa77d3ddded46a420e16c68919e1aaf7958332452092d9ce0f0b5a3c", func := "loop.example/almanack/laws.FnMatchesText", spec := "fnMatchesText", inPlace := ["internal/abi.NoEscape", "internal/bytealg.MakeNoZero", "internal/bytealg.CountString", "internal/bytealg.IndexByteString", "internal/bytealg.IndexString"], unfollowed := true, recurses := true, named := ["unicode/utf8.first", "unicode/utf8.acceptRanges", "internal/bytealg.MaxLen"], apart := false, laid := [("unicode/utf8.acceptRanges", laid_unicode_utf8_acceptRanges), ("unicode/utf8.first", laid_unicode_utf8_first)] }
def FnMatchesTextSaid : Prop := fnMatchesTextRow.holds Tryd.pinned (OpenSpec.ofChange fnMatchesTextSpec)

/-- ITS FALSE NEIGHBOUR: 'it returns false'. Refute it at one input. -/
def fnMatchesTextWrong : ChangeSpec := { name := "fnMatchesText", fn := fun _ => fun
  | [d1, d2] => { results := [.lit (.bool false)], args := [d1, d2] }
  | _ => none }
def FnMatchesTextWrongFalsely : Prop := fnMatchesTextRow.holds Tryd.pinned (OpenSpec.ofChange fnMatchesTextWrong)

/-- 'laws.FnExactLabelsGet': WHATEVER THE INPUT: true; the input reads as it did. -/
def fnExactLabelsGetSpec : ChangeSpec := { name := "fnExactLabelsGet", fn := fun _ => fun
  | [d] => { results := [.lit (.bool true)], args := [d] }
  | _ => none }
def fnExactLabelsGetRow : OpenClaim := { program := "ytkmoekbicbjdmaadoor", sum := "1b7318eefa77d3ddded46a420e16c68919e1aaf7958332452092d9ce0f0b5a3c", func := "loop.example/almanack/laws.FnExactLabelsGet", spec := "fnExactLabelsGet", inPlace := ["internal/bytealg.CountString", "internal/bytealg.IndexByteString", "internal/bytealg.IndexString", "internal/abi.NoEscape", "internal/bytealg.MakeNoZero"], unfollowed := true, recurses := true, named := ["unicode/utf8.first", "unicode/utf8.acceptRanges", "internal/bytealg.MaxLen"], apart := false, laid := [("unicode/utf8.acceptRanges", laid_unicode_utf8_acceptRanges), ("unicode/utf8.first", laid_unicode_utf8_first)] }
def FnExactLabelsGetSaid : Prop := fnExactLabelsGetRow.holds Tryd.pinned (OpenSpec.ofChange fnExactLabelsGetSpec)

/-- ITS FALSE NEIGHBOUR: 'it returns false'. Refute it at one input. -/
def fnExactLabelsGetWrong : ChangeSpec := { name := "fnExactLabelsGet", fn := fun _ => fun
  | [d] => { results := [.lit (.bool false)], args := [d] }
  | _ => none }
def FnExactLabelsGetWrongFalsely : Prop := fnExactLabelsGetRow.holds Tryd.pinned (OpenSpec.ofChange fnExactLabelsGetWrong)

/-- 'laws.FnExactMatchesGet': WHATEVER THE INPUT: true; the input reads as it did. -/
def fnExactMatchesGetSpec : ChangeSpec := { name := "fnExactMatchesGet", fn := fun _ => fun
  | [d] => { results := [.lit (.bool true)], args := [d] }
  | _ => none }
def fnExactMatchesGetRow : OpenClaim := { program := "ytkmoekbicbjdmaadoor", sum := "1b7318eefa77d3ddded46a420e16c68919e1aaf7958332452092d9ce0f0b5a3c", func := "loop.example/almanack/laws.FnExactMatchesGet", spec := "fnExactMatchesGet", inPlace := ["internal/bytealg.CountString", "internal/bytealg.IndexByteString", "internal/bytealg.IndexString", "internal/abi.NoEscape", "internal/bytealg.MakeNoZero"], unfollowed := true, recurses := true, named := ["unicode/utf8.first", "unicode/utf8.acceptRanges", "internal/bytealg.MaxLen"], apart := false, laid := [("unicode/utf8.acceptRanges", laid_unicode_utf8_acceptRanges), ("unicode/utf8.first", laid_unicode_utf8_first)] }
def FnExactMatchesGetSaid : Prop := fnExactMatchesGetRow.holds Tryd.pinned (OpenSpec.ofChange fnExactMatchesGetSpec)

/-- ITS FALSE NEIGHBOUR: 'it returns false'. Refute it at one input. -/
def fnExactMatchesGetWrong : ChangeSpec := { name := "fnExactMatchesGet", fn := fun _ => fun
  | [d] => { results := [.lit (.bool false)], args := [d] }
  | _ => none }
def FnExactMatchesGetWrongFalsely : Prop := fnExactMatchesGetRow.holds Tryd.pinned (OpenSpec.ofChange fnExactMatchesGetWrong)

/- THE SECOND FORM. 'bulk': how many values and letters a reading holds, each counted each time it is reached (what is shared counts as often as it is met; a slice's spare places count too). A statement '..UptoSaid' is the law's where the arguments, and the package variables that the reading takes, are together of bulk at most 1048576: NARROWER than '..Said'. Prove '..Said' where nothing that the law and all that it calls make is longer than what came in: it says more and counts as full. Else prove '..UptoSaid'. A law counts once. -/
mutual
def uptoBulk {H : Type} : DataW H → Nat
  | .lit (.string bytes) => bytes.length + 1
  | .lit _ => 1
  | .nil => 1
  | .ptr d => uptoBulk d + 1
  | .slice elems spare => uptoBulkAll elems + uptoBulkAll spare + 1
  | .agg parts => uptoBulkAll parts + 1
  | .iface _ d => uptoBulk d + 1
  | .map entries => uptoBulkEntries entries + 1
  | .held _ => 1
def uptoBulkAll {H : Type} : List (DataW H) → Nat
  | [] => 0
  | d :: r => uptoBulk d + uptoBulkAll r
def uptoBulkEntries {H : Type} : List (Lit × DataW H) → Nat
  | [] => 0
  | x :: r => uptoBulkEntry x + uptoBulkEntries r
def uptoBulkEntry {H : Type} : Lit × DataW H → Nat
  | (.string bytes, d) => bytes.length + uptoBulk d + 1
  | (_, d) => uptoBulk d + 1
 end
def uptoSmall : (H : Type) → List (DataW H) → Bool := fun _ ds => decide (uptoBulkAll ds ≤ 1048576)
def OpenSpec.upto (s : _root_.Go.ChangeSpec) : _root_.Go.OpenSpec := { _root_.Go.OpenSpec.ofChange s with cond := some uptoSmall }

/-- 'laws.FnLabelsText', WHERE WHAT IT READS IS OF BULK AT MOST 1048576: true; the input reads as it did. -/
def fnLabelsTextUptoRow : OpenClaim := { program := "ytkmoekbicbjdmaadoor", sum := "1b7318eefa77d3ddded46a420e16c68919e1aaf7958332452092d9ce0f0b5a3c", func := "loop.example/almanack/laws.FnLabelsText", spec := "fnLabelsText", inPlace := ["internal/abi.NoEscape", "internal/bytealg.MakeNoZero", "internal/bytealg.CountString", "internal/bytealg.IndexByteString", "internal/bytealg.IndexString"], unfollowed := true, recurses := true, named := ["unicode/utf8.first", "unicode/utf8.acceptRanges", "internal/bytealg.MaxLen"], apart := false, laid := [("unicode/utf8.acceptRanges", laid_unicode_utf8_acceptRanges), ("unicode/utf8.first", laid_unicode_utf8_first)], narrowed := true }
def FnLabelsTextUptoSaid : Prop := fnLabelsTextUptoRow.holds Tryd.pinned (OpenSpec.upto fnLabelsTextSpec)

/-- 'laws.FnMatchesText', WHERE WHAT IT READS IS OF BULK AT MOST 1048576: true; the input reads as it did. -/
def fnMatchesTextUptoRow : OpenClaim := { program := "ytkmoekbicbjdmaadoor", sum := "1b7318eefa77d3ddded46a420e16c68919e1aaf7958332452092d9ce0f0b5a3c", func := "loop.example/almanack/laws.FnMatchesText", spec := "fnMatchesText", inPlace := ["internal/abi.NoEscape", "internal/bytealg.MakeNoZero", "internal/bytealg.CountString", "internal/bytealg.IndexByteString", "internal/bytealg.IndexString"], unfollowed := true, recurses := true, named := ["unicode/utf8.first", "unicode/utf8.acceptRanges", "internal/bytealg.MaxLen"], apart := false, laid := [("unicode/utf8.acceptRanges", laid_unicode_utf8_acceptRanges), ("unicode/utf8.first", laid_unicode_utf8_first)], narrowed := true }
def FnMatchesTextUptoSaid : Prop := fnMatchesTextUptoRow.holds Tryd.pinned (OpenSpec.upto fnMatchesTextSpec)

/-- 'laws.FnExactLabelsGet', WHERE WHAT IT READS IS OF BULK AT MOST 1048576: true; the input reads as it did. -/
def fnExactLabelsGetUptoRow : OpenClaim := { program := "ytkmoekbicbjdmaadoor", sum := "1b7318eefa77d3ddded46a420e16c68919e1aaf7958332452092d9ce0f0b5a3c", func := "loop.example/almanack/laws.FnExactLabelsGet", spec := "fnExactLabelsGet", inPlace := ["internal/bytealg.CountString", "internal/bytealg.IndexByteString", "internal/bytealg.IndexString", "internal/abi.NoEscape", "internal/bytealg.MakeNoZero"], unfollowed := true, recurses := true, named := ["unicode/utf8.first", "unicode/utf8.acceptRanges", "internal/bytealg.MaxLen"], apart := false, laid := [("unicode/utf8.acceptRanges", laid_unicode_utf8_acceptRanges), ("unicode/utf8.first", laid_unicode_utf8_first)], narrowed := true }
def FnExactLabelsGetUptoSaid : Prop := fnExactLabelsGetUptoRow.holds Tryd.pinned (OpenSpec.upto fnExactLabelsGetSpec)

/-- 'laws.FnExactMatchesGet', WHERE WHAT IT READS IS OF BULK AT MOST 1048576: true; the input reads as it did. -/
def fnExactMatchesGetUptoRow : OpenClaim := { program := "ytkmoekbicbjdmaadoor", sum := "1b7318eefa77d3ddded46a420e16c68919e1aaf7958332452092d9ce0f0b5a3c", func := "loop.example/almanack/laws.FnExactMatchesGet", spec := "fnExactMatchesGet", inPlace := ["internal/bytealg.CountString", "internal/bytealg.IndexByteString", "internal/bytealg.IndexString", "internal/abi.NoEscape", "internal/bytealg.MakeNoZero"], unfollowed := true, recurses := true, named := ["unicode/utf8.first", "unicode/utf8.acceptRanges", "internal/bytealg.MaxLen"], apart := false, laid := [("unicode/utf8.acceptRanges", laid_unicode_utf8_acceptRanges), ("unicode/utf8.first", laid_unicode_utf8_first)], narrowed := true }
def FnExactMatchesGetUptoSaid : Prop := fnExactMatchesGetUptoRow.holds Tryd.pinned (OpenSpec.upto fnExactMatchesGetSpec)

end Rows
end Go.Proofs.YtkmoekbicbjdmaaDoor
