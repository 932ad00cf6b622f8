/-
  No cell of these rows narrows 'for every input' (looked for: loops, veiled, ifaces, maps, wideKeys, modest, calm, conditions, laid).
  DERIVED. THE GIVEN ROWS OF THIS SEAT. 4 by the template 'for every input the law returns true; each argument reads behind the call as it read before'; 0 by the template 'total and deterministic' (their statements: YtomncodkbcngmaaGreatTotals.lean).
  GIVEN WITH THE SEED: the statements are not yours to turn. If you find one false, say at which input.
  Laid BY PROGRAM, IN A SANDBOX (cutbox-rows.mjs): the forced cells as the released guide's own fill.sh prints them over the translation 0de09b6e5c840605… (all of the seat's roots in one cut). By AI agents, Wed Nov 11 2026. No macro, syntax, notation, axiom, sorry.
-/
import Derived.Test.YtomncodkbcngmaaGreatChecked
import GoSem.Claim
import GoSem.ClaimJoined
import GoSem.ClaimMapViews
import Derived.JoinedTies
import Derived.KernelRfl
namespace Go.Proofs.YtomncodkbcngmaaGreat
/- THE CELL 'sum', in the pinned program and in every row, IS THE sha256 OF THE DUMP (.gsa) THAT YtomncodkbcngmaaGreatProg.lean LOADS. Nothing in Lean hashes anything: it is a label: what it is worth is what the hold of that sum in a sandbox is worth. -/
noncomputable def Tryz.pinned : Pinned := { name := "ytomncodkbcngmaagreat", sum := "0de09b6e5c840605fd668182878bf0b18e119b395535eb928a9155608eb706b7", checked := Tryz.checked }
namespace Rows
def none {H : Type} : Left H := { results := [], args := [] }

/-- 'laws.FnExactTableAsk': WHATEVER THE INPUT: true; the input reads as it did. -/
def fnExactTableAskSpec : ChangeSpec := { name := "fnExactTableAsk", fn := fun _ => fun
  | [d1, d2, d3, d4] => { results := [.lit (.bool true)], args := [d1, d2, d3, d4] }
  | _ => none }
def fnExactTableAskRow : OpenClaim := { program := "ytomncodkbcngmaagreat", sum := "0de09b6e5c840605fd668182878bf0b18e119b395535eb928a9155608eb706b7", func := "loop.example/almanack/laws.FnExactTableAsk", spec := "fnExactTableAsk", inPlace := ["internal/bytealg.abigen_runtime_cmpstring", "internal/abi.NoEscape", "internal/bytealg.MakeNoZero"], unfollowed := true, recurses := true, apart := false }
def FnExactTableAskSaid : Prop := fnExactTableAskRow.holds Tryz.pinned (OpenSpec.ofChange fnExactTableAskSpec)

/-- ITS FALSE NEIGHBOUR: 'it returns false'. Refute it at one input. -/
def fnExactTableAskWrong : ChangeSpec := { name := "fnExactTableAsk", fn := fun _ => fun
  | [d1, d2, d3, d4] => { results := [.lit (.bool false)], args := [d1, d2, d3, d4] }
  | _ => none }
def FnExactTableAskWrongFalsely : Prop := fnExactTableAskRow.holds Tryz.pinned (OpenSpec.ofChange fnExactTableAskWrong)

/-- 'laws.FnExactTableDrop': WHATEVER THE INPUT: true; the input reads as it did. -/
def fnExactTableDropSpec : ChangeSpec := { name := "fnExactTableDrop", fn := fun _ => fun
  | [d1, d2, d3, d4] => { results := [.lit (.bool true)], args := [d1, d2, d3, d4] }
  | _ => none }
def fnExactTableDropRow : OpenClaim := { program := "ytomncodkbcngmaagreat", sum := "0de09b6e5c840605fd668182878bf0b18e119b395535eb928a9155608eb706b7", func := "loop.example/almanack/laws.FnExactTableDrop", spec := "fnExactTableDrop", inPlace := ["internal/bytealg.abigen_runtime_cmpstring", "internal/abi.NoEscape", "internal/bytealg.MakeNoZero"], unfollowed := true, recurses := true, apart := false }
def FnExactTableDropSaid : Prop := fnExactTableDropRow.holds Tryz.pinned (OpenSpec.ofChange fnExactTableDropSpec)

/-- ITS FALSE NEIGHBOUR: 'it returns false'. Refute it at one input. -/
def fnExactTableDropWrong : ChangeSpec := { name := "fnExactTableDrop", fn := fun _ => fun
  | [d1, d2, d3, d4] => { results := [.lit (.bool false)], args := [d1, d2, d3, d4] }
  | _ => none }
def FnExactTableDropWrongFalsely : Prop := fnExactTableDropRow.holds Tryz.pinned (OpenSpec.ofChange fnExactTableDropWrong)

/-- 'laws.FnExactTableKeep': WHATEVER THE INPUT: true; the input reads as it did. -/
def fnExactTableKeepSpec : ChangeSpec := { name := "fnExactTableKeep", fn := fun _ => fun
  | [d1, d2] => { results := [.lit (.bool true)], args := [d1, d2] }
  | _ => none }
def fnExactTableKeepRow : OpenClaim := { program := "ytomncodkbcngmaagreat", sum := "0de09b6e5c840605fd668182878bf0b18e119b395535eb928a9155608eb706b7", func := "loop.example/almanack/laws.FnExactTableKeep", spec := "fnExactTableKeep", inPlace := ["internal/bytealg.abigen_runtime_cmpstring", "internal/abi.NoEscape", "internal/bytealg.MakeNoZero"], unfollowed := true, recurses := true, apart := false }
def FnExactTableKeepSaid : Prop := fnExactTableKeepRow.holds Tryz.pinned (OpenSpec.ofChange fnExactTableKeepSpec)

/-- ITS FALSE NEIGHBOUR: 'it returns false'. Refute it at one input. -/
def fnExactTableKeepWrong : ChangeSpec := { name := "fnExactTableKeep", fn := fun _ => fun
  | [d1, d2] => { results := [.lit (.bool false)], args := [d1, d2] }
  | _ => none }
def FnExactTableKeepWrongFalsely : Prop := fnExactTableKeepRow.holds Tryz.pinned (OpenSpec.ofChange fnExactTableKeepWrong)

/-- 'laws.FnExactTableAdd': WHATEVER THE INPUT: true; the input reads as it did. -/
def fnExactTableAddSpec : ChangeSpec := { name := "fnExactTableAdd", fn := fun _ => fun
  | [d1, d2] => { results := [.lit (.bool true)], args := [d1, d2] }
  | _ => none }
def fnExactTableAddRow : OpenClaim := { program := "ytomncodkbcngmaagreat", sum := "0de09b6e5c840605fd668182878bf0b18e119b395535eb928a9155608eb706b7", func := "loop.example/almanack/laws.FnExactTableAdd", spec := "fnExactTableAdd", inPlace := ["internal/bytealg.abigen_runtime_cmpstring", "internal/abi.NoEscape", "internal/bytealg.MakeNoZero"], unfollowed := true, recurses := true, apart := false }
def FnExactTableAddSaid : Prop := fnExactTableAddRow.holds Tryz.pinned (OpenSpec.ofChange fnExactTableAddSpec)

/-- ITS FALSE NEIGHBOUR: 'it returns false'. Refute it at one input. -/
def fnExactTableAddWrong : ChangeSpec := { name := "fnExactTableAdd", fn := fun _ => fun
  | [d1, d2] => { results := [.lit (.bool false)], args := [d1, d2] }
  | _ => none }
def FnExactTableAddWrongFalsely : Prop := fnExactTableAddRow.holds Tryz.pinned (OpenSpec.ofChange fnExactTableAddWrong)

/- THE SECOND FORM. 'bulk': how many values and letters a reading holds, each counted each time it is reached (what is shared counts as often as it is met; a slice's spare places count too). A statement '..UptoSaid' is the law's where the arguments, and the package variables that the reading takes, are together of bulk at most 1048576: NARROWER than '..Said'. Prove '..Said' where nothing that the law and all that it calls make is longer than what came in: it says more and counts as full. Else prove '..UptoSaid'. A law counts once. -/
mutual
def uptoBulk {H : Type} : DataW H → Nat
  | .lit (.string bytes) => bytes.length + 1
  | .lit _ => 1
  | .nil => 1
  | .ptr d => uptoBulk d + 1
  | .slice elems spare => uptoBulkAll elems + uptoBulkAll spare + 1
  | .agg parts => uptoBulkAll parts + 1
  | .iface _ d => uptoBulk d + 1
  | .map entries => uptoBulkEntries entries + 1
  | .held _ => 1
def uptoBulkAll {H : Type} : List (DataW H) → Nat
  | [] => 0
  | d :: r => uptoBulk d + uptoBulkAll r
def uptoBulkEntries {H : Type} : List (Lit × DataW H) → Nat
  | [] => 0
  | x :: r => uptoBulkEntry x + uptoBulkEntries r
def uptoBulkEntry {H : Type} : Lit × DataW H → Nat
  | (.string bytes, d) => bytes.length + uptoBulk d + 1
  | (_, d) => uptoBulk d + 1
 end
def uptoSmall : (H : Type) → List (DataW H) → Bool := fun _ ds => decide (uptoBulkAll ds ≤ 1048576)
def OpenSpec.upto (s : _root_.Go.ChangeSpec) : _root_.Go.OpenSpec := { _root_.Go.OpenSpec.ofChange s with cond := some uptoSmall }

/-- 'laws.FnExactTableAsk', WHERE WHAT IT READS IS OF BULK AT MOST 1048576: true; the input reads as it did. -/
def fnExactTableAskUptoRow : OpenClaim := { program := "ytomncodkbcngmaagreat", sum := "0de09b6e5c840605fd668182878bf0b18e119b395535eb928a9155608eb706b7", func := "loop.example/almanack/laws.FnExactTableAsk", spec := "fnExactTableAsk", inPlace := ["internal/bytealg.abigen_runtime_cmpstring", "internal/abi.NoEscape", "internal/bytealg.MakeNoZero"], unfollowed := true, recurses := true, apart := false, narrowed := true }
def FnExactTableAskUptoSaid : Prop := fnExactTableAskUptoRow.holds Tryz.pinned (OpenSpec.upto fnExactTableAskSpec)

/-- 'laws.FnExactTableDrop', WHERE WHAT IT READS IS OF BULK AT MOST 1048576: true; the input reads as it did. -/
def fnExactTableDropUptoRow : OpenClaim := { program := "ytomncodkbcngmaagreat", sum := "0de09b6e5c840605fd668182878bf0b18e119b395535eb928a9155608eb706b7", func := "loop.example/almanack/laws.FnExactTableDrop", spec := "fnExactTableDrop", inPlace := ["internal/bytealg.abigen_runtime_cmpstring", "internal/abi.NoEscape", "internal/bytealg.MakeNoZero"], unfollowed := true, recurses := true, apart := false, narrowed := true }
def FnExactTableDropUptoSaid : Prop := fnExactTableDropUptoRow.holds Tryz.pinned (OpenSpec.upto fnExactTableDropSpec)

/-- 'laws.FnExactTableKeep', WHERE WHAT IT READS IS OF BULK AT MOST 1048576: true; the input reads as it did. -/
def fnExactTableKeepUptoRow : OpenClaim := { program := "ytomncodkbcngmaagreat", sum := "0de09b6e5c840605fd668182878bf0b18e119b395535eb928a9155608eb706b7", func := "loop.example/almanack/laws.FnExactTableKeep", spec := "fnExactTableKeep", inPlace := ["internal/bytealg.abigen_runtime_cmpstring", "internal/abi.NoEscape", "internal/bytealg.MakeNoZero"], unfollowed := true, recurses := true, apart := false, narrowed := true }
def FnExactTableKeepUptoSaid : Prop := fnExactTableKeepUptoRow.holds Tryz.pinned (OpenSpec.upto fnExactTableKeepSpec)

/-- 'laws.FnExactTableAdd', WHERE WHAT IT READS IS OF BULK AT MOST 1048576: true; the input reads as it did. -/
def fnExactTableAddUptoRow : OpenClaim := { program := "ytomncodkbcngmaagreat", sum := "0de09b6e5c840605fd668182878bf0b18e119b395535eb928a9155608eb706b7", func := "loop.example/almanack/laws.FnExactTableAdd", spec := "fnExactTableAdd", inPlace := ["internal/bytealg.abigen_runtime_cmpstring", "internal/abi.NoEscape", "internal/bytealg.MakeNoZero"], unfollowed := true, recurses := true, apart := false, narrowed := true }
def FnExactTableAddUptoSaid : Prop := fnExactTableAddUptoRow.holds Tryz.pinned (OpenSpec.upto fnExactTableAddSpec)

end Rows
end Go.Proofs.YtomncodkbcngmaaGreat
