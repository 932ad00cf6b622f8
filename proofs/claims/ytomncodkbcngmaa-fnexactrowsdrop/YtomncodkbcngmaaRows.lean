/-
  No cell of these rows narrows 'for every input' (looked for: loops, veiled, ifaces, maps, wideKeys, modest, calm, conditions, laid).
  DERIVED. THE GIVEN ROWS OF THIS SEAT. 5 by the template 'for every input the law returns true; each argument reads behind the call as it read before'; 0 by the template 'total and deterministic' (their statements: YtomncodkbcngmaaTotals.lean).
  GIVEN WITH THE SEED: the statements are not yours to turn. If you find one false, say at which input.
  Laid BY PROGRAM, IN A SANDBOX (cutbox-rows.mjs): the forced cells as the released guide's own fill.sh prints them over the translation c8bd49d22d5560e2… (all of the seat's roots in one cut). By AI agents, Wed Nov 11 2026. No macro, syntax, notation, axiom, sorry.
-/
import Derived.Test.YtomncodkbcngmaaChecked
import GoSem.Claim
import GoSem.ClaimJoined
import GoSem.ClaimMapViews
import Derived.JoinedTies
import Derived.KernelRfl
namespace Go.Proofs.Ytomncodkbcngmaa
/- THE CELL 'sum', in the pinned program and in every row, IS THE sha256 OF THE DUMP (.gsa) THAT YtomncodkbcngmaaProg.lean LOADS. Nothing in Lean hashes anything: it is a label: what it is worth is what the hold of that sum in a sandbox is worth. -/
noncomputable def Try.pinned : Pinned := { name := "ytomncodkbcngmaa", sum := "c8bd49d22d5560e2fc95ff8f3133a781b98a12455082ce20f35e5a948bf59acf", checked := Try.checked }
namespace Rows
def none {H : Type} : Left H := { results := [], args := [] }

/-- 'laws.FnExactRowsAsk': WHATEVER THE INPUT: true; the input reads as it did. -/
def fnExactRowsAskSpec : ChangeSpec := { name := "fnExactRowsAsk", fn := fun _ => fun
  | [d1, d2, d3, d4] => { results := [.lit (.bool true)], args := [d1, d2, d3, d4] }
  | _ => none }
def fnExactRowsAskRow : OpenClaim := { program := "ytomncodkbcngmaa", sum := "c8bd49d22d5560e2fc95ff8f3133a781b98a12455082ce20f35e5a948bf59acf", func := "loop.example/almanack/laws.FnExactRowsAsk", spec := "fnExactRowsAsk", inPlace := ["internal/bytealg.abigen_runtime_cmpstring", "internal/abi.NoEscape", "internal/bytealg.MakeNoZero"], unfollowed := true, recurses := true, apart := false }
def FnExactRowsAskSaid : Prop := fnExactRowsAskRow.holds Try.pinned (OpenSpec.ofChange fnExactRowsAskSpec)

/-- ITS FALSE NEIGHBOUR: 'it returns false'. Refute it at one input. -/
def fnExactRowsAskWrong : ChangeSpec := { name := "fnExactRowsAsk", fn := fun _ => fun
  | [d1, d2, d3, d4] => { results := [.lit (.bool false)], args := [d1, d2, d3, d4] }
  | _ => none }
def FnExactRowsAskWrongFalsely : Prop := fnExactRowsAskRow.holds Try.pinned (OpenSpec.ofChange fnExactRowsAskWrong)

/-- 'laws.FnExactRowsDrop': WHATEVER THE INPUT: true; the input reads as it did. -/
def fnExactRowsDropSpec : ChangeSpec := { name := "fnExactRowsDrop", fn := fun _ => fun
  | [d1, d2, d3, d4] => { results := [.lit (.bool true)], args := [d1, d2, d3, d4] }
  | _ => none }
def fnExactRowsDropRow : OpenClaim := { program := "ytomncodkbcngmaa", sum := "c8bd49d22d5560e2fc95ff8f3133a781b98a12455082ce20f35e5a948bf59acf", func := "loop.example/almanack/laws.FnExactRowsDrop", spec := "fnExactRowsDrop", inPlace := ["internal/bytealg.abigen_runtime_cmpstring", "internal/abi.NoEscape", "internal/bytealg.MakeNoZero"], unfollowed := true, recurses := true, apart := false }
def FnExactRowsDropSaid : Prop := fnExactRowsDropRow.holds Try.pinned (OpenSpec.ofChange fnExactRowsDropSpec)

/-- ITS FALSE NEIGHBOUR: 'it returns false'. Refute it at one input. -/
def fnExactRowsDropWrong : ChangeSpec := { name := "fnExactRowsDrop", fn := fun _ => fun
  | [d1, d2, d3, d4] => { results := [.lit (.bool false)], args := [d1, d2, d3, d4] }
  | _ => none }
def FnExactRowsDropWrongFalsely : Prop := fnExactRowsDropRow.holds Try.pinned (OpenSpec.ofChange fnExactRowsDropWrong)

/-- 'laws.FnExactRowsJoin': WHATEVER THE INPUT: true; the input reads as it did. -/
def fnExactRowsJoinSpec : ChangeSpec := { name := "fnExactRowsJoin", fn := fun _ => fun
  | [d1, d2] => { results := [.lit (.bool true)], args := [d1, d2] }
  | _ => none }
def fnExactRowsJoinRow : OpenClaim := { program := "ytomncodkbcngmaa", sum := "c8bd49d22d5560e2fc95ff8f3133a781b98a12455082ce20f35e5a948bf59acf", func := "loop.example/almanack/laws.FnExactRowsJoin", spec := "fnExactRowsJoin", inPlace := ["internal/bytealg.abigen_runtime_cmpstring", "internal/abi.NoEscape", "internal/bytealg.MakeNoZero"], unfollowed := true, recurses := true, apart := false }
def FnExactRowsJoinSaid : Prop := fnExactRowsJoinRow.holds Try.pinned (OpenSpec.ofChange fnExactRowsJoinSpec)

/-- ITS FALSE NEIGHBOUR: 'it returns false'. Refute it at one input. -/
def fnExactRowsJoinWrong : ChangeSpec := { name := "fnExactRowsJoin", fn := fun _ => fun
  | [d1, d2] => { results := [.lit (.bool false)], args := [d1, d2] }
  | _ => none }
def FnExactRowsJoinWrongFalsely : Prop := fnExactRowsJoinRow.holds Try.pinned (OpenSpec.ofChange fnExactRowsJoinWrong)

/-- 'laws.FnExactRowsAdd': WHATEVER THE INPUT: true; the input reads as it did. -/
def fnExactRowsAddSpec : ChangeSpec := { name := "fnExactRowsAdd", fn := fun _ => fun
  | [d1, d2, d3] => { results := [.lit (.bool true)], args := [d1, d2, d3] }
  | _ => none }
def fnExactRowsAddRow : OpenClaim := { program := "ytomncodkbcngmaa", sum := "c8bd49d22d5560e2fc95ff8f3133a781b98a12455082ce20f35e5a948bf59acf", func := "loop.example/almanack/laws.FnExactRowsAdd", spec := "fnExactRowsAdd", inPlace := ["internal/bytealg.abigen_runtime_cmpstring", "internal/abi.NoEscape", "internal/bytealg.MakeNoZero"], unfollowed := true, recurses := true, apart := false }
def FnExactRowsAddSaid : Prop := fnExactRowsAddRow.holds Try.pinned (OpenSpec.ofChange fnExactRowsAddSpec)

/-- ITS FALSE NEIGHBOUR: 'it returns false'. Refute it at one input. -/
def fnExactRowsAddWrong : ChangeSpec := { name := "fnExactRowsAdd", fn := fun _ => fun
  | [d1, d2, d3] => { results := [.lit (.bool false)], args := [d1, d2, d3] }
  | _ => none }
def FnExactRowsAddWrongFalsely : Prop := fnExactRowsAddRow.holds Try.pinned (OpenSpec.ofChange fnExactRowsAddWrong)

/-- 'laws.FnExactBlockCut': WHATEVER THE INPUT: true; the input reads as it did. -/
def fnExactBlockCutSpec : ChangeSpec := { name := "fnExactBlockCut", fn := fun _ => fun
  | [d1, d2] => { results := [.lit (.bool true)], args := [d1, d2] }
  | _ => none }
def fnExactBlockCutRow : OpenClaim := { program := "ytomncodkbcngmaa", sum := "c8bd49d22d5560e2fc95ff8f3133a781b98a12455082ce20f35e5a948bf59acf", func := "loop.example/almanack/laws.FnExactBlockCut", spec := "fnExactBlockCut", inPlace := ["internal/bytealg.abigen_runtime_cmpstring", "internal/abi.NoEscape", "internal/bytealg.MakeNoZero"], unfollowed := true, recurses := true, apart := false }
def FnExactBlockCutSaid : Prop := fnExactBlockCutRow.holds Try.pinned (OpenSpec.ofChange fnExactBlockCutSpec)

/-- ITS FALSE NEIGHBOUR: 'it returns false'. Refute it at one input. -/
def fnExactBlockCutWrong : ChangeSpec := { name := "fnExactBlockCut", fn := fun _ => fun
  | [d1, d2] => { results := [.lit (.bool false)], args := [d1, d2] }
  | _ => none }
def FnExactBlockCutWrongFalsely : Prop := fnExactBlockCutRow.holds Try.pinned (OpenSpec.ofChange fnExactBlockCutWrong)

/- THE SECOND FORM. 'bulk': how many values and letters a reading holds, each counted each time it is reached (what is shared counts as often as it is met; a slice's spare places count too). A statement '..UptoSaid' is the law's where the arguments, and the package variables that the reading takes, are together of bulk at most 1048576: NARROWER than '..Said'. Prove '..Said' where nothing that the law and all that it calls make is longer than what came in: it says more and counts as full. Else prove '..UptoSaid'. A law counts once. -/
mutual
def uptoBulk {H : Type} : DataW H → Nat
  | .lit (.string bytes) => bytes.length + 1
  | .lit _ => 1
  | .nil => 1
  | .ptr d => uptoBulk d + 1
  | .slice elems spare => uptoBulkAll elems + uptoBulkAll spare + 1
  | .agg parts => uptoBulkAll parts + 1
  | .iface _ d => uptoBulk d + 1
  | .map entries => uptoBulkEntries entries + 1
  | .held _ => 1
def uptoBulkAll {H : Type} : List (DataW H) → Nat
  | [] => 0
  | d :: r => uptoBulk d + uptoBulkAll r
def uptoBulkEntries {H : Type} : List (Lit × DataW H) → Nat
  | [] => 0
  | x :: r => uptoBulkEntry x + uptoBulkEntries r
def uptoBulkEntry {H : Type} : Lit × DataW H → Nat
  | (.string bytes, d) => bytes.length + uptoBulk d + 1
  | (_, d) => uptoBulk d + 1
 end
def uptoSmall : (H : Type) → List (DataW H) → Bool := fun _ ds => decide (uptoBulkAll ds ≤ 1048576)
def OpenSpec.upto (s : _root_.Go.ChangeSpec) : _root_.Go.OpenSpec := { _root_.Go.OpenSpec.ofChange s with cond := some uptoSmall }

/-- 'laws.FnExactRowsAsk', WHERE WHAT IT READS IS OF BULK AT MOST 1048576: true; the input reads as it did. -/
def fnExactRowsAskUptoRow : OpenClaim := { program := "ytomncodkbcngmaa", sum := "c8bd49d22d5560e2fc95ff8f3133a781b98a12455082ce20f35e5a948bf59acf", func := "loop.example/almanack/laws.FnExactRowsAsk", spec := "fnExactRowsAsk", inPlace := ["internal/bytealg.abigen_runtime_cmpstring", "internal/abi.NoEscape", "internal/bytealg.MakeNoZero"], unfollowed := true, recurses := true, apart := false, narrowed := true }
def FnExactRowsAskUptoSaid : Prop := fnExactRowsAskUptoRow.holds Try.pinned (OpenSpec.upto fnExactRowsAskSpec)

/-- 'laws.FnExactRowsDrop', WHERE WHAT IT READS IS OF BULK AT MOST 1048576: true; the input reads as it did. -/
def fnExactRowsDropUptoRow : OpenClaim := { program := "ytomncodkbcngmaa", sum := "c8bd49d22d5560e2fc95ff8f3133a781b98a12455082ce20f35e5a948bf59acf", func := "loop.example/almanack/laws.FnExactRowsDrop", spec := "fnExactRowsDrop", inPlace := ["internal/bytealg.abigen_runtime_cmpstring", "internal/abi.NoEscape", "internal/bytealg.MakeNoZero"], unfollowed := true, recurses := true, apart := false, narrowed := true }
def FnExactRowsDropUptoSaid : Prop := fnExactRowsDropUptoRow.holds Try.pinned (OpenSpec.upto fnExactRowsDropSpec)

/-- 'laws.FnExactRowsJoin', WHERE WHAT IT READS IS OF BULK AT MOST 1048576: true; the input reads as it did. -/
def fnExactRowsJoinUptoRow : OpenClaim := { program := "ytomncodkbcngmaa", sum := "c8bd49d22d5560e2fc95ff8f3133a781b98a12455082ce20f35e5a948bf59acf", func := "loop.example/almanack/laws.FnExactRowsJoin", spec := "fnExactRowsJoin", inPlace := ["internal/bytealg.abigen_runtime_cmpstring", "internal/abi.NoEscape", "internal/bytealg.MakeNoZero"], unfollowed := true, recurses := true, apart := false, narrowed := true }
def FnExactRowsJoinUptoSaid : Prop := fnExactRowsJoinUptoRow.holds Try.pinned (OpenSpec.upto fnExactRowsJoinSpec)

/-- 'laws.FnExactRowsAdd', WHERE WHAT IT READS IS OF BULK AT MOST 1048576: true; the input reads as it did. -/
def fnExactRowsAddUptoRow : OpenClaim := { program := "ytomncodkbcngmaa", sum := "c8bd49d22d5560e2fc95ff8f3133a781b98a12455082ce20f35e5a948bf59acf", func := "loop.example/almanack/laws.FnExactRowsAdd", spec := "fnExactRowsAdd", inPlace := ["internal/bytealg.abigen_runtime_cmpstring", "internal/abi.NoEscape", "internal/bytealg.MakeNoZero"], unfollowed := true, recurses := true, apart := false, narrowed := true }
def FnExactRowsAddUptoSaid : Prop := fnExactRowsAddUptoRow.holds Try.pinned (OpenSpec.upto fnExactRowsAddSpec)

/-- 'laws.FnExactBlockCut', WHERE WHAT IT READS IS OF BULK AT MOST 1048576: true; the input reads as it did. -/
def fnExactBlockCutUptoRow : OpenClaim := { program := "ytomncodkbcngmaa", sum := "c8bd49d22d5560e2fc95ff8f3133a781b98a12455082ce20f35e5a948bf59acf", func := "loop.example/almanack/laws.FnExactBlockCut", spec := "fnExactBlockCut", inPlace := ["internal/bytealg.abigen_runtime_cmpstring", "internal/abi.NoEscape", "internal/bytealg.MakeNoZero"], unfollowed := true, recurses := true, apart := false, narrowed := true }
def FnExactBlockCutUptoSaid : Prop := fnExactBlockCutUptoRow.holds Try.pinned (OpenSpec.upto fnExactBlockCutSpec)

end Rows
end Go.Proofs.Ytomncodkbcngmaa
