/-
  No cell of these rows narrows 'for every input' (looked for: loops, veiled, ifaces, maps, wideKeys, modest, calm, conditions, laid).
  DERIVED. THE GIVEN ROWS OF THIS SEAT. 8 by the template 'for every input the law returns true; each argument reads behind the call as it read before'; 0 by the template 'total and deterministic' (their statements: YtdggffcibcggoaaTotals.lean).
  GIVEN WITH THE SEED: the statements are not yours to turn. If you find one false, say at which input.
  Laid BY PROGRAM, IN A SANDBOX (cutbox-rows.mjs): the forced cells as the released guide's own fill.sh prints them over the translation bbf0b00fa96381e7… (all of the seat's roots in one cut). By AI agents, Wed Nov 11 2026. No macro, syntax, notation, axiom, sorry.
-/
import Derived.Test.YtdggffcibcggoaaChecked
import GoSem.Claim
import GoSem.ClaimJoined
import GoSem.ClaimMapViews
import Derived.JoinedTies
import Derived.KernelRfl
namespace Go.Proofs.Ytdggffcibcggoaa
/- THE CELL 'sum', in the pinned program and in every row, IS THE sha256 OF THE DUMP (.gsa) THAT YtdggffcibcggoaaProg.lean LOADS. Nothing in Lean hashes anything: it is a label: what it is worth is what the hold of that sum in a sandbox is worth. -/
noncomputable def Try.pinned : Pinned := { name := "ytdggffcibcggoaa", sum := "bbf0b00fa96381e71608c9744185124fe223218d986df490e2e50bdb99d573db", checked := Try.checked }
namespace Rows
def none {H : Type} : Left H := { results := [], args := [] }

/-- 'laws.FnExactRowsJoin': WHATEVER THE INPUT: true; the input reads as it did. -/
def fnExactRowsJoinSpec : ChangeSpec := { name := "fnExactRowsJoin", fn := fun _ => fun
  | [d1, d2] => { results := [.lit (.bool true)], args := [d1, d2] }
  | _ => none }
def fnExactRowsJoinRow : OpenClaim := { program := "ytdggffcibcggoaa", sum := "bbf0b00fa96381e71608c9744185124fe223218d986df490e2e50bdb99d573db", func := "loop.example/almanack/laws.FnExactRowsJoin", spec := "fnExactRowsJoin", inPlace := ["internal/bytealg.abigen_runtime_cmpstring", "internal/abi.NoEscape", "internal/bytealg.MakeNoZero"], unfollowed := true, recurses := true, apart := false }
def FnExactRowsJoinSaid : Prop := fnExactRowsJoinRow.holds Try.pinned (OpenSpec.ofChange fnExactRowsJoinSpec)

/-- ITS FALSE NEIGHBOUR: 'it returns false'. Refute it at one input. -/
def fnExactRowsJoinWrong : ChangeSpec := { name := "fnExactRowsJoin", fn := fun _ => fun
  | [d1, d2] => { results := [.lit (.bool false)], args := [d1, d2] }
  | _ => none }
def FnExactRowsJoinWrongFalsely : Prop := fnExactRowsJoinRow.holds Try.pinned (OpenSpec.ofChange fnExactRowsJoinWrong)

/-- 'laws.FnExactRowsAdd': WHATEVER THE INPUT: true; the input reads as it did. -/
def fnExactRowsAddSpec : ChangeSpec := { name := "fnExactRowsAdd", fn := fun _ => fun
  | [d1, d2, d3] => { results := [.lit (.bool true)], args := [d1, d2, d3] }
  | _ => none }
def fnExactRowsAddRow : OpenClaim := { program := "ytdggffcibcggoaa", sum := "bbf0b00fa96381e71608c9744185124fe223218d986df490e2e50bdb99d573db", func := "loop.example/almanack/laws.FnExactRowsAdd", spec := "fnExactRowsAdd", inPlace := ["internal/bytealg.abigen_runtime_cmpstring", "internal/abi.NoEscape", "internal/bytealg.MakeNoZero"], unfollowed := true, recurses := true, apart := false }
def FnExactRowsAddSaid : Prop := fnExactRowsAddRow.holds Try.pinned (OpenSpec.ofChange fnExactRowsAddSpec)

/-- ITS FALSE NEIGHBOUR: 'it returns false'. Refute it at one input. -/
def fnExactRowsAddWrong : ChangeSpec := { name := "fnExactRowsAdd", fn := fun _ => fun
  | [d1, d2, d3] => { results := [.lit (.bool false)], args := [d1, d2, d3] }
  | _ => none }
def FnExactRowsAddWrongFalsely : Prop := fnExactRowsAddRow.holds Try.pinned (OpenSpec.ofChange fnExactRowsAddWrong)

/-- 'laws.FnExactBlockCut': WHATEVER THE INPUT: true; the input reads as it did. -/
def fnExactBlockCutSpec : ChangeSpec := { name := "fnExactBlockCut", fn := fun _ => fun
  | [d1, d2] => { results := [.lit (.bool true)], args := [d1, d2] }
  | _ => none }
def fnExactBlockCutRow : OpenClaim := { program := "ytdggffcibcggoaa", sum := "bbf0b00fa96381e71608c9744185124fe223218d986df490e2e50bdb99d573db", func := "loop.example/almanack/laws.FnExactBlockCut", spec := "fnExactBlockCut", inPlace := ["internal/bytealg.abigen_runtime_cmpstring", "internal/abi.NoEscape", "internal/bytealg.MakeNoZero"], unfollowed := true, recurses := true, apart := false }
def FnExactBlockCutSaid : Prop := fnExactBlockCutRow.holds Try.pinned (OpenSpec.ofChange fnExactBlockCutSpec)

/-- ITS FALSE NEIGHBOUR: 'it returns false'. Refute it at one input. -/
def fnExactBlockCutWrong : ChangeSpec := { name := "fnExactBlockCut", fn := fun _ => fun
  | [d1, d2] => { results := [.lit (.bool false)], args := [d1, d2] }
  | _ => none }
def FnExactBlockCutWrongFalsely : Prop := fnExactBlockCutRow.holds Try.pinned (OpenSpec.ofChange fnExactBlockCutWrong)

/-- 'laws.FnExactTop': WHATEVER THE INPUT: true; the input reads as it did. -/
def fnExactTopSpec : ChangeSpec := { name := "fnExactTop", fn := fun _ => fun
  | [d1, d2] => { results := [.lit (.bool true)], args := [d1, d2] }
  | _ => none }
def fnExactTopRow : OpenClaim := { program := "ytdggffcibcggoaa", sum := "bbf0b00fa96381e71608c9744185124fe223218d986df490e2e50bdb99d573db", func := "loop.example/almanack/laws.FnExactTop", spec := "fnExactTop", inPlace := ["internal/bytealg.abigen_runtime_cmpstring"], unfollowed := true, recurses := true, apart := false }
def FnExactTopSaid : Prop := fnExactTopRow.holds Try.pinned (OpenSpec.ofChange fnExactTopSpec)

/-- ITS FALSE NEIGHBOUR: 'it returns false'. Refute it at one input. -/
def fnExactTopWrong : ChangeSpec := { name := "fnExactTop", fn := fun _ => fun
  | [d1, d2] => { results := [.lit (.bool false)], args := [d1, d2] }
  | _ => none }
def FnExactTopWrongFalsely : Prop := fnExactTopRow.holds Try.pinned (OpenSpec.ofChange fnExactTopWrong)

/-- 'laws.FnExactTotal': WHATEVER THE INPUT: true; the input reads as it did. -/
def fnExactTotalSpec : ChangeSpec := { name := "fnExactTotal", fn := fun _ => fun
  | [d1, d2] => { results := [.lit (.bool true)], args := [d1, d2] }
  | _ => none }
def fnExactTotalRow : OpenClaim := { program := "ytdggffcibcggoaa", sum := "bbf0b00fa96381e71608c9744185124fe223218d986df490e2e50bdb99d573db", func := "loop.example/almanack/laws.FnExactTotal", spec := "fnExactTotal", inPlace := ["internal/bytealg.abigen_runtime_cmpstring"], unfollowed := true, recurses := true, apart := false }
def FnExactTotalSaid : Prop := fnExactTotalRow.holds Try.pinned (OpenSpec.ofChange fnExactTotalSpec)

/-- ITS FALSE NEIGHBOUR: 'it returns false'. Refute it at one input. -/
def fnExactTotalWrong : ChangeSpec := { name := "fnExactTotal", fn := fun _ => fun
  | [d1, d2] => { results := [.lit (.bool false)], args := [d1, d2] }
  | _ => none }
def FnExactTotalWrongFalsely : Prop := fnExactTotalRow.holds Try.pinned (OpenSpec.ofChange fnExactTotalWrong)

/-- 'laws.FnRowsAsk': WHATEVER THE INPUT: true; the input reads as it did. -/
def fnRowsAskSpec : ChangeSpec := { name := "fnRowsAsk", fn := fun _ => fun
  | [d] => { results := [.lit (.bool true)], args := [d] }
  | _ => none }
def fnRowsAskRow : OpenClaim := { program := "ytdggffcibcggoaa", sum := "bbf0b00fa96381e71608c9744185124fe223218d986df490e2e50bdb99d573db", func := "loop.example/almanack/laws.FnRowsAsk", spec := "fnRowsAsk", inPlace := ["internal/bytealg.abigen_runtime_cmpstring", "internal/abi.NoEscape", "internal/bytealg.MakeNoZero"], unfollowed := true, recurses := true, apart := false }
def FnRowsAskSaid : Prop := fnRowsAskRow.holds Try.pinned (OpenSpec.ofChange fnRowsAskSpec)

/-- ITS FALSE NEIGHBOUR: 'it returns false'. Refute it at one input. -/
def fnRowsAskWrong : ChangeSpec := { name := "fnRowsAsk", fn := fun _ => fun
  | [d] => { results := [.lit (.bool false)], args := [d] }
  | _ => none }
def FnRowsAskWrongFalsely : Prop := fnRowsAskRow.holds Try.pinned (OpenSpec.ofChange fnRowsAskWrong)

/-- 'laws.FnRowsDrop': WHATEVER THE INPUT: true; the input reads as it did. -/
def fnRowsDropSpec : ChangeSpec := { name := "fnRowsDrop", fn := fun _ => fun
  | [d] => { results := [.lit (.bool true)], args := [d] }
  | _ => none }
def fnRowsDropRow : OpenClaim := { program := "ytdggffcibcggoaa", sum := "bbf0b00fa96381e71608c9744185124fe223218d986df490e2e50bdb99d573db", func := "loop.example/almanack/laws.FnRowsDrop", spec := "fnRowsDrop", inPlace := ["internal/bytealg.abigen_runtime_cmpstring", "internal/abi.NoEscape", "internal/bytealg.MakeNoZero"], unfollowed := true, recurses := true, apart := false }
def FnRowsDropSaid : Prop := fnRowsDropRow.holds Try.pinned (OpenSpec.ofChange fnRowsDropSpec)

/-- ITS FALSE NEIGHBOUR: 'it returns false'. Refute it at one input. -/
def fnRowsDropWrong : ChangeSpec := { name := "fnRowsDrop", fn := fun _ => fun
  | [d] => { results := [.lit (.bool false)], args := [d] }
  | _ => none }
def FnRowsDropWrongFalsely : Prop := fnRowsDropRow.holds Try.pinned (OpenSpec.ofChange fnRowsDropWrong)

/-- 'laws.FnTop': WHATEVER THE INPUT: true; the input reads as it did. -/
def fnTopSpec : ChangeSpec := { name := "fnTop", fn := fun _ => fun
  | [d] => { results := [.lit (.bool true)], args := [d] }
  | _ => none }
def fnTopRow : OpenClaim := { program := "ytdggffcibcggoaa", sum := "bbf0b00fa96381e71608c9744185124fe223218d986df490e2e50bdb99d573db", func := "loop.example/almanack/laws.FnTop", spec := "fnTop", inPlace := ["internal/bytealg.abigen_runtime_cmpstring", "internal/abi.NoEscape", "internal/bytealg.MakeNoZero"], unfollowed := true, recurses := true, apart := false }
def FnTopSaid : Prop := fnTopRow.holds Try.pinned (OpenSpec.ofChange fnTopSpec)

/-- ITS FALSE NEIGHBOUR: 'it returns false'. Refute it at one input. -/
def fnTopWrong : ChangeSpec := { name := "fnTop", fn := fun _ => fun
  | [d] => { results := [.lit (.bool false)], args := [d] }
  | _ => none }
def FnTopWrongFalsely : Prop := fnTopRow.holds Try.pinned (OpenSpec.ofChange fnTopWrong)

/- THE SECOND FORM. 'bulk': how many values and letters a reading holds, each counted each time it is reached (what is shared counts as often as it is met; a slice's spare places count too). A statement '..UptoSaid' is the law's where the arguments, and the package variables that the reading takes, are together of bulk at most 1048576: NARROWER than '..Said'. Prove '..Said' where nothing that the law and all that it calls make is longer than what came in: it says more and counts as full. Else prove '..UptoSaid'. A law counts once. -/
mutual
def uptoBulk {H : Type} : DataW H → Nat
  | .lit (.string bytes) => bytes.length + 1
  | .lit _ => 1
  | .nil => 1
  | .ptr d => uptoBulk d + 1
  | .slice elems spare => uptoBulkAll elems + uptoBulkAll spare + 1
  | .agg parts => uptoBulkAll parts + 1
  | .iface _ d => uptoBulk d + 1
  | .map entries => uptoBulkEntries entries + 1
  | .held _ => 1
def uptoBulkAll {H : Type} : List (DataW H) → Nat
  | [] => 0
  | d :: r => uptoBulk d + uptoBulkAll r
def uptoBulkEntries {H : Type} : List (Lit × DataW H) → Nat
  | [] => 0
  | x :: r => uptoBulkEntry x + uptoBulkEntries r
def uptoBulkEntry {H : Type} : Lit × DataW H → Nat
  | (.string bytes, d) => bytes.length + uptoBulk d + 1
  | (_, d) => uptoBulk d + 1
 end
def uptoSmall : (H : Type) → List (DataW H) → Bool := fun _ ds => decide (uptoBulkAll ds ≤ 1048576)
def OpenSpec.upto (s : _root_.Go.ChangeSpec) : _root_.Go.OpenSpec := { _root_.Go.OpenSpec.ofChange s with cond := some uptoSmall }

/-- 'laws.FnExactRowsJoin', WHERE WHAT IT READS IS OF BULK AT MOST 1048576: true; the input reads as it did. -/
def fnExactRowsJoinUptoRow : OpenClaim := { program := "ytdggffcibcggoaa", sum := "bbf0b00fa96381e71608c9744185124fe223218d986df490e2e50bdb99d573db", func := "loop.example/almanack/laws.FnExactRowsJoin", spec := "fnExactRowsJoin", inPlace := ["internal/bytealg.abigen_runtime_cmpstring", "internal/abi.NoEscape", "internal/bytealg.MakeNoZero"], unfollowed := true, recurses := true, apart := false, narrowed := true }
def FnExactRowsJoinUptoSaid : Prop := fnExactRowsJoinUptoRow.holds Try.pinned (OpenSpec.upto fnExactRowsJoinSpec)

/-- 'laws.FnExactRowsAdd', WHERE WHAT IT READS IS OF BULK AT MOST 1048576: true; the input reads as it did. -/
def fnExactRowsAddUptoRow : OpenClaim := { program := "ytdggffcibcggoaa", sum := "bbf0b00fa96381e71608c9744185124fe223218d986df490e2e50bdb99d573db", func := "loop.example/almanack/laws.FnExactRowsAdd", spec := "fnExactRowsAdd", inPlace := ["internal/bytealg.abigen_runtime_cmpstring", "internal/abi.NoEscape", "internal/bytealg.MakeNoZero"], unfollowed := true, recurses := true, apart := false, narrowed := true }
def FnExactRowsAddUptoSaid : Prop := fnExactRowsAddUptoRow.holds Try.pinned (OpenSpec.upto fnExactRowsAddSpec)

/-- 'laws.FnExactBlockCut', WHERE WHAT IT READS IS OF BULK AT MOST 1048576: true; the input reads as it did. -/
def fnExactBlockCutUptoRow : OpenClaim := { program := "ytdggffcibcggoaa", sum := "bbf0b00fa96381e71608c9744185124fe223218d986df490e2e50bdb99d573db", func := "loop.example/almanack/laws.FnExactBlockCut", spec := "fnExactBlockCut", inPlace := ["internal/bytealg.abigen_runtime_cmpstring", "internal/abi.NoEscape", "internal/bytealg.MakeNoZero"], unfollowed := true, recurses := true, apart := false, narrowed := true }
def FnExactBlockCutUptoSaid : Prop := fnExactBlockCutUptoRow.holds Try.pinned (OpenSpec.upto fnExactBlockCutSpec)

/-- 'laws.FnExactTop', WHERE WHAT IT READS IS OF BULK AT MOST 1048576: true; the input reads as it did. -/
def fnExactTopUptoRow : OpenClaim := { program := "ytdggffcibcggoaa", sum := "bbf0b00fa96381e71608c9744185124fe223218d986df490e2e50bdb99d573db", func := "loop.example/almanack/laws.FnExactTop", spec := "fnExactTop", inPlace := ["internal/bytealg.abigen_runtime_cmpstring"], unfollowed := true, recurses := true, apart := false, narrowed := true }
def FnExactTopUptoSaid : Prop := fnExactTopUptoRow.holds Try.pinned (OpenSpec.upto fnExactTopSpec)

/-- 'laws.FnExactTotal', WHERE WHAT IT READS IS OF BULK AT MOST 1048576: true; the input reads as it did. -/
def fnExactTotalUptoRow : OpenClaim := { program := "ytdggffcibcggoaa", sum := "bbf0b00fa96381e71608c9744185124fe223218d986df490e2e50bdb99d573db", func := "loop.example/almanack/laws.FnExactTotal", spec := "fnExactTotal", inPlace := ["internal/bytealg.abigen_runtime_cmpstring"], unfollowed := true, recurses := true, apart := false, narrowed := true }
def FnExactTotalUptoSaid : Prop := fnExactTotalUptoRow.holds Try.pinned (OpenSpec.upto fnExactTotalSpec)

/-- 'laws.FnRowsAsk', WHERE WHAT IT READS IS OF BULK AT MOST 1048576: true; the input reads as it did. -/
def fnRowsAskUptoRow : OpenClaim := { program := "ytdggffcibcggoaa", sum := "bbf0b00fa96381e71608c9744185124fe223218d986df490e2e50bdb99d573db", func := "loop.example/almanack/laws.FnRowsAsk", spec := "fnRowsAsk", inPlace := ["internal/bytealg.abigen_runtime_cmpstring", "internal/abi.NoEscape", "internal/bytealg.MakeNoZero"], unfollowed := true, recurses := true, apart := false, narrowed := true }
def FnRowsAskUptoSaid : Prop := fnRowsAskUptoRow.holds Try.pinned (OpenSpec.upto fnRowsAskSpec)

/-- 'laws.FnRowsDrop', WHERE WHAT IT READS IS OF BULK AT MOST 1048576: true; the input reads as it did. -/
def fnRowsDropUptoRow : OpenClaim := { program := "ytdggffcibcggoaa", sum := "bbf0b00fa96381e71608c9744185124fe223218d986df490e2e50bdb99d573db", func := "loop.example/almanack/laws.FnRowsDrop", spec := "fnRowsDrop", inPlace := ["internal/bytealg.abigen_runtime_cmpstring", "internal/abi.NoEscape", "internal/bytealg.MakeNoZero"], unfollowed := true, recurses := true, apart := false, narrowed := true }
def FnRowsDropUptoSaid : Prop := fnRowsDropUptoRow.holds Try.pinned (OpenSpec.upto fnRowsDropSpec)

/-- 'laws.FnTop', WHERE WHAT IT READS IS OF BULK AT MOST 1048576: true; the input reads as it did. -/
def fnTopUptoRow : OpenClaim := { program := "ytdggffcibcggoaa", sum := "bbf0b00fa96381e71608c9744185124fe223218d986df490e2e50bdb99d573db", func := "loop.example/almanack/laws.FnTop", spec := "fnTop", inPlace := ["internal/bytealg.abigen_runtime_cmpstring", "internal/abi.NoEscape", "internal/bytealg.MakeNoZero"], unfollowed := true, recurses := true, apart := false, narrowed := true }
def FnTopUptoSaid : Prop := fnTopUptoRow.holds Try.pinned (OpenSpec.upto fnTopSpec)

end Rows
end Go.Proofs.Ytdggffcibcggoaa
