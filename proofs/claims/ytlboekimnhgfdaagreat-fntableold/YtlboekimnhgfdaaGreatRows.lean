/-
  No cell of these rows narrows 'for every input' (looked for: loops, veiled, ifaces, maps, wideKeys, modest, calm, conditions, laid).
  DERIVED. THE GIVEN ROWS OF THIS SEAT. 7 by the template 'for every input the law returns true; each argument reads behind the call as it read before'; 0 by the template 'total and deterministic' (their statements: YtlboekimnhgfdaaGreatTotals.lean).
  GIVEN WITH THE SEED: the statements are not yours to turn. If you find one false, say at which input.
  Laid BY PROGRAM, IN A SANDBOX (cutbox-rows.mjs): the forced cells as the released guide's own fill.sh prints them over the translation cb9cf0220f2c49a2… (all of the seat's roots in one cut). By AI agents, Wed Nov 11 2026. No macro, syntax, notation, axiom, sorry.
-/
import Derived.Test.YtlboekimnhgfdaaGreatChecked
import GoSem.Claim
import GoSem.ClaimJoined
import GoSem.ClaimMapViews
import Derived.JoinedTies
import Derived.KernelRfl
namespace Go.Proofs.YtlboekimnhgfdaaGreat
/- THE CELL 'sum', in the pinned program and in every row, IS THE sha256 OF THE DUMP (.gsa) THAT YtlboekimnhgfdaaGreatProg.lean LOADS. Nothing in Lean hashes anything: it is a label: what it is worth is what the hold of that sum in a sandbox is worth. -/
noncomputable def Tryz.pinned : Pinned := { name := "ytlboekimnhgfdaagreat", sum := "cb9cf0220f2c49a242bf1117f2bd9ef6ebb522bad10e6a341258f4e8aec74630", checked := Tryz.checked }
namespace Rows
def none {H : Type} : Left H := { results := [], args := [] }

/-- 'laws.FnExactTableAdd': WHATEVER THE INPUT: true; the input reads as it did. -/
def fnExactTableAddSpec : ChangeSpec := { name := "fnExactTableAdd", fn := fun _ => fun
  | [d1, d2] => { results := [.lit (.bool true)], args := [d1, d2] }
  | _ => none }
def fnExactTableAddRow : OpenClaim := { program := "ytlboekimnhgfdaagreat", sum := "cb9cf0220f2c49a242bf1117f2bd9ef6ebb522bad10e6a341258f4e8aec74630", func := "loop.example/almanack/laws.FnExactTableAdd", spec := "fnExactTableAdd", inPlace := ["internal/bytealg.abigen_runtime_cmpstring", "internal/abi.NoEscape", "internal/bytealg.MakeNoZero"], unfollowed := true, recurses := true, apart := false }
def FnExactTableAddSaid : Prop := fnExactTableAddRow.holds Tryz.pinned (OpenSpec.ofChange fnExactTableAddSpec)

/-- ITS FALSE NEIGHBOUR: 'it returns false'. Refute it at one input. -/
def fnExactTableAddWrong : ChangeSpec := { name := "fnExactTableAdd", fn := fun _ => fun
  | [d1, d2] => { results := [.lit (.bool false)], args := [d1, d2] }
  | _ => none }
def FnExactTableAddWrongFalsely : Prop := fnExactTableAddRow.holds Tryz.pinned (OpenSpec.ofChange fnExactTableAddWrong)

/-- 'laws.FnTableDrop': WHATEVER THE INPUT: true; the input reads as it did. -/
def fnTableDropSpec : ChangeSpec := { name := "fnTableDrop", fn := fun _ => fun
  | [d] => { results := [.lit (.bool true)], args := [d] }
  | _ => none }
def fnTableDropRow : OpenClaim := { program := "ytlboekimnhgfdaagreat", sum := "cb9cf0220f2c49a242bf1117f2bd9ef6ebb522bad10e6a341258f4e8aec74630", func := "loop.example/almanack/laws.FnTableDrop", spec := "fnTableDrop", inPlace := ["internal/bytealg.abigen_runtime_cmpstring", "internal/abi.NoEscape", "internal/bytealg.MakeNoZero"], unfollowed := true, recurses := true, apart := false }
def FnTableDropSaid : Prop := fnTableDropRow.holds Tryz.pinned (OpenSpec.ofChange fnTableDropSpec)

/-- ITS FALSE NEIGHBOUR: 'it returns false'. Refute it at one input. -/
def fnTableDropWrong : ChangeSpec := { name := "fnTableDrop", fn := fun _ => fun
  | [d] => { results := [.lit (.bool false)], args := [d] }
  | _ => none }
def FnTableDropWrongFalsely : Prop := fnTableDropRow.holds Tryz.pinned (OpenSpec.ofChange fnTableDropWrong)

/-- 'laws.FnTableAsk': WHATEVER THE INPUT: true; the input reads as it did. -/
def fnTableAskSpec : ChangeSpec := { name := "fnTableAsk", fn := fun _ => fun
  | [d] => { results := [.lit (.bool true)], args := [d] }
  | _ => none }
def fnTableAskRow : OpenClaim := { program := "ytlboekimnhgfdaagreat", sum := "cb9cf0220f2c49a242bf1117f2bd9ef6ebb522bad10e6a341258f4e8aec74630", func := "loop.example/almanack/laws.FnTableAsk", spec := "fnTableAsk", inPlace := ["internal/bytealg.abigen_runtime_cmpstring", "internal/abi.NoEscape", "internal/bytealg.MakeNoZero"], unfollowed := true, recurses := true, apart := false }
def FnTableAskSaid : Prop := fnTableAskRow.holds Tryz.pinned (OpenSpec.ofChange fnTableAskSpec)

/-- ITS FALSE NEIGHBOUR: 'it returns false'. Refute it at one input. -/
def fnTableAskWrong : ChangeSpec := { name := "fnTableAsk", fn := fun _ => fun
  | [d] => { results := [.lit (.bool false)], args := [d] }
  | _ => none }
def FnTableAskWrongFalsely : Prop := fnTableAskRow.holds Tryz.pinned (OpenSpec.ofChange fnTableAskWrong)

/-- 'laws.FnTableKeep': WHATEVER THE INPUT: true; the input reads as it did. -/
def fnTableKeepSpec : ChangeSpec := { name := "fnTableKeep", fn := fun _ => fun
  | [d] => { results := [.lit (.bool true)], args := [d] }
  | _ => none }
def fnTableKeepRow : OpenClaim := { program := "ytlboekimnhgfdaagreat", sum := "cb9cf0220f2c49a242bf1117f2bd9ef6ebb522bad10e6a341258f4e8aec74630", func := "loop.example/almanack/laws.FnTableKeep", spec := "fnTableKeep", inPlace := ["internal/bytealg.abigen_runtime_cmpstring", "internal/abi.NoEscape", "internal/bytealg.MakeNoZero"], unfollowed := true, recurses := true, apart := false }
def FnTableKeepSaid : Prop := fnTableKeepRow.holds Tryz.pinned (OpenSpec.ofChange fnTableKeepSpec)

/-- ITS FALSE NEIGHBOUR: 'it returns false'. Refute it at one input. -/
def fnTableKeepWrong : ChangeSpec := { name := "fnTableKeep", fn := fun _ => fun
  | [d] => { results := [.lit (.bool false)], args := [d] }
  | _ => none }
def FnTableKeepWrongFalsely : Prop := fnTableKeepRow.holds Tryz.pinned (OpenSpec.ofChange fnTableKeepWrong)

/-- 'laws.FnTableAdd': WHATEVER THE INPUT: true; the input reads as it did. -/
def fnTableAddSpec : ChangeSpec := { name := "fnTableAdd", fn := fun _ => fun
  | [d] => { results := [.lit (.bool true)], args := [d] }
  | _ => none }
def fnTableAddRow : OpenClaim := { program := "ytlboekimnhgfdaagreat", sum := "cb9cf0220f2c49a242bf1117f2bd9ef6ebb522bad10e6a341258f4e8aec74630", func := "loop.example/almanack/laws.FnTableAdd", spec := "fnTableAdd", inPlace := ["internal/bytealg.abigen_runtime_cmpstring", "internal/abi.NoEscape", "internal/bytealg.MakeNoZero"], unfollowed := true, recurses := true, apart := false }
def FnTableAddSaid : Prop := fnTableAddRow.holds Tryz.pinned (OpenSpec.ofChange fnTableAddSpec)

/-- ITS FALSE NEIGHBOUR: 'it returns false'. Refute it at one input. -/
def fnTableAddWrong : ChangeSpec := { name := "fnTableAdd", fn := fun _ => fun
  | [d] => { results := [.lit (.bool false)], args := [d] }
  | _ => none }
def FnTableAddWrongFalsely : Prop := fnTableAddRow.holds Tryz.pinned (OpenSpec.ofChange fnTableAddWrong)

/-- 'laws.FnTableOne': WHATEVER THE INPUT: true; the input reads as it did. -/
def fnTableOneSpec : ChangeSpec := { name := "fnTableOne", fn := fun _ => fun
  | [d] => { results := [.lit (.bool true)], args := [d] }
  | _ => none }
def fnTableOneRow : OpenClaim := { program := "ytlboekimnhgfdaagreat", sum := "cb9cf0220f2c49a242bf1117f2bd9ef6ebb522bad10e6a341258f4e8aec74630", func := "loop.example/almanack/laws.FnTableOne", spec := "fnTableOne", inPlace := ["internal/bytealg.abigen_runtime_cmpstring", "internal/abi.NoEscape", "internal/bytealg.MakeNoZero"], unfollowed := true, recurses := true, apart := false }
def FnTableOneSaid : Prop := fnTableOneRow.holds Tryz.pinned (OpenSpec.ofChange fnTableOneSpec)

/-- ITS FALSE NEIGHBOUR: 'it returns false'. Refute it at one input. -/
def fnTableOneWrong : ChangeSpec := { name := "fnTableOne", fn := fun _ => fun
  | [d] => { results := [.lit (.bool false)], args := [d] }
  | _ => none }
def FnTableOneWrongFalsely : Prop := fnTableOneRow.holds Tryz.pinned (OpenSpec.ofChange fnTableOneWrong)

/-- 'laws.FnTableOld': WHATEVER THE INPUT: true; the input reads as it did. -/
def fnTableOldSpec : ChangeSpec := { name := "fnTableOld", fn := fun _ => fun
  | [d] => { results := [.lit (.bool true)], args := [d] }
  | _ => none }
def fnTableOldRow : OpenClaim := { program := "ytlboekimnhgfdaagreat", sum := "cb9cf0220f2c49a242bf1117f2bd9ef6ebb522bad10e6a341258f4e8aec74630", func := "loop.example/almanack/laws.FnTableOld", spec := "fnTableOld", inPlace := ["internal/bytealg.abigen_runtime_cmpstring", "internal/abi.NoEscape", "internal/bytealg.MakeNoZero"], unfollowed := true, recurses := true, apart := false }
def FnTableOldSaid : Prop := fnTableOldRow.holds Tryz.pinned (OpenSpec.ofChange fnTableOldSpec)

/-- ITS FALSE NEIGHBOUR: 'it returns false'. Refute it at one input. -/
def fnTableOldWrong : ChangeSpec := { name := "fnTableOld", fn := fun _ => fun
  | [d] => { results := [.lit (.bool false)], args := [d] }
  | _ => none }
def FnTableOldWrongFalsely : Prop := fnTableOldRow.holds Tryz.pinned (OpenSpec.ofChange fnTableOldWrong)

/- THE SECOND FORM. 'bulk': how many values and letters a reading holds, each counted each time it is reached (what is shared counts as often as it is met; a slice's spare places count too). A statement '..UptoSaid' is the law's where the arguments, and the package variables that the reading takes, are together of bulk at most 1048576: NARROWER than '..Said'. Prove '..Said' where nothing that the law and all that it calls make is longer than what came in: it says more and counts as full. Else prove '..UptoSaid'. A law counts once. -/
mutual
def uptoBulk {H : Type} : DataW H → Nat
  | .lit (.string bytes) => bytes.length + 1
  | .lit _ => 1
  | .nil => 1
  | .ptr d => uptoBulk d + 1
  | .slice elems spare => uptoBulkAll elems + uptoBulkAll spare + 1
  | .agg parts => uptoBulkAll parts + 1
  | .iface _ d => uptoBulk d + 1
  | .map entries => uptoBulkEntries entries + 1
  | .held _ => 1
def uptoBulkAll {H : Type} : List (DataW H) → Nat
  | [] => 0
  | d :: r => uptoBulk d + uptoBulkAll r
def uptoBulkEntries {H : Type} : List (Lit × DataW H) → Nat
  | [] => 0
  | x :: r => uptoBulkEntry x + uptoBulkEntries r
def uptoBulkEntry {H : Type} : Lit × DataW H → Nat
  | (.string bytes, d) => bytes.length + uptoBulk d + 1
  | (_, d) => uptoBulk d + 1
 end
def uptoSmall : (H : Type) → List (DataW H) → Bool := fun _ ds => decide (uptoBulkAll ds ≤ 1048576)
def OpenSpec.upto (s : _root_.Go.ChangeSpec) : _root_.Go.OpenSpec := { _root_.Go.OpenSpec.ofChange s with cond := some uptoSmall }

/-- 'laws.FnExactTableAdd', WHERE WHAT IT READS IS OF BULK AT MOST 1048576: true; the input reads as it did. -/
def fnExactTableAddUptoRow : OpenClaim := { program := "ytlboekimnhgfdaagreat", sum := "cb9cf0220f2c49a242bf1117f2bd9ef6ebb522bad10e6a341258f4e8aec74630", func := "loop.example/almanack/laws.FnExactTableAdd", spec := "fnExactTableAdd", inPlace := ["internal/bytealg.abigen_runtime_cmpstring", "internal/abi.NoEscape", "internal/bytealg.MakeNoZero"], unfollowed := true, recurses := true, apart := false, narrowed := true }
def FnExactTableAddUptoSaid : Prop := fnExactTableAddUptoRow.holds Tryz.pinned (OpenSpec.upto fnExactTableAddSpec)

/-- 'laws.FnTableDrop', WHERE WHAT IT READS IS OF BULK AT MOST 1048576: true; the input reads as it did. -/
def fnTableDropUptoRow : OpenClaim := { program := "ytlboekimnhgfdaagreat", sum := "cb9cf0220f2c49a242bf1117f2bd9ef6ebb522bad10e6a341258f4e8aec74630", func := "loop.example/almanack/laws.FnTableDrop", spec := "fnTableDrop", inPlace := ["internal/bytealg.abigen_runtime_cmpstring", "internal/abi.NoEscape", "internal/bytealg.MakeNoZero"], unfollowed := true, recurses := true, apart := false, narrowed := true }
def FnTableDropUptoSaid : Prop := fnTableDropUptoRow.holds Tryz.pinned (OpenSpec.upto fnTableDropSpec)

/-- 'laws.FnTableAsk', WHERE WHAT IT READS IS OF BULK AT MOST 1048576: true; the input reads as it did. -/
def fnTableAskUptoRow : OpenClaim := { program := "ytlboekimnhgfdaagreat", sum := "cb9cf0220f2c49a242bf1117f2bd9ef6ebb522bad10e6a341258f4e8aec74630", func := "loop.example/almanack/laws.FnTableAsk", spec := "fnTableAsk", inPlace := ["internal/bytealg.abigen_runtime_cmpstring", "internal/abi.NoEscape", "internal/bytealg.MakeNoZero"], unfollowed := true, recurses := true, apart := false, narrowed := true }
def FnTableAskUptoSaid : Prop := fnTableAskUptoRow.holds Tryz.pinned (OpenSpec.upto fnTableAskSpec)

/-- 'laws.FnTableKeep', WHERE WHAT IT READS IS OF BULK AT MOST 1048576: true; the input reads as it did. -/
def fnTableKeepUptoRow : OpenClaim := { program := "ytlboekimnhgfdaagreat", sum := "cb9cf0220f2c49a242bf1117f2bd9ef6ebb522bad10e6a341258f4e8aec74630", func := "loop.example/almanack/laws.FnTableKeep", spec := "fnTableKeep", inPlace := ["internal/bytealg.abigen_runtime_cmpstring", "internal/abi.NoEscape", "internal/bytealg.MakeNoZero"], unfollowed := true, recurses := true, apart := false, narrowed := true }
def FnTableKeepUptoSaid : Prop := fnTableKeepUptoRow.holds Tryz.pinned (OpenSpec.upto fnTableKeepSpec)

/-- 'laws.FnTableAdd', WHERE WHAT IT READS IS OF BULK AT MOST 1048576: true; the input reads as it did. -/
def fnTableAddUptoRow : OpenClaim := { program := "ytlboekimnhgfdaagreat", sum := "cb9cf0220f2c49a242bf1117f2bd9ef6ebb522bad10e6a341258f4e8aec74630", func := "loop.example/almanack/laws.FnTableAdd", spec := "fnTableAdd", inPlace := ["internal/bytealg.abigen_runtime_cmpstring", "internal/abi.NoEscape", "internal/bytealg.MakeNoZero"], unfollowed := true, recurses := true, apart := false, narrowed := true }
def FnTableAddUptoSaid : Prop := fnTableAddUptoRow.holds Tryz.pinned (OpenSpec.upto fnTableAddSpec)

/-- 'laws.FnTableOne', WHERE WHAT IT READS IS OF BULK AT MOST 1048576: true; the input reads as it did. -/
def fnTableOneUptoRow : OpenClaim := { program := "ytlboekimnhgfdaagreat", sum := "cb9cf0220f2c49a242bf1117f2bd9ef6ebb522bad10e6a341258f4e8aec74630", func := "loop.example/almanack/laws.FnTableOne", spec := "fnTableOne", inPlace := ["internal/bytealg.abigen_runtime_cmpstring", "internal/abi.NoEscape", "internal/bytealg.MakeNoZero"], unfollowed := true, recurses := true, apart := false, narrowed := true }
def FnTableOneUptoSaid : Prop := fnTableOneUptoRow.holds Tryz.pinned (OpenSpec.upto fnTableOneSpec)

/-- 'laws.FnTableOld', WHERE WHAT IT READS IS OF BULK AT MOST 1048576: true; the input reads as it did. -/
def fnTableOldUptoRow : OpenClaim := { program := "ytlboekimnhgfdaagreat", sum := "cb9cf0220f2c49a242bf1117f2bd9ef6ebb522bad10e6a341258f4e8aec74630", func := "loop.example/almanack/laws.FnTableOld", spec := "fnTableOld", inPlace := ["internal/bytealg.abigen_runtime_cmpstring", "internal/abi.NoEscape", "internal/bytealg.MakeNoZero"], unfollowed := true, recurses := true, apart := false, narrowed := true }
def FnTableOldUptoSaid : Prop := fnTableOldUptoRow.holds Tryz.pinned (OpenSpec.upto fnTableOldSpec)

end Rows
end Go.Proofs.YtlboekimnhgfdaaGreat
