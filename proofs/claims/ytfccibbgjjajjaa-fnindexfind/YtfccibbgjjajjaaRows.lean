/-
  No cell of these rows narrows 'for every input' (looked for: loops, veiled, ifaces, maps, wideKeys, modest, calm, conditions, laid).
  DERIVED. THE GIVEN ROWS OF THIS SEAT. 6 by the template 'for every input the law returns true; each argument reads behind the call as it read before'; 0 by the template 'total and deterministic' (their statements: YtfccibbgjjajjaaTotals.lean).
  GIVEN WITH THE SEED: the statements are not yours to turn. If you find one false, say at which input.
  Laid BY PROGRAM, IN A SANDBOX (cutbox-rows.mjs): the forced cells as the released guide's own fill.sh prints them over the translation 58b5c289cf67a829… (all of the seat's roots in one cut). By AI agents, Wed Nov 11 2026. No macro, syntax, notation, axiom, sorry.
-/
import Derived.Test.YtfccibbgjjajjaaChecked
import GoSem.Claim
import GoSem.ClaimJoined
import GoSem.ClaimMapViews
import Derived.JoinedTies
import Derived.KernelRfl
namespace Go.Proofs.Ytfccibbgjjajjaa
/- THE CELL 'sum', in the pinned program and in every row, IS THE sha256 OF THE DUMP (.gsa) THAT YtfccibbgjjajjaaProg.lean LOADS. Nothing in Lean hashes anything: it is a label: what it is worth is what the hold of that sum in a sandbox is worth. -/
noncomputable def Try.pinned : Pinned := { name := "ytfccibbgjjajjaa", sum := "58b5c289cf67a8298248ba4f0a920cb135ca1ea06a496824ac8c145581f99a3d", checked := Try.checked }
namespace Rows
def none {H : Type} : Left H := { results := [], args := [] }

/-- 'laws.FnExactIndex': WHATEVER THE INPUT: true; the input reads as it did. -/
def fnExactIndexSpec : ChangeSpec := { name := "fnExactIndex", fn := fun _ => fun
  | [d] => { results := [.lit (.bool true)], args := [d] }
  | _ => none }
def fnExactIndexRow : OpenClaim := { program := "ytfccibbgjjajjaa", sum := "58b5c289cf67a8298248ba4f0a920cb135ca1ea06a496824ac8c145581f99a3d", func := "loop.example/almanack/laws.FnExactIndex", spec := "fnExactIndex", inPlace := ["internal/bytealg.abigen_runtime_cmpstring"], unfollowed := true, recurses := true, plainKeys := false, apart := false }
def FnExactIndexSaid : Prop := fnExactIndexRow.holds Try.pinned (OpenSpec.ofChange fnExactIndexSpec)

/-- ITS FALSE NEIGHBOUR: 'it returns false'. Refute it at one input. -/
def fnExactIndexWrong : ChangeSpec := { name := "fnExactIndex", fn := fun _ => fun
  | [d] => { results := [.lit (.bool false)], args := [d] }
  | _ => none }
def FnExactIndexWrongFalsely : Prop := fnExactIndexRow.holds Try.pinned (OpenSpec.ofChange fnExactIndexWrong)

/-- 'laws.FnExactIndexFind': WHATEVER THE INPUT: true; the input reads as it did. -/
def fnExactIndexFindSpec : ChangeSpec := { name := "fnExactIndexFind", fn := fun _ => fun
  | [d1, d2] => { results := [.lit (.bool true)], args := [d1, d2] }
  | _ => none }
def fnExactIndexFindRow : OpenClaim := { program := "ytfccibbgjjajjaa", sum := "58b5c289cf67a8298248ba4f0a920cb135ca1ea06a496824ac8c145581f99a3d", func := "loop.example/almanack/laws.FnExactIndexFind", spec := "fnExactIndexFind", unfollowed := true, recurses := true, plainKeys := false, apart := false }
def FnExactIndexFindSaid : Prop := fnExactIndexFindRow.holds Try.pinned (OpenSpec.ofChange fnExactIndexFindSpec)

/-- ITS FALSE NEIGHBOUR: 'it returns false'. Refute it at one input. -/
def fnExactIndexFindWrong : ChangeSpec := { name := "fnExactIndexFind", fn := fun _ => fun
  | [d1, d2] => { results := [.lit (.bool false)], args := [d1, d2] }
  | _ => none }
def FnExactIndexFindWrongFalsely : Prop := fnExactIndexFindRow.holds Try.pinned (OpenSpec.ofChange fnExactIndexFindWrong)

/-- 'laws.FnExactIndexWords': WHATEVER THE INPUT: true; the input reads as it did. -/
def fnExactIndexWordsSpec : ChangeSpec := { name := "fnExactIndexWords", fn := fun _ => fun
  | [d1, d2, d3] => { results := [.lit (.bool true)], args := [d1, d2, d3] }
  | _ => none }
def fnExactIndexWordsRow : OpenClaim := { program := "ytfccibbgjjajjaa", sum := "58b5c289cf67a8298248ba4f0a920cb135ca1ea06a496824ac8c145581f99a3d", func := "loop.example/almanack/laws.FnExactIndexWords", spec := "fnExactIndexWords", unfollowed := true, recurses := true, plainKeys := false, apart := false }
def FnExactIndexWordsSaid : Prop := fnExactIndexWordsRow.holds Try.pinned (OpenSpec.ofChange fnExactIndexWordsSpec)

/-- ITS FALSE NEIGHBOUR: 'it returns false'. Refute it at one input. -/
def fnExactIndexWordsWrong : ChangeSpec := { name := "fnExactIndexWords", fn := fun _ => fun
  | [d1, d2, d3] => { results := [.lit (.bool false)], args := [d1, d2, d3] }
  | _ => none }
def FnExactIndexWordsWrongFalsely : Prop := fnExactIndexWordsRow.holds Try.pinned (OpenSpec.ofChange fnExactIndexWordsWrong)

/-- 'laws.FnIndex': WHATEVER THE INPUT: true; the input reads as it did. -/
def fnIndexSpec : ChangeSpec := { name := "fnIndex", fn := fun _ => fun
  | [d] => { results := [.lit (.bool true)], args := [d] }
  | _ => none }
def fnIndexRow : OpenClaim := { program := "ytfccibbgjjajjaa", sum := "58b5c289cf67a8298248ba4f0a920cb135ca1ea06a496824ac8c145581f99a3d", func := "loop.example/almanack/laws.FnIndex", spec := "fnIndex", inPlace := ["internal/bytealg.abigen_runtime_cmpstring"], unfollowed := true, recurses := true, plainKeys := false, apart := false }
def FnIndexSaid : Prop := fnIndexRow.holds Try.pinned (OpenSpec.ofChange fnIndexSpec)

/-- ITS FALSE NEIGHBOUR: 'it returns false'. Refute it at one input. -/
def fnIndexWrong : ChangeSpec := { name := "fnIndex", fn := fun _ => fun
  | [d] => { results := [.lit (.bool false)], args := [d] }
  | _ => none }
def FnIndexWrongFalsely : Prop := fnIndexRow.holds Try.pinned (OpenSpec.ofChange fnIndexWrong)

/-- 'laws.FnIndexFind': WHATEVER THE INPUT: true; the input reads as it did. -/
def fnIndexFindSpec : ChangeSpec := { name := "fnIndexFind", fn := fun _ => fun
  | [d] => { results := [.lit (.bool true)], args := [d] }
  | _ => none }
def fnIndexFindRow : OpenClaim := { program := "ytfccibbgjjajjaa", sum := "58b5c289cf67a8298248ba4f0a920cb135ca1ea06a496824ac8c145581f99a3d", func := "loop.example/almanack/laws.FnIndexFind", spec := "fnIndexFind", unfollowed := true, recurses := true, plainKeys := false, apart := false }
def FnIndexFindSaid : Prop := fnIndexFindRow.holds Try.pinned (OpenSpec.ofChange fnIndexFindSpec)

/-- ITS FALSE NEIGHBOUR: 'it returns false'. Refute it at one input. -/
def fnIndexFindWrong : ChangeSpec := { name := "fnIndexFind", fn := fun _ => fun
  | [d] => { results := [.lit (.bool false)], args := [d] }
  | _ => none }
def FnIndexFindWrongFalsely : Prop := fnIndexFindRow.holds Try.pinned (OpenSpec.ofChange fnIndexFindWrong)

/-- 'laws.FnIndexWords': WHATEVER THE INPUT: true; the input reads as it did. -/
def fnIndexWordsSpec : ChangeSpec := { name := "fnIndexWords", fn := fun _ => fun
  | [d] => { results := [.lit (.bool true)], args := [d] }
  | _ => none }
def fnIndexWordsRow : OpenClaim := { program := "ytfccibbgjjajjaa", sum := "58b5c289cf67a8298248ba4f0a920cb135ca1ea06a496824ac8c145581f99a3d", func := "loop.example/almanack/laws.FnIndexWords", spec := "fnIndexWords", unfollowed := true, recurses := true, plainKeys := false, apart := false }
def FnIndexWordsSaid : Prop := fnIndexWordsRow.holds Try.pinned (OpenSpec.ofChange fnIndexWordsSpec)

/-- ITS FALSE NEIGHBOUR: 'it returns false'. Refute it at one input. -/
def fnIndexWordsWrong : ChangeSpec := { name := "fnIndexWords", fn := fun _ => fun
  | [d] => { results := [.lit (.bool false)], args := [d] }
  | _ => none }
def FnIndexWordsWrongFalsely : Prop := fnIndexWordsRow.holds Try.pinned (OpenSpec.ofChange fnIndexWordsWrong)

/- THE SECOND FORM. 'bulk': how many values and letters a reading holds, each counted each time it is reached (what is shared counts as often as it is met; a slice's spare places count too). A statement '..UptoSaid' is the law's where the arguments, and the package variables that the reading takes, are together of bulk at most 1048576: NARROWER than '..Said'. Prove '..Said' where nothing that the law and all that it calls make is longer than what came in: it says more and counts as full. Else prove '..UptoSaid'. A law counts once. -/
mutual
def uptoBulk {H : Type} : DataW H → Nat
  | .lit (.string bytes) => bytes.length + 1
  | .lit _ => 1
  | .nil => 1
  | .ptr d => uptoBulk d + 1
  | .slice elems spare => uptoBulkAll elems + uptoBulkAll spare + 1
  | .agg parts => uptoBulkAll parts + 1
  | .iface _ d => uptoBulk d + 1
  | .map entries => uptoBulkEntries entries + 1
  | .held _ => 1
def uptoBulkAll {H : Type} : List (DataW H) → Nat
  | [] => 0
  | d :: r => uptoBulk d + uptoBulkAll r
def uptoBulkEntries {H : Type} : List (Lit × DataW H) → Nat
  | [] => 0
  | x :: r => uptoBulkEntry x + uptoBulkEntries r
def uptoBulkEntry {H : Type} : Lit × DataW H → Nat
  | (.string bytes, d) => bytes.length + uptoBulk d + 1
  | (_, d) => uptoBulk d + 1
 end
def uptoSmall : (H : Type) → List (DataW H) → Bool := fun _ ds => decide (uptoBulkAll ds ≤ 1048576)
def OpenSpec.upto (s : _root_.Go.ChangeSpec) : _root_.Go.OpenSpec := { _root_.Go.OpenSpec.ofChange s with cond := some uptoSmall }

/-- 'laws.FnExactIndex', WHERE WHAT IT READS IS OF BULK AT MOST 1048576: true; the input reads as it did. -/
def fnExactIndexUptoRow : OpenClaim := { program := "ytfccibbgjjajjaa", sum := "58b5c289cf67a8298248ba4f0a920cb135ca1ea06a496824ac8c145581f99a3d", func := "loop.example/almanack/laws.FnExactIndex", spec := "fnExactIndex", inPlace := ["internal/bytealg.abigen_runtime_cmpstring"], unfollowed := true, recurses := true, plainKeys := false, apart := false, narrowed := true }
def FnExactIndexUptoSaid : Prop := fnExactIndexUptoRow.holds Try.pinned (OpenSpec.upto fnExactIndexSpec)

/-- 'laws.FnExactIndexFind', WHERE WHAT IT READS IS OF BULK AT MOST 1048576: true; the input reads as it did. -/
def fnExactIndexFindUptoRow : OpenClaim := { program := "ytfccibbgjjajjaa", sum := "58b5c289cf67a8298248ba4f0a920cb135ca1ea06a496824ac8c145581f99a3d", func := "loop.example/almanack/laws.FnExactIndexFind", spec := "fnExactIndexFind", unfollowed := true, recurses := true, plainKeys := false, apart := false, narrowed := true }
def FnExactIndexFindUptoSaid : Prop := fnExactIndexFindUptoRow.holds Try.pinned (OpenSpec.upto fnExactIndexFindSpec)

/-- 'laws.FnExactIndexWords', WHERE WHAT IT READS IS OF BULK AT MOST 1048576: true; the input reads as it did. -/
def fnExactIndexWordsUptoRow : OpenClaim := { program := "ytfccibbgjjajjaa", sum := "58b5c289cf67a8298248ba4f0a920cb135ca1ea06a496824ac8c145581f99a3d", func := "loop.example/almanack/laws.FnExactIndexWords", spec := "fnExactIndexWords", unfollowed := true, recurses := true, plainKeys := false, apart := false, narrowed := true }
def FnExactIndexWordsUptoSaid : Prop := fnExactIndexWordsUptoRow.holds Try.pinned (OpenSpec.upto fnExactIndexWordsSpec)

/-- 'laws.FnIndex', WHERE WHAT IT READS IS OF BULK AT MOST 1048576: true; the input reads as it did. -/
def fnIndexUptoRow : OpenClaim := { program := "ytfccibbgjjajjaa", sum := "58b5c289cf67a8298248ba4f0a920cb135ca1ea06a496824ac8c145581f99a3d", func := "loop.example/almanack/laws.FnIndex", spec := "fnIndex", inPlace := ["internal/bytealg.abigen_runtime_cmpstring"], unfollowed := true, recurses := true, plainKeys := false, apart := false, narrowed := true }
def FnIndexUptoSaid : Prop := fnIndexUptoRow.holds Try.pinned (OpenSpec.upto fnIndexSpec)

/-- 'laws.FnIndexFind', WHERE WHAT IT READS IS OF BULK AT MOST 1048576: true; the input reads as it did. -/
def fnIndexFindUptoRow : OpenClaim := { program := "ytfccibbgjjajjaa", sum := "58b5c289cf67a8298248ba4f0a920cb135ca1ea06a496824ac8c145581f99a3d", func := "loop.example/almanack/laws.FnIndexFind", spec := "fnIndexFind", unfollowed := true, recurses := true, plainKeys := false, apart := false, narrowed := true }
def FnIndexFindUptoSaid : Prop := fnIndexFindUptoRow.holds Try.pinned (OpenSpec.upto fnIndexFindSpec)

/-- 'laws.FnIndexWords', WHERE WHAT IT READS IS OF BULK AT MOST 1048576: true; the input reads as it did. -/
def fnIndexWordsUptoRow : OpenClaim := { program := "ytfccibbgjjajjaa", sum := "58b5c289cf67a8298248ba4f0a920cb135ca1ea06a496824ac8c145581f99a3d", func := "loop.example/almanack/laws.FnIndexWords", spec := "fnIndexWords", unfollowed := true, recurses := true, plainKeys := false, apart := false, narrowed := true }
def FnIndexWordsUptoSaid : Prop := fnIndexWordsUptoRow.holds Try.pinned (OpenSpec.upto fnIndexWordsSpec)

end Rows
end Go.Proofs.Ytfccibbgjjajjaa
