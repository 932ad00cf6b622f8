/-
  No cell of these rows narrows 'for every input' (looked for: loops, veiled, ifaces, maps, wideKeys, modest, calm, conditions, laid).
  DERIVED. THE GIVEN ROWS OF THIS SEAT. 3 by the template 'for every input the law returns true; each argument reads behind the call as it read before'; 0 by the template 'total and deterministic' (their statements: YtbkolpiekcifpaaTotals.lean).
  GIVEN WITH THE SEED: the statements are not yours to turn. If you find one false, say at which input.
  Laid BY PROGRAM, IN A SANDBOX (cutbox-rows.mjs): the forced cells as the released guide's own fill.sh prints them over the translation 8b09c4e76b6c7c9a… (all of the seat's roots in one cut). By AI agents, Wed Nov 11 2026. No macro, syntax, notation, axiom, sorry.
-/
import Derived.Test.YtbkolpiekcifpaaChecked
import GoSem.Claim
import GoSem.ClaimJoined
import GoSem.ClaimMapViews
import Derived.JoinedTies
import Derived.KernelRfl
namespace Go.Proofs.Ytbkolpiekcifpaa
/- THE CELL 'sum', in the pinned program and in every row, IS THE sha256 OF THE DUMP (.gsa) THAT YtbkolpiekcifpaaProg.lean LOADS. Nothing in Lean hashes anything: it is a label: what it is worth is what the hold of that sum in a sandbox is worth. -/
noncomputable def Try.pinned : Pinned := { name := "ytbkolpiekcifpaa", sum := "8b09c4e76b6c7c9a5103b416f55d42ce49cd52c630fcea8f444523cede76814c", checked := Try.checked }
namespace Rows
def none {H : Type} : Left H := { results := [], args := [] }

/-- 'laws.FnExactIndex': WHATEVER THE INPUT: true; the input reads as it did. -/
def fnExactIndexSpec : ChangeSpec := { name := "fnExactIndex", fn := fun _ => fun
  | [d] => { results := [.lit (.bool true)], args := [d] }
  | _ => none }
def fnExactIndexRow : OpenClaim := { program := "ytbkolpiekcifpaa", sum := "8b09c4e76b6c7c9a5103b416f55d42ce49cd52c630fcea8f444523cede76814c", func := "loop.example/almanack/laws.FnExactIndex", spec := "fnExactIndex", inPlace := ["internal/bytealg.abigen_runtime_cmpstring"], unfollowed := true, recurses := true, plainKeys := false, apart := false }
def FnExactIndexSaid : Prop := fnExactIndexRow.holds Try.pinned (OpenSpec.ofChange fnExactIndexSpec)

/-- ITS FALSE NEIGHBOUR: 'it returns false'. Refute it at one input. -/
def fnExactIndexWrong : ChangeSpec := { name := "fnExactIndex", fn := fun _ => fun
  | [d] => { results := [.lit (.bool false)], args := [d] }
  | _ => none }
def FnExactIndexWrongFalsely : Prop := fnExactIndexRow.holds Try.pinned (OpenSpec.ofChange fnExactIndexWrong)

/-- 'laws.FnIndex': WHATEVER THE INPUT: true; the input reads as it did. -/
def fnIndexSpec : ChangeSpec := { name := "fnIndex", fn := fun _ => fun
  | [d] => { results := [.lit (.bool true)], args := [d] }
  | _ => none }
def fnIndexRow : OpenClaim := { program := "ytbkolpiekcifpaa", sum := "8b09c4e76b6c7c9a5103b416f55d42ce49cd52c630fcea8f444523cede76814c", func := "loop.example/almanack/laws.FnIndex", spec := "fnIndex", inPlace := ["internal/bytealg.abigen_runtime_cmpstring"], unfollowed := true, recurses := true, plainKeys := false, apart := false }
def FnIndexSaid : Prop := fnIndexRow.holds Try.pinned (OpenSpec.ofChange fnIndexSpec)

/-- ITS FALSE NEIGHBOUR: 'it returns false'. Refute it at one input. -/
def fnIndexWrong : ChangeSpec := { name := "fnIndex", fn := fun _ => fun
  | [d] => { results := [.lit (.bool false)], args := [d] }
  | _ => none }
def FnIndexWrongFalsely : Prop := fnIndexRow.holds Try.pinned (OpenSpec.ofChange fnIndexWrong)

/-- 'laws.FnIndexWords': WHATEVER THE INPUT: true; the input reads as it did. -/
def fnIndexWordsSpec : ChangeSpec := { name := "fnIndexWords", fn := fun _ => fun
  | [d] => { results := [.lit (.bool true)], args := [d] }
  | _ => none }
def fnIndexWordsRow : OpenClaim := { program := "ytbkolpiekcifpaa", sum := "8b09c4e76b6c7c9a5103b416f55d42ce49cd52c630fcea8f444523cede76814c", func := "loop.example/almanack/laws.FnIndexWords", spec := "fnIndexWords", unfollowed := true, recurses := true, plainKeys := false, apart := false }
def FnIndexWordsSaid : Prop := fnIndexWordsRow.holds Try.pinned (OpenSpec.ofChange fnIndexWordsSpec)

/-- ITS FALSE NEIGHBOUR: 'it returns false'. Refute it at one input. -/
def fnIndexWordsWrong : ChangeSpec := { name := "fnIndexWords", fn := fun _ => fun
  | [d] => { results := [.lit (.bool false)], args := [d] }
  | _ => none }
def FnIndexWordsWrongFalsely : Prop := fnIndexWordsRow.holds Try.pinned (OpenSpec.ofChange fnIndexWordsWrong)

/- THE SECOND FORM. 'bulk': how many values and letters a reading holds, each counted each time it is reached (what is shared counts as often as it is met; a slice's spare places count too). A statement '..UptoSaid' is the law's where the arguments, and the package variables that the reading takes, are together of bulk at most 1048576: NARROWER than '..Said'. Prove '..Said' where nothing that the law and all that it calls make is longer than what came in: it says more and counts as full. Else prove '..UptoSaid'. A law counts once. -/
mutual
def uptoBulk {H : Type} : DataW H → Nat
  | .lit (.string bytes) => bytes.length + 1
  | .lit _ => 1
  | .nil => 1
  | .ptr d => uptoBulk d + 1
  | .slice elems spare => uptoBulkAll elems + uptoBulkAll spare + 1
  | .agg parts => uptoBulkAll parts + 1
  | .iface _ d => uptoBulk d + 1
  | .map entries => uptoBulkEntries entries + 1
  | .held _ => 1
def uptoBulkAll {H : Type} : List (DataW H) → Nat
  | [] => 0
  | d :: r => uptoBulk d + uptoBulkAll r
def uptoBulkEntries {H : Type} : List (Lit × DataW H) → Nat
  | [] => 0
  | x :: r => uptoBulkEntry x + uptoBulkEntries r
def uptoBulkEntry {H : Type} : Lit × DataW H → Nat
  | (.string bytes, d) => bytes.length + uptoBulk d + 1
  | (_, d) => uptoBulk d + 1
 end
def uptoSmall : (H : Type) → List (DataW H) → Bool := fun _ ds => decide (uptoBulkAll ds ≤ 1048576)
def OpenSpec.upto (s : _root_.Go.ChangeSpec) : _root_.Go.OpenSpec := { _root_.Go.OpenSpec.ofChange s with cond := some uptoSmall }

/-- 'laws.FnExactIndex', WHERE WHAT IT READS IS OF BULK AT MOST 1048576: true; the input reads as it did. -/
def fnExactIndexUptoRow : OpenClaim := { program := "ytbkolpiekcifpaa", sum := "8b09c4e76b6c7c9a5103b416f55d42ce49cd52c630fcea8f444523cede76814c", func := "loop.example/almanack/laws.FnExactIndex", spec := "fnExactIndex", inPlace := ["internal/bytealg.abigen_runtime_cmpstring"], unfollowed := true, recurses := true, plainKeys := false, apart := false, narrowed := true }
def FnExactIndexUptoSaid : Prop := fnExactIndexUptoRow.holds Try.pinned (OpenSpec.upto fnExactIndexSpec)

/-- 'laws.FnIndex', WHERE WHAT IT READS IS OF BULK AT MOST 1048576: true; the input reads as it did. -/
def fnIndexUptoRow : OpenClaim := { program := "ytbkolpiekcifpaa", sum := "8b09c4e76b6c7c9a5103b416f55d42ce49cd52c630fcea8f444523cede76814c", func := "loop.example/almanack/laws.FnIndex", spec := "fnIndex", inPlace := ["internal/bytealg.abigen_runtime_cmpstring"], unfollowed := true, recurses := true, plainKeys := false, apart := false, narrowed := true }
def FnIndexUptoSaid : Prop := fnIndexUptoRow.holds Try.pinned (OpenSpec.upto fnIndexSpec)

/-- 'laws.FnIndexWords', WHERE WHAT IT READS IS OF BULK AT MOST 1048576: true; the input reads as it did. -/
def fnIndexWordsUptoRow : OpenClaim := { program := "ytbkolpiekcifpaa", sum := "8b09c4e76b6c7c9a5103b416f55d42ce49cd52c630fcea8f444523cede76814c", func := "loop.example/almanack/laws.FnIndexWords", spec := "fnIndexWords", unfollowed := true, recurses := true, plainKeys := false, apart := false, narrowed := true }
def FnIndexWordsUptoSaid : Prop := fnIndexWordsUptoRow.holds Try.pinned (OpenSpec.upto fnIndexWordsSpec)

end Rows
end Go.Proofs.Ytbkolpiekcifpaa
