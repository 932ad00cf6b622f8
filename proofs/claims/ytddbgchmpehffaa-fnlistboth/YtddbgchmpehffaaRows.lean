/-
  No cell of these rows narrows 'for every input' (looked for: loops, veiled, ifaces, maps, wideKeys, modest, calm, conditions, laid).
  DERIVED. THE GIVEN ROWS OF THIS SEAT. 7 by the template 'for every input the law returns true; each argument reads behind the call as it read before'; 0 by the template 'total and deterministic' (their statements: YtddbgchmpehffaaTotals.lean).
  GIVEN WITH THE SEED: the statements are not yours to turn. If you find one false, say at which input.
  Laid BY PROGRAM, IN A SANDBOX (cutbox-rows.mjs): the forced cells as the released guide's own fill.sh prints them over the translation 1acb396dae069eec… (all of the seat's roots in one cut). By AI agents, Wed Nov 11 2026. No macro, syntax, notation, axiom, sorry.
-/
import Derived.Test.YtddbgchmpehffaaChecked
import GoSem.Claim
import GoSem.ClaimJoined
import GoSem.ClaimMapViews
import Derived.JoinedTies
import Derived.KernelRfl
namespace Go.Proofs.Ytddbgchmpehffaa
/- THE CELL 'sum', in the pinned program and in every row, IS THE sha256 OF THE DUMP (.gsa) THAT YtddbgchmpehffaaProg.lean LOADS. Nothing in Lean hashes anything: it is a label: what it is worth is what the hold of that sum in a sandbox is worth. -/
noncomputable def Try.pinned : Pinned := { name := "ytddbgchmpehffaa", sum := "1acb396dae069eec9cd84f97cbad58dc08ab1f0a0f031cd44826a2baa3414332", checked := Try.checked }
namespace Rows
def none {H : Type} : Left H := { results := [], args := [] }

/-- 'laws.FnListBoth': WHATEVER THE INPUT: true; the input reads as it did. -/
def fnListBothSpec : ChangeSpec := { name := "fnListBoth", fn := fun _ => fun
  | [d] => { results := [.lit (.bool true)], args := [d] }
  | _ => none }
def fnListBothRow : OpenClaim := { program := "ytddbgchmpehffaa", sum := "1acb396dae069eec9cd84f97cbad58dc08ab1f0a0f031cd44826a2baa3414332", func := "loop.example/almanack/laws.FnListBoth", spec := "fnListBoth", unfollowed := true, recurses := true, apart := false }
def FnListBothSaid : Prop := fnListBothRow.holds Try.pinned (OpenSpec.ofChange fnListBothSpec)

/-- ITS FALSE NEIGHBOUR: 'it returns false'. Refute it at one input. -/
def fnListBothWrong : ChangeSpec := { name := "fnListBoth", fn := fun _ => fun
  | [d] => { results := [.lit (.bool false)], args := [d] }
  | _ => none }
def FnListBothWrongFalsely : Prop := fnListBothRow.holds Try.pinned (OpenSpec.ofChange fnListBothWrong)

/-- 'laws.FnListEither': WHATEVER THE INPUT: true; the input reads as it did. -/
def fnListEitherSpec : ChangeSpec := { name := "fnListEither", fn := fun _ => fun
  | [d] => { results := [.lit (.bool true)], args := [d] }
  | _ => none }
def fnListEitherRow : OpenClaim := { program := "ytddbgchmpehffaa", sum := "1acb396dae069eec9cd84f97cbad58dc08ab1f0a0f031cd44826a2baa3414332", func := "loop.example/almanack/laws.FnListEither", spec := "fnListEither", unfollowed := true, recurses := true, apart := false }
def FnListEitherSaid : Prop := fnListEitherRow.holds Try.pinned (OpenSpec.ofChange fnListEitherSpec)

/-- ITS FALSE NEIGHBOUR: 'it returns false'. Refute it at one input. -/
def fnListEitherWrong : ChangeSpec := { name := "fnListEither", fn := fun _ => fun
  | [d] => { results := [.lit (.bool false)], args := [d] }
  | _ => none }
def FnListEitherWrongFalsely : Prop := fnListEitherRow.holds Try.pinned (OpenSpec.ofChange fnListEitherWrong)

/-- 'laws.FnListLess': WHATEVER THE INPUT: true; the input reads as it did. -/
def fnListLessSpec : ChangeSpec := { name := "fnListLess", fn := fun _ => fun
  | [d] => { results := [.lit (.bool true)], args := [d] }
  | _ => none }
def fnListLessRow : OpenClaim := { program := "ytddbgchmpehffaa", sum := "1acb396dae069eec9cd84f97cbad58dc08ab1f0a0f031cd44826a2baa3414332", func := "loop.example/almanack/laws.FnListLess", spec := "fnListLess", unfollowed := true, recurses := true, apart := false }
def FnListLessSaid : Prop := fnListLessRow.holds Try.pinned (OpenSpec.ofChange fnListLessSpec)

/-- ITS FALSE NEIGHBOUR: 'it returns false'. Refute it at one input. -/
def fnListLessWrong : ChangeSpec := { name := "fnListLess", fn := fun _ => fun
  | [d] => { results := [.lit (.bool false)], args := [d] }
  | _ => none }
def FnListLessWrongFalsely : Prop := fnListLessRow.holds Try.pinned (OpenSpec.ofChange fnListLessWrong)

/-- 'laws.FnExactListOk': WHATEVER THE INPUT: true; the input reads as it did. -/
def fnExactListOkSpec : ChangeSpec := { name := "fnExactListOk", fn := fun _ => fun
  | [d] => { results := [.lit (.bool true)], args := [d] }
  | _ => none }
def fnExactListOkRow : OpenClaim := { program := "ytddbgchmpehffaa", sum := "1acb396dae069eec9cd84f97cbad58dc08ab1f0a0f031cd44826a2baa3414332", func := "loop.example/almanack/laws.FnExactListOk", spec := "fnExactListOk", apart := false }
def FnExactListOkSaid : Prop := fnExactListOkRow.holds Try.pinned (OpenSpec.ofChange fnExactListOkSpec)

/-- ITS FALSE NEIGHBOUR: 'it returns false'. Refute it at one input. -/
def fnExactListOkWrong : ChangeSpec := { name := "fnExactListOk", fn := fun _ => fun
  | [d] => { results := [.lit (.bool false)], args := [d] }
  | _ => none }
def FnExactListOkWrongFalsely : Prop := fnExactListOkRow.holds Try.pinned (OpenSpec.ofChange fnExactListOkWrong)

/-- 'laws.FnExactListBoth': WHATEVER THE INPUT: true; the input reads as it did. -/
def fnExactListBothSpec : ChangeSpec := { name := "fnExactListBoth", fn := fun _ => fun
  | [d1, d2] => { results := [.lit (.bool true)], args := [d1, d2] }
  | _ => none }
def fnExactListBothRow : OpenClaim := { program := "ytddbgchmpehffaa", sum := "1acb396dae069eec9cd84f97cbad58dc08ab1f0a0f031cd44826a2baa3414332", func := "loop.example/almanack/laws.FnExactListBoth", spec := "fnExactListBoth", unfollowed := true, recurses := true, apart := false }
def FnExactListBothSaid : Prop := fnExactListBothRow.holds Try.pinned (OpenSpec.ofChange fnExactListBothSpec)

/-- ITS FALSE NEIGHBOUR: 'it returns false'. Refute it at one input. -/
def fnExactListBothWrong : ChangeSpec := { name := "fnExactListBoth", fn := fun _ => fun
  | [d1, d2] => { results := [.lit (.bool false)], args := [d1, d2] }
  | _ => none }
def FnExactListBothWrongFalsely : Prop := fnExactListBothRow.holds Try.pinned (OpenSpec.ofChange fnExactListBothWrong)

/-- 'laws.FnExactListEither': WHATEVER THE INPUT: true; the input reads as it did. -/
def fnExactListEitherSpec : ChangeSpec := { name := "fnExactListEither", fn := fun _ => fun
  | [d1, d2] => { results := [.lit (.bool true)], args := [d1, d2] }
  | _ => none }
def fnExactListEitherRow : OpenClaim := { program := "ytddbgchmpehffaa", sum := "1acb396dae069eec9cd84f97cbad58dc08ab1f0a0f031cd44826a2baa3414332", func := "loop.example/almanack/laws.FnExactListEither", spec := "fnExactListEither", unfollowed := true, recurses := true, apart := false }
def FnExactListEitherSaid : Prop := fnExactListEitherRow.holds Try.pinned (OpenSpec.ofChange fnExactListEitherSpec)

/-- ITS FALSE NEIGHBOUR: 'it returns false'. Refute it at one input. -/
def fnExactListEitherWrong : ChangeSpec := { name := "fnExactListEither", fn := fun _ => fun
  | [d1, d2] => { results := [.lit (.bool false)], args := [d1, d2] }
  | _ => none }
def FnExactListEitherWrongFalsely : Prop := fnExactListEitherRow.holds Try.pinned (OpenSpec.ofChange fnExactListEitherWrong)

/-- 'laws.FnExactListLess': WHATEVER THE INPUT: true; the input reads as it did. -/
def fnExactListLessSpec : ChangeSpec := { name := "fnExactListLess", fn := fun _ => fun
  | [d1, d2] => { results := [.lit (.bool true)], args := [d1, d2] }
  | _ => none }
def fnExactListLessRow : OpenClaim := { program := "ytddbgchmpehffaa", sum := "1acb396dae069eec9cd84f97cbad58dc08ab1f0a0f031cd44826a2baa3414332", func := "loop.example/almanack/laws.FnExactListLess", spec := "fnExactListLess", unfollowed := true, recurses := true, apart := false }
def FnExactListLessSaid : Prop := fnExactListLessRow.holds Try.pinned (OpenSpec.ofChange fnExactListLessSpec)

/-- ITS FALSE NEIGHBOUR: 'it returns false'. Refute it at one input. -/
def fnExactListLessWrong : ChangeSpec := { name := "fnExactListLess", fn := fun _ => fun
  | [d1, d2] => { results := [.lit (.bool false)], args := [d1, d2] }
  | _ => none }
def FnExactListLessWrongFalsely : Prop := fnExactListLessRow.holds Try.pinned (OpenSpec.ofChange fnExactListLessWrong)

/- THE SECOND FORM. 'bulk': how many values and letters a reading holds, each counted each time it is reached (what is shared counts as often as it is met; a slice's spare places count too). A statement '..UptoSaid' is the law's where the arguments, and the package variables that the reading takes, are together of bulk at most 1048576: NARROWER than '..Said'. Prove '..Said' where nothing that the law and all that it calls make is longer than what came in: it says more and counts as full. Else prove '..UptoSaid'. A law counts once. -/
mutual
def uptoBulk {H : Type} : DataW H → Nat
  | .lit (.string bytes) => bytes.length + 1
  | .lit _ => 1
  | .nil => 1
  | .ptr d => uptoBulk d + 1
  | .slice elems spare => uptoBulkAll elems + uptoBulkAll spare + 1
  | .agg parts => uptoBulkAll parts + 1
  | .iface _ d => uptoBulk d + 1
  | .map entries => uptoBulkEntries entries + 1
  | .held _ => 1
def uptoBulkAll {H : Type} : List (DataW H) → Nat
  | [] => 0
  | d :: r => uptoBulk d + uptoBulkAll r
def uptoBulkEntries {H : Type} : List (Lit × DataW H) → Nat
  | [] => 0
  | x :: r => uptoBulkEntry x + uptoBulkEntries r
def uptoBulkEntry {H : Type} : Lit × DataW H → Nat
  | (.string bytes, d) => bytes.length + uptoBulk d + 1
  | (_, d) => uptoBulk d + 1
 end
def uptoSmall : (H : Type) → List (DataW H) → Bool := fun _ ds => decide (uptoBulkAll ds ≤ 1048576)
def OpenSpec.upto (s : _root_.Go.ChangeSpec) : _root_.Go.OpenSpec := { _root_.Go.OpenSpec.ofChange s with cond := some uptoSmall }

/-- 'laws.FnListBoth', WHERE WHAT IT READS IS OF BULK AT MOST 1048576: true; the input reads as it did. -/
def fnListBothUptoRow : OpenClaim := { program := "ytddbgchmpehffaa", sum := "1acb396dae069eec9cd84f97cbad58dc08ab1f0a0f031cd44826a2baa3414332", func := "loop.example/almanack/laws.FnListBoth", spec := "fnListBoth", unfollowed := true, recurses := true, apart := false, narrowed := true }
def FnListBothUptoSaid : Prop := fnListBothUptoRow.holds Try.pinned (OpenSpec.upto fnListBothSpec)

/-- 'laws.FnListEither', WHERE WHAT IT READS IS OF BULK AT MOST 1048576: true; the input reads as it did. -/
def fnListEitherUptoRow : OpenClaim := { program := "ytddbgchmpehffaa", sum := "1acb396dae069eec9cd84f97cbad58dc08ab1f0a0f031cd44826a2baa3414332", func := "loop.example/almanack/laws.FnListEither", spec := "fnListEither", unfollowed := true, recurses := true, apart := false, narrowed := true }
def FnListEitherUptoSaid : Prop := fnListEitherUptoRow.holds Try.pinned (OpenSpec.upto fnListEitherSpec)

/-- 'laws.FnListLess', WHERE WHAT IT READS IS OF BULK AT MOST 1048576: true; the input reads as it did. -/
def fnListLessUptoRow : OpenClaim := { program := "ytddbgchmpehffaa", sum := "1acb396dae069eec9cd84f97cbad58dc08ab1f0a0f031cd44826a2baa3414332", func := "loop.example/almanack/laws.FnListLess", spec := "fnListLess", unfollowed := true, recurses := true, apart := false, narrowed := true }
def FnListLessUptoSaid : Prop := fnListLessUptoRow.holds Try.pinned (OpenSpec.upto fnListLessSpec)

/-- 'laws.FnExactListOk', WHERE WHAT IT READS IS OF BULK AT MOST 1048576: true; the input reads as it did. -/
def fnExactListOkUptoRow : OpenClaim := { program := "ytddbgchmpehffaa", sum := "1acb396dae069eec9cd84f97cbad58dc08ab1f0a0f031cd44826a2baa3414332", func := "loop.example/almanack/laws.FnExactListOk", spec := "fnExactListOk", apart := false, narrowed := true }
def FnExactListOkUptoSaid : Prop := fnExactListOkUptoRow.holds Try.pinned (OpenSpec.upto fnExactListOkSpec)

/-- 'laws.FnExactListBoth', WHERE WHAT IT READS IS OF BULK AT MOST 1048576: true; the input reads as it did. -/
def fnExactListBothUptoRow : OpenClaim := { program := "ytddbgchmpehffaa", sum := "1acb396dae069eec9cd84f97cbad58dc08ab1f0a0f031cd44826a2baa3414332", func := "loop.example/almanack/laws.FnExactListBoth", spec := "fnExactListBoth", unfollowed := true, recurses := true, apart := false, narrowed := true }
def FnExactListBothUptoSaid : Prop := fnExactListBothUptoRow.holds Try.pinned (OpenSpec.upto fnExactListBothSpec)

/-- 'laws.FnExactListEither', WHERE WHAT IT READS IS OF BULK AT MOST 1048576: true; the input reads as it did. -/
def fnExactListEitherUptoRow : OpenClaim := { program := "ytddbgchmpehffaa", sum := "1acb396dae069eec9cd84f97cbad58dc08ab1f0a0f031cd44826a2baa3414332", func := "loop.example/almanack/laws.FnExactListEither", spec := "fnExactListEither", unfollowed := true, recurses := true, apart := false, narrowed := true }
def FnExactListEitherUptoSaid : Prop := fnExactListEitherUptoRow.holds Try.pinned (OpenSpec.upto fnExactListEitherSpec)

/-- 'laws.FnExactListLess', WHERE WHAT IT READS IS OF BULK AT MOST 1048576: true; the input reads as it did. -/
def fnExactListLessUptoRow : OpenClaim := { program := "ytddbgchmpehffaa", sum := "1acb396dae069eec9cd84f97cbad58dc08ab1f0a0f031cd44826a2baa3414332", func := "loop.example/almanack/laws.FnExactListLess", spec := "fnExactListLess", unfollowed := true, recurses := true, apart := false, narrowed := true }
def FnExactListLessUptoSaid : Prop := fnExactListLessUptoRow.holds Try.pinned (OpenSpec.upto fnExactListLessSpec)

end Rows
end Go.Proofs.Ytddbgchmpehffaa
