/-
  No cell of these rows narrows 'for every input' (looked for: loops, veiled, ifaces, maps, wideKeys, modest, calm, conditions, laid).
  DERIVED. THE GIVEN ROWS OF THIS SEAT. 7 by the template 'for every input the law returns true; each argument reads behind the call as it read before'; 0 by the template 'total and deterministic' (their statements: YtdkenakgppdabaaTotals.lean).
  GIVEN WITH THE SEED: the statements are not yours to turn. If you find one false, say at which input.
  Laid BY PROGRAM, IN A SANDBOX (cutbox-rows.mjs): the forced cells as the released guide's own fill.sh prints them over the translation bc87cb869433f64c… (all of the seat's roots in one cut). By AI agents, Wed Nov 11 2026. No macro, syntax, notation, axiom, sorry.
-/
import Derived.Test.YtdkenakgppdabaaChecked
import GoSem.Claim
import GoSem.ClaimJoined
import GoSem.ClaimMapViews
import Derived.JoinedTies
import Derived.KernelRfl
namespace Go.Proofs.Ytdkenakgppdabaa
/- THE CELL 'sum', in the pinned program and in every row, IS THE sha256 OF THE DUMP (.gsa) THAT YtdkenakgppdabaaProg.lean LOADS. Nothing in Lean hashes anything: it is a label: what it is worth is what the hold of that sum in a sandbox is worth. -/
noncomputable def Try.pinned : Pinned := { name := "ytdkenakgppdabaa", sum := "bc87cb869433f64ca3c49663d80de0cf6e3de7ac0d66077954483add0ab57a7e", checked := Try.checked }
namespace Rows
def none {H : Type} : Left H := { results := [], args := [] }

/-- 'laws.FnSamplesJoin': WHATEVER THE INPUT: true; the input reads as it did. -/
def fnSamplesJoinSpec : ChangeSpec := { name := "fnSamplesJoin", fn := fun _ => fun
  | [d] => { results := [.lit (.bool true)], args := [d] }
  | _ => none }
def fnSamplesJoinRow : OpenClaim := { program := "ytdkenakgppdabaa", sum := "bc87cb869433f64ca3c49663d80de0cf6e3de7ac0d66077954483add0ab57a7e", func := "loop.example/almanack/laws.FnSamplesJoin", spec := "fnSamplesJoin", apart := false }
def FnSamplesJoinSaid : Prop := fnSamplesJoinRow.holds Try.pinned (OpenSpec.ofChange fnSamplesJoinSpec)

/-- ITS FALSE NEIGHBOUR: 'it returns false'. Refute it at one input. -/
def fnSamplesJoinWrong : ChangeSpec := { name := "fnSamplesJoin", fn := fun _ => fun
  | [d] => { results := [.lit (.bool false)], args := [d] }
  | _ => none }
def FnSamplesJoinWrongFalsely : Prop := fnSamplesJoinRow.holds Try.pinned (OpenSpec.ofChange fnSamplesJoinWrong)

/-- 'laws.FnSamplesCut': WHATEVER THE INPUT: true; the input reads as it did. -/
def fnSamplesCutSpec : ChangeSpec := { name := "fnSamplesCut", fn := fun _ => fun
  | [d] => { results := [.lit (.bool true)], args := [d] }
  | _ => none }
def fnSamplesCutRow : OpenClaim := { program := "ytdkenakgppdabaa", sum := "bc87cb869433f64ca3c49663d80de0cf6e3de7ac0d66077954483add0ab57a7e", func := "loop.example/almanack/laws.FnSamplesCut", spec := "fnSamplesCut", apart := false }
def FnSamplesCutSaid : Prop := fnSamplesCutRow.holds Try.pinned (OpenSpec.ofChange fnSamplesCutSpec)

/-- ITS FALSE NEIGHBOUR: 'it returns false'. Refute it at one input. -/
def fnSamplesCutWrong : ChangeSpec := { name := "fnSamplesCut", fn := fun _ => fun
  | [d] => { results := [.lit (.bool false)], args := [d] }
  | _ => none }
def FnSamplesCutWrongFalsely : Prop := fnSamplesCutRow.holds Try.pinned (OpenSpec.ofChange fnSamplesCutWrong)

/-- 'laws.FnExactSamplesCut': WHATEVER THE INPUT: true; the input reads as it did. -/
def fnExactSamplesCutSpec : ChangeSpec := { name := "fnExactSamplesCut", fn := fun _ => fun
  | [d1, d2, d3] => { results := [.lit (.bool true)], args := [d1, d2, d3] }
  | _ => none }
def fnExactSamplesCutRow : OpenClaim := { program := "ytdkenakgppdabaa", sum := "bc87cb869433f64ca3c49663d80de0cf6e3de7ac0d66077954483add0ab57a7e", func := "loop.example/almanack/laws.FnExactSamplesCut", spec := "fnExactSamplesCut", apart := false }
def FnExactSamplesCutSaid : Prop := fnExactSamplesCutRow.holds Try.pinned (OpenSpec.ofChange fnExactSamplesCutSpec)

/-- ITS FALSE NEIGHBOUR: 'it returns false'. Refute it at one input. -/
def fnExactSamplesCutWrong : ChangeSpec := { name := "fnExactSamplesCut", fn := fun _ => fun
  | [d1, d2, d3] => { results := [.lit (.bool false)], args := [d1, d2, d3] }
  | _ => none }
def FnExactSamplesCutWrongFalsely : Prop := fnExactSamplesCutRow.holds Try.pinned (OpenSpec.ofChange fnExactSamplesCutWrong)

/-- 'laws.FnExactSamplesOk': WHATEVER THE INPUT: true; the input reads as it did. -/
def fnExactSamplesOkSpec : ChangeSpec := { name := "fnExactSamplesOk", fn := fun _ => fun
  | [d] => { results := [.lit (.bool true)], args := [d] }
  | _ => none }
def fnExactSamplesOkRow : OpenClaim := { program := "ytdkenakgppdabaa", sum := "bc87cb869433f64ca3c49663d80de0cf6e3de7ac0d66077954483add0ab57a7e", func := "loop.example/almanack/laws.FnExactSamplesOk", spec := "fnExactSamplesOk", apart := false }
def FnExactSamplesOkSaid : Prop := fnExactSamplesOkRow.holds Try.pinned (OpenSpec.ofChange fnExactSamplesOkSpec)

/-- ITS FALSE NEIGHBOUR: 'it returns false'. Refute it at one input. -/
def fnExactSamplesOkWrong : ChangeSpec := { name := "fnExactSamplesOk", fn := fun _ => fun
  | [d] => { results := [.lit (.bool false)], args := [d] }
  | _ => none }
def FnExactSamplesOkWrongFalsely : Prop := fnExactSamplesOkRow.holds Try.pinned (OpenSpec.ofChange fnExactSamplesOkWrong)

/-- 'laws.FnExactSamplesJoin': WHATEVER THE INPUT: true; the input reads as it did. -/
def fnExactSamplesJoinSpec : ChangeSpec := { name := "fnExactSamplesJoin", fn := fun _ => fun
  | [d1, d2] => { results := [.lit (.bool true)], args := [d1, d2] }
  | _ => none }
def fnExactSamplesJoinRow : OpenClaim := { program := "ytdkenakgppdabaa", sum := "bc87cb869433f64ca3c49663d80de0cf6e3de7ac0d66077954483add0ab57a7e", func := "loop.example/almanack/laws.FnExactSamplesJoin", spec := "fnExactSamplesJoin", apart := false }
def FnExactSamplesJoinSaid : Prop := fnExactSamplesJoinRow.holds Try.pinned (OpenSpec.ofChange fnExactSamplesJoinSpec)

/-- ITS FALSE NEIGHBOUR: 'it returns false'. Refute it at one input. -/
def fnExactSamplesJoinWrong : ChangeSpec := { name := "fnExactSamplesJoin", fn := fun _ => fun
  | [d1, d2] => { results := [.lit (.bool false)], args := [d1, d2] }
  | _ => none }
def FnExactSamplesJoinWrongFalsely : Prop := fnExactSamplesJoinRow.holds Try.pinned (OpenSpec.ofChange fnExactSamplesJoinWrong)

/-- 'laws.FnBits': WHATEVER THE INPUT: true; the input reads as it did. -/
def fnBitsSpec : ChangeSpec := { name := "fnBits", fn := fun _ => fun
  | [d] => { results := [.lit (.bool true)], args := [d] }
  | _ => none }
def fnBitsRow : OpenClaim := { program := "ytdkenakgppdabaa", sum := "bc87cb869433f64ca3c49663d80de0cf6e3de7ac0d66077954483add0ab57a7e", func := "loop.example/almanack/laws.FnBits", spec := "fnBits", unfollowed := true, recurses := true, apart := false }
def FnBitsSaid : Prop := fnBitsRow.holds Try.pinned (OpenSpec.ofChange fnBitsSpec)

/-- ITS FALSE NEIGHBOUR: 'it returns false'. Refute it at one input. -/
def fnBitsWrong : ChangeSpec := { name := "fnBits", fn := fun _ => fun
  | [d] => { results := [.lit (.bool false)], args := [d] }
  | _ => none }
def FnBitsWrongFalsely : Prop := fnBitsRow.holds Try.pinned (OpenSpec.ofChange fnBitsWrong)

/-- 'laws.FnZig': WHATEVER THE INPUT: true; the input reads as it did. -/
def fnZigSpec : ChangeSpec := { name := "fnZig", fn := fun _ => fun
  | [d1, d2] => { results := [.lit (.bool true)], args := [d1, d2] }
  | _ => none }
def fnZigRow : OpenClaim := { program := "ytdkenakgppdabaa", sum := "bc87cb869433f64ca3c49663d80de0cf6e3de7ac0d66077954483add0ab57a7e", func := "loop.example/almanack/laws.FnZig", spec := "fnZig", apart := false }
def FnZigSaid : Prop := fnZigRow.holds Try.pinned (OpenSpec.ofChange fnZigSpec)

/-- ITS FALSE NEIGHBOUR: 'it returns false'. Refute it at one input. -/
def fnZigWrong : ChangeSpec := { name := "fnZig", fn := fun _ => fun
  | [d1, d2] => { results := [.lit (.bool false)], args := [d1, d2] }
  | _ => none }
def FnZigWrongFalsely : Prop := fnZigRow.holds Try.pinned (OpenSpec.ofChange fnZigWrong)

/- THE SECOND FORM. 'bulk': how many values and letters a reading holds, each counted each time it is reached (what is shared counts as often as it is met; a slice's spare places count too). A statement '..UptoSaid' is the law's where the arguments, and the package variables that the reading takes, are together of bulk at most 1048576: NARROWER than '..Said'. Prove '..Said' where nothing that the law and all that it calls make is longer than what came in: it says more and counts as full. Else prove '..UptoSaid'. A law counts once. -/
mutual
def uptoBulk {H : Type} : DataW H → Nat
  | .lit (.string bytes) => bytes.length + 1
  | .lit _ => 1
  | .nil => 1
  | .ptr d => uptoBulk d + 1
  | .slice elems spare => uptoBulkAll elems + uptoBulkAll spare + 1
  | .agg parts => uptoBulkAll parts + 1
  | .iface _ d => uptoBulk d + 1
  | .map entries => uptoBulkEntries entries + 1
  | .held _ => 1
def uptoBulkAll {H : Type} : List (DataW H) → Nat
  | [] => 0
  | d :: r => uptoBulk d + uptoBulkAll r
def uptoBulkEntries {H : Type} : List (Lit × DataW H) → Nat
  | [] => 0
  | x :: r => uptoBulkEntry x + uptoBulkEntries r
def uptoBulkEntry {H : Type} : Lit × DataW H → Nat
  | (.string bytes, d) => bytes.length + uptoBulk d + 1
  | (_, d) => uptoBulk d + 1
 end
def uptoSmall : (H : Type) → List (DataW H) → Bool := fun _ ds => decide (uptoBulkAll ds ≤ 1048576)
def OpenSpec.upto (s : _root_.Go.ChangeSpec) : _root_.Go.OpenSpec := { _root_.Go.OpenSpec.ofChange s with cond := some uptoSmall }

/-- 'laws.FnSamplesJoin', WHERE WHAT IT READS IS OF BULK AT MOST 1048576: true; the input reads as it did. -/
def fnSamplesJoinUptoRow : OpenClaim := { program := "ytdkenakgppdabaa", sum := "bc87cb869433f64ca3c49663d80de0cf6e3de7ac0d66077954483add0ab57a7e", func := "loop.example/almanack/laws.FnSamplesJoin", spec := "fnSamplesJoin", apart := false, narrowed := true }
def FnSamplesJoinUptoSaid : Prop := fnSamplesJoinUptoRow.holds Try.pinned (OpenSpec.upto fnSamplesJoinSpec)

/-- 'laws.FnSamplesCut', WHERE WHAT IT READS IS OF BULK AT MOST 1048576: true; the input reads as it did. -/
def fnSamplesCutUptoRow : OpenClaim := { program := "ytdkenakgppdabaa", sum := "bc87cb869433f64ca3c49663d80de0cf6e3de7ac0d66077954483add0ab57a7e", func := "loop.example/almanack/laws.FnSamplesCut", spec := "fnSamplesCut", apart := false, narrowed := true }
def FnSamplesCutUptoSaid : Prop := fnSamplesCutUptoRow.holds Try.pinned (OpenSpec.upto fnSamplesCutSpec)

/-- 'laws.FnExactSamplesCut', WHERE WHAT IT READS IS OF BULK AT MOST 1048576: true; the input reads as it did. -/
def fnExactSamplesCutUptoRow : OpenClaim := { program := "ytdkenakgppdabaa", sum := "bc87cb869433f64ca3c49663d80de0cf6e3de7ac0d66077954483add0ab57a7e", func := "loop.example/almanack/laws.FnExactSamplesCut", spec := "fnExactSamplesCut", apart := false, narrowed := true }
def FnExactSamplesCutUptoSaid : Prop := fnExactSamplesCutUptoRow.holds Try.pinned (OpenSpec.upto fnExactSamplesCutSpec)

/-- 'laws.FnExactSamplesOk', WHERE WHAT IT READS IS OF BULK AT MOST 1048576: true; the input reads as it did. -/
def fnExactSamplesOkUptoRow : OpenClaim := { program := "ytdkenakgppdabaa", sum := "bc87cb869433f64ca3c49663d80de0cf6e3de7ac0d66077954483add0ab57a7e", func := "loop.example/almanack/laws.FnExactSamplesOk", spec := "fnExactSamplesOk", apart := false, narrowed := true }
def FnExactSamplesOkUptoSaid : Prop := fnExactSamplesOkUptoRow.holds Try.pinned (OpenSpec.upto fnExactSamplesOkSpec)

/-- 'laws.FnExactSamplesJoin', WHERE WHAT IT READS IS OF BULK AT MOST 1048576: true; the input reads as it did. -/
def fnExactSamplesJoinUptoRow : OpenClaim := { program := "ytdkenakgppdabaa", sum := "bc87cb869433f64ca3c49663d80de0cf6e3de7ac0d66077954483add0ab57a7e", func := "loop.example/almanack/laws.FnExactSamplesJoin", spec := "fnExactSamplesJoin", apart := false, narrowed := true }
def FnExactSamplesJoinUptoSaid : Prop := fnExactSamplesJoinUptoRow.holds Try.pinned (OpenSpec.upto fnExactSamplesJoinSpec)

/-- 'laws.FnBits', WHERE WHAT IT READS IS OF BULK AT MOST 1048576: true; the input reads as it did. -/
def fnBitsUptoRow : OpenClaim := { program := "ytdkenakgppdabaa", sum := "bc87cb869433f64ca3c49663d80de0cf6e3de7ac0d66077954483add0ab57a7e", func := "loop.example/almanack/laws.FnBits", spec := "fnBits", unfollowed := true, recurses := true, apart := false, narrowed := true }
def FnBitsUptoSaid : Prop := fnBitsUptoRow.holds Try.pinned (OpenSpec.upto fnBitsSpec)

/-- 'laws.FnZig', WHERE WHAT IT READS IS OF BULK AT MOST 1048576: true; the input reads as it did. -/
def fnZigUptoRow : OpenClaim := { program := "ytdkenakgppdabaa", sum := "bc87cb869433f64ca3c49663d80de0cf6e3de7ac0d66077954483add0ab57a7e", func := "loop.example/almanack/laws.FnZig", spec := "fnZig", apart := false, narrowed := true }
def FnZigUptoSaid : Prop := fnZigUptoRow.holds Try.pinned (OpenSpec.upto fnZigSpec)

end Rows
end Go.Proofs.Ytdkenakgppdabaa
