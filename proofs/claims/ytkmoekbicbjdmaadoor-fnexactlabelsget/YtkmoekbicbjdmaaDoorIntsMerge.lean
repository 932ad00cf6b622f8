/- The generic loop that goes along two lists of ints at once: what it answers, whatever it keeps. -/
import Derived.Test.YtkmoekbicbjdmaaDoorIntsLaw
import Derived.Shelf.Abstract
namespace Go.Proofs.YtkmoekbicbjdmaaDoor.Ints
open Go.RowKit ListMath Rw
set_option linter.unusedVariables false
attribute [local go_sem ↓] Go.wp_at_zero Go.wp_at_succ
def slen : Value → Nat
  | .slice _ n _ => n
  | _ => 0
theorem size_int : (sizeOf (Tryd.prog.elem 89)).run Tryd.prog = fun w => .ok 1 w := by kernel_rfl
theorem tail_ok {w : World} {a : Option Addr} {N cap : Nat} {xs : List Value} (h : Lies w (.slice a N cap) N 1 xs) (h0 : 0 < N) :
    ∃ R, (∀ W, (Instr.slice 89 (.slice a N cap) (some (.int .i64 1)) none none).run Tryd.prog W = .ok R W) ∧ Lies w R (N - 1) 1 (xs.drop 1) := by
  have hc : N ≤ cap := by obtain ⟨-, a', cap', h1, h2, -⟩ := h; simp only [Value.slice.injEq, true_and] at h1; omega
  refine ⟨_, fun W => ?_, cut_lies h (i := 1) (by omega)⟩
  have e := run_slice_l (P := Tryd.prog) W 89 a N cap (by kernel_rfl) .i64 (1 : Int) (by omega) (by omega)
  rw [e]
  show ((sizeOf (Tryd.prog.elem 89)).run Tryd.prog W).andThen _ = _
  rw [size_int]
  rfl
theorem flat_tail (zs : List Int) (i : Nat) : (flat (zs.drop i)).drop 1 = flat (zs.drop (i + 1)) := by
  unfold flat
  rw [← List.map_drop, List.drop_drop]
theorem head_cell {w : World} {a : Option Addr} {N cap i : Nat} {zs : List Int} (h : Lies w (.slice a N cap) N 1 (flat (zs.drop i))) (h0 : 0 < N) :
    ∃ b off, a = some ⟨b, off, none⟩ ∧ b < w.heap.size ∧ w.cell? ⟨b, off, none⟩ = some (.int .i64 (at' zs i)) := by
  obtain ⟨hl, a', cap', h1, -, -, -, hr⟩ := h
  simp only [Value.slice.injEq, true_and] at h1
  obtain ⟨rfl, rfl⟩ := h1
  obtain ⟨b, off, e, hb, hc⟩ := hr h0
  refine ⟨b, off, e, hb, ?_⟩
  rw [flat_length, List.length_drop] at hl
  have := hc 0 (.int .i64 (at' zs i)) (by rw [drop_at zs i (by omega)]; rfl)
  simpa using this
theorem cls_cell {wr W : World} {b o : Nat} {u : Value} (hW : Below wr.heap.size wr W) (hb : b < wr.heap.size) (h : wr.cell? ⟨b, o, none⟩ = some u) : ∀ x : Cls W.heap.size W, x.val.cell? ⟨b, o, none⟩ = some u := fun x => by
  rw [x.cell (by have := hW.size; omega)]
  exact (hW.cell (p := ⟨b, o, none⟩) hb).trans h
end Go.Proofs.YtkmoekbicbjdmaaDoor.Ints
