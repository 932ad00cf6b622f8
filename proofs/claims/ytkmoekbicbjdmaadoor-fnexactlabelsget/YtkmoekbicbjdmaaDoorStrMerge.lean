/- The generic loop that goes along two lists of texts at once: what it answers, whatever it keeps. -/
import Derived.Test.YtkmoekbicbjdmaaDoorStrLaw
import Derived.Shelf.Abstract
namespace Go.Proofs.YtkmoekbicbjdmaaDoor.Str
open Go.RowKit Rw StrMath
set_option linter.unusedVariables false
attribute [local go_sem ↓] Go.wp_at_zero Go.wp_at_succ
theorem run_leq (a b : ByteArray) (W : World) : (binOp .leq 9 (.string a) (.string b)).run Tryd.prog W = .ok (.bool (Lab.ltS a b || (a.toList == b.toList))) W := rfl
theorem leq_yes {a b : ByteArray} (h : lt a b ∨ a = b) (W : World) : (binOp .leq 9 (.string a) (.string b)).run Tryd.prog W = .ok (.bool true) W := by
  rw [run_leq]
  rcases h with h | h
  · rw [show Lab.ltS a b = true from h]; rfl
  · subst h; rw [show (a.toList == a.toList) = true from beq_self_eq_true _, Bool.or_true]
theorem leq_no {a b : ByteArray} (h : lt b a) (W : World) : (binOp .leq 9 (.string a) (.string b)).run Tryd.prog W = .ok (.bool false) W := by
  rw [run_leq]
  have h1 : Lab.ltS a b = false := by have := lt_asymm h; simpa [lt] using this
  have h2 : (a.toList == b.toList) = false := by
    apply Bool.eq_false_iff.2
    intro e
    have e' : a.toList = b.toList := by simpa using e
    rw [ByteArray.toList_eq, ByteArray.toList_eq] at e'
    have : a = b := Go.WideShapes.bytes_inj e'
    subst this
    exact lt_irrefl _ h
  rw [h1, h2]; rfl
def slen : Value → Nat
  | .slice _ n _ => n
  | _ => 0
theorem size_str : (sizeOf (Tryd.prog.elem 45)).run Tryd.prog = fun w => .ok 1 w := by kernel_rfl
theorem tail_ok {w : World} {a : Option Addr} {N cap : Nat} {xs : List Value} (h : Lies w (.slice a N cap) N 1 xs) (h0 : 0 < N) :
    ∃ R, (∀ W, (Instr.slice 45 (.slice a N cap) (some (.int .i64 1)) none none).run Tryd.prog W = .ok R W) ∧ Lies w R (N - 1) 1 (xs.drop 1) := by
  have hc : N ≤ cap := by obtain ⟨-, a', cap', h1, h2, -⟩ := h; simp only [Value.slice.injEq, true_and] at h1; omega
  refine ⟨_, fun W => ?_, cut_lies h (i := 1) (by omega)⟩
  have e := run_slice_l (P := Tryd.prog) W 45 a N cap (by kernel_rfl) .i64 (1 : Int) (by omega) (by omega)
  rw [e]
  show ((sizeOf (Tryd.prog.elem 45)).run Tryd.prog W).andThen _ = _
  rw [size_str]
  rfl
theorem flat_tail (zs : List E) (i : Nat) : (flat (zs.drop i)).drop 1 = flat (zs.drop (i + 1)) := by
  have := flatOf_drop flk (zs.drop i) 1
  rw [List.drop_drop, Nat.one_mul] at this
  exact this.symm
theorem head_cell {w : World} {a : Option Addr} {N cap i : Nat} {zs : List E} (h : Lies w (.slice a N cap) N 1 (flat (zs.drop i))) (h0 : 0 < N) :
    ∃ b off, a = some ⟨b, off, none⟩ ∧ b < w.heap.size ∧ w.cell? ⟨b, off, none⟩ = some (.string (StrMath.at' zs i)) := by
  obtain ⟨hl, a', cap', h1, -, -, -, hr⟩ := h
  simp only [Value.slice.injEq, true_and] at h1
  obtain ⟨rfl, rfl⟩ := h1
  obtain ⟨b, off, e, hb, hc⟩ := hr h0
  refine ⟨b, off, e, hb, ?_⟩
  rw [flat_length, List.length_drop] at hl
  have := hc 0 (.string (StrMath.at' zs i)) (by rw [drop_at zs i (by omega)]; rfl)
  simpa using this
theorem cls_cell {wr W : World} {b o : Nat} {u : Value} (hW : Below wr.heap.size wr W) (hb : b < wr.heap.size) (h : wr.cell? ⟨b, o, none⟩ = some u) : ∀ x : Cls W.heap.size W, x.val.cell? ⟨b, o, none⟩ = some u := fun x => by
  rw [x.cell (by have := hW.size; omega)]
  exact (hW.cell (p := ⟨b, o, none⟩) hb).trans h
end Go.Proofs.YtkmoekbicbjdmaaDoor.Str
