/- l4Put and ListEither of the model. -/
import Derived.Test.YtkmoekbicbjdmaaDoorIntsImpl
import Derived.Deep.RegionLaw
namespace Go.Proofs.YtkmoekbicbjdmaaDoor.Ints
open Go.RowKit ListMath Rw
set_option linter.unusedVariables false
attribute [local go_sem ↓] Go.wp_at_zero Go.wp_at_succ
theorem own_empty' {w : World} {base B : Nat} {e : TypeId} {size : Nat} (hb : base ≤ w.heap.size) (hB : B = w.heap.size) : (w.alloc (.cells #[] e)).ownsRow base e size (.slice (some ⟨B, 0, none⟩) 0 0) 0 [] := by
  subst hB; exact own_empty hb
theorem putAt_of : ∀ (l : List Int) (x : Int) (k : Nat), k ≤ l.length → (∀ j, j < k → at' l j < x) → (k < l.length → ¬ at' l k < x) → putAt l x = k
  | [], x, k, h, _, _ => by simp at h; subst h; rfl
  | y :: l, x, 0, _, _, h => by
    have := h (by simp)
    have e : at' (y :: l) 0 = y := rfl
    rw [e] at this
    simp [putAt, this]
  | y :: l, x, k + 1, h, h1, h2 => by
    have hy : y < x := h1 0 (by omega)
    have ih := putAt_of l x k (by simpa using h) (fun j hj => by have := h1 (j + 1) (by omega); simpa [at', List.getD] using this) (fun hk => by have := h2 (by simpa using hk); simpa [at', List.getD] using this)
    unfold putAt at ih ⊢
    simp [hy, ih]
theorem put_there {l : List Int} {x : Int} {k : Nat} (hk : k < l.length) (h : putAt l x = k) (he : at' l k = x) : put l x = l := by
  unfold put
  rw [h, if_pos ⟨by intro e; have := congrArg List.length e; simp at this; omega, he⟩]
theorem put_new {l : List Int} {x : Int} {k : Nat} (h : putAt l x = k) (he : k < l.length → at' l k ≠ x) : put l x = l.take k ++ x :: l.drop k := by
  unfold put
  rw [h, if_neg]
  rintro ⟨h1, h2⟩
  refine he ?_ h2
  rcases Nat.lt_or_ge k l.length with hl | hl
  · exact hl
  · exact absurd (List.drop_eq_nil_of_le hl) h1
theorem head_ok {w : World} {a : Option Addr} {N cap k : Nat} {xs : List Value} (h : Lies w (.slice a N cap) N 1 xs) (h0 : k ≤ N) :
    ∃ R, (∀ W, (Instr.slice 89 (.slice a N cap) none (some (.int .i64 (k : Int))) none).run Tryd.prog W = .ok R W) ∧ Lies w R k 1 (xs.take k) := by
  have hc : N ≤ cap := by obtain ⟨-, a', cap', h1, h2, -⟩ := h; simp only [Value.slice.injEq, true_and] at h1; omega
  have h1 := take_lies (k := k) (cut_lies h (i := 0) (by omega)) (by omega)
  rw [Nat.zero_mul, List.drop_zero, Nat.mul_one] at h1
  refine ⟨_, fun W => ?_, h1⟩
  have e := run_slice_h (P := Tryd.prog) W 89 a N cap (by kernel_rfl) .i64 (k : Int) (by omega) (by omega)
  rw [e]
  show ((sizeOf (Tryd.prog.elem 89)).run Tryd.prog W).andThen _ = _
  rw [size_int]
  simp [sliced]
theorem rest_ok {w : World} {a : Option Addr} {N cap k : Nat} {xs : List Value} (h : Lies w (.slice a N cap) N 1 xs) (h0 : k ≤ N) :
    ∃ R, (∀ W, (Instr.slice 89 (.slice a N cap) (some (.int .i64 (k : Int))) none none).run Tryd.prog W = .ok R W) ∧ Lies w R (N - k) 1 (xs.drop k) := by
  have hc : N ≤ cap := by obtain ⟨-, a', cap', h1, h2, -⟩ := h; simp only [Value.slice.injEq, true_and] at h1; omega
  refine ⟨_, fun W => ?_, by have := cut_lies h (i := k) (by omega); rw [Nat.mul_one] at this; exact this⟩
  have e := run_slice_l (P := Tryd.prog) W 89 a N cap (by kernel_rfl) .i64 (k : Int) (by omega) (by omega)
  rw [e]
  show ((sizeOf (Tryd.prog.elem 89)).run Tryd.prog W).andThen _ = _
  rw [size_int]
  simp [sliced]
theorem puts_snoc (l zs : List Int) (k : Nat) (h : k < zs.length) : (zs.take (k + 1)).foldl put l = put ((zs.take k).foldl put l) (at' zs k) := by rw [at_snoc zs k h, List.foldl_append]; rfl
theorem puts_take_le (l zs : List Int) (k : Nat) : ((zs.take k).foldl put l).length ≤ l.length + k := by
  have h1 := puts_le (zs.take k) l
  have h2 := List.length_take_le k zs
  omega
end Go.Proofs.YtkmoekbicbjdmaaDoor.Ints
