/- l4Word of the model; strings.Clone. -/
import Derived.Test.YtkmoekbicbjdmaaDoorStrMerge
import Derived.Test.YtkmoekbicbjdmaaDoorShelf
import Derived.Deep.RegionLaw
namespace Go.Proofs.YtkmoekbicbjdmaaDoor.StrMath
theorem put_there : ∀ (l : List ByteArray) (x : ByteArray) (k : Nat), k < l.length → (∀ j, j < k → lt (at' l j) x) → at' l k = x → put l x = l
  | [], x, k, h, _, _ => by simp at h
  | y :: l, x, 0, _, _, h => by
    have e : y = x := h
    subst e
    unfold put
    rw [if_neg (lt_irrefl _), if_pos rfl]
  | y :: l, x, k + 1, h, h1, h2 => by
    have hy : lt y x := h1 0 (by omega)
    have ih := put_there l x k (by simpa using h) (fun j hj => by have := h1 (j + 1) (by omega); simpa [at', List.getD] using this) (by simpa [at', List.getD] using h2)
    unfold put
    rw [if_pos hy, ih]
theorem put_new : ∀ (l : List ByteArray) (x : ByteArray) (k : Nat), k ≤ l.length → (∀ j, j < k → lt (at' l j) x) → (k < l.length → ¬ lt (at' l k) x ∧ at' l k ≠ x) → put l x = l.take k ++ x :: l.drop k
  | [], x, k, h, _, _ => by simp at h; subst h; rfl
  | y :: l, x, 0, _, _, h => by
    have e := h (by simp)
    have e1 : ¬ lt y x := e.1
    have e2 : y ≠ x := e.2
    unfold put
    rw [if_neg e1, if_neg e2]
    rfl
  | y :: l, x, k + 1, h, h1, h2 => by
    have hy : lt y x := h1 0 (by omega)
    have ih := put_new l x k (by simpa using h) (fun j hj => by have := h1 (j + 1) (by omega); simpa [at', List.getD] using this) (fun hk => by have := h2 (by simpa using hk); simpa [at', List.getD] using this)
    unfold put
    rw [if_pos hy, ih]
    rfl
end Go.Proofs.YtkmoekbicbjdmaaDoor.StrMath
namespace Go.Proofs.YtkmoekbicbjdmaaDoor.Str
open Go.RowKit Rw StrMath
set_option linter.unusedVariables false
attribute [local go_sem ↓] Go.wp_at_zero Go.wp_at_succ
theorem run_lss (a b : ByteArray) (W : World) : (binOp .lss 9 (.string a) (.string b)).run Tryd.prog W = .ok (.bool (Lab.ltS a b)) W := rfl
theorem lss_yes {a b : ByteArray} (h : lt a b) : ∀ W, (binOp .lss 9 (.string a) (.string b)).run Tryd.prog W = .ok (.bool true) W := fun W => by rw [run_lss, show Lab.ltS a b = true from h]
theorem lss_no {a b : ByteArray} (h : ¬ lt a b) : ∀ W, (binOp .lss 9 (.string a) (.string b)).run Tryd.prog W = .ok (.bool false) W := fun W => by rw [run_lss, show Lab.ltS a b = false by simpa [lt] using h]
theorem beq_no {a b : ByteArray} (h : a ≠ b) : (a.toList == b.toList) = false := by
  apply Bool.eq_false_iff.2
  intro e
  have e' : a.toList = b.toList := by simpa using e
  rw [ByteArray.toList_eq, ByteArray.toList_eq] at e'
  exact h (Go.WideShapes.bytes_inj e')
theorem eql_no {a b : ByteArray} (h : a ≠ b) : ∀ W, (binOp .eql 9 (.string a) (.string b)).run Tryd.prog W = .ok (.bool false) W := fun W => by
  rw [show (binOp .eql 9 (.string a) (.string b)).run Tryd.prog W = .ok (.bool (a.toList == b.toList)) W from rfl, beq_no h]
theorem neq_yes {a b : ByteArray} (h : a ≠ b) : ∀ W, (binOp .neq 9 (.string a) (.string b)).run Tryd.prog W = .ok (.bool true) W := fun W => by
  rw [show (binOp .neq 9 (.string a) (.string b)).run Tryd.prog W = .ok (.bool !(a.toList == b.toList)) W from rfl, beq_no h]; rfl
theorem flat_put (l : List E) (k : Nat) (x : E) : flat (l.take k ++ x :: l.drop k) = [] ++ (flat l).take k ++ [.string x] ++ (flat l).drop k := by
  unfold flat
  rw [flatOf_append, flatOf_cons, flatOf_take flk, flatOf_drop flk, Nat.mul_one]
  simp [fl]
theorem clone_any (s : ByteArray) (w : World) (h : s.size ≤ 281474976710656) : Calls Tryd.prog 65 #[.string s] w fun e w' => e = .returned (.string s) ∧ Below w.heap.size w w' := by
  have H := hide (Tryd.stringslite_Clone s w h)
  go_enter Tryd.func65, Tryd.ntmps65
  go_wp2_with fail
  refine (unhide H).mono ?_
  rintro e w1 ⟨rfl, b⟩
  go_wp2_with fail
  go_ret
  exact ⟨rfl, b⟩
theorem own_empty' {w : World} {base B : Nat} {e : TypeId} {size : Nat} (hb : base ≤ w.heap.size) (hB : B = w.heap.size) : (w.alloc (.cells #[] e)).ownsRow base e size (.slice (some ⟨B, 0, none⟩) 0 0) 0 [] := by
  subst hB; exact own_empty hb
theorem head_ok {w : World} {a : Option Addr} {N cap k : Nat} {xs : List Value} (h : Lies w (.slice a N cap) N 1 xs) (h0 : k ≤ N) :
    ∃ R, (∀ W, (Instr.slice 45 (.slice a N cap) none (some (.int .i64 (k : Int))) none).run Tryd.prog W = .ok R W) ∧ Lies w R k 1 (xs.take k) := by
  have hc : N ≤ cap := by obtain ⟨-, a', cap', h1, h2, -⟩ := h; simp only [Value.slice.injEq, true_and] at h1; omega
  have h1 := take_lies (k := k) (cut_lies h (i := 0) (by omega)) (by omega)
  rw [Nat.zero_mul, List.drop_zero, Nat.mul_one] at h1
  refine ⟨_, fun W => ?_, h1⟩
  have e := run_slice_h (P := Tryd.prog) W 45 a N cap (by kernel_rfl) .i64 (k : Int) (by omega) (by omega)
  rw [e]
  show ((sizeOf (Tryd.prog.elem 45)).run Tryd.prog W).andThen _ = _
  rw [size_str]
  simp [sliced]
theorem rest_ok {w : World} {a : Option Addr} {N cap k : Nat} {xs : List Value} (h : Lies w (.slice a N cap) N 1 xs) (h0 : k ≤ N) :
    ∃ R, (∀ W, (Instr.slice 45 (.slice a N cap) (some (.int .i64 (k : Int))) none none).run Tryd.prog W = .ok R W) ∧ Lies w R (N - k) 1 (xs.drop k) := by
  have hc : N ≤ cap := by obtain ⟨-, a', cap', h1, h2, -⟩ := h; simp only [Value.slice.injEq, true_and] at h1; omega
  refine ⟨_, fun W => ?_, by have := cut_lies h (i := k) (by omega); rw [Nat.mul_one] at this; exact this⟩
  have e := run_slice_l (P := Tryd.prog) W 45 a N cap (by kernel_rfl) .i64 (k : Int) (by omega) (by omega)
  rw [e]
  show ((sizeOf (Tryd.prog.elem 45)).run Tryd.prog W).andThen _ = _
  rw [size_str]
  simp [sliced]
end Go.Proofs.YtkmoekbicbjdmaaDoor.Str
