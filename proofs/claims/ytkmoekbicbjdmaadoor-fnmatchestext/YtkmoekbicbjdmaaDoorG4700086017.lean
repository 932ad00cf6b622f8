/- My own texts of one claim, laid together by program: IntsLaw, IntsMerge, IntsImpl, IntsPut. -/
import Derived.Test.YtkmoekbicbjdmaaDoorGc96daf04d6
import Derived.Shelf.Abstract
import Derived.Deep.RegionLaw
/- What the laws' own helpers do with slices of ints: they are copied, held against each other, marked and looked at again; ListOk of the model. -/
namespace Go.Proofs.YtkmoekbicbjdmaaDoor.Ints
open Go.RowKit ListMath Rw
set_option linter.unusedVariables false
attribute [local go_sem ↓] Go.wp_at_zero Go.wp_at_succ
theorem is_of_own {w : World} {base : Nat} {v : Value} {zs : List Int} (h : w.ownsRow base 3 1 v zs.length (flat zs)) : Is w v zs := lies_of_own h
theorem row_is {w : World} {a : Option Addr} {len cap : Nat} {z : List Int} (h : IsRow .i64 w a len cap z) : (z.take len).length = len ∧ Is w (.slice a len cap) (z.take len) := by
  rcases h with ⟨rfl, rfl, rfl, rfl⟩ | ⟨x, rfl, h1, h2, h3, h4, _⟩
  · exact ⟨rfl, rfl, none, 0, rfl, Nat.le_refl _, Nat.zero_le _, fun _ => rfl, fun h => by simp at h⟩
  · have hl : (z.take len).length = len := by simp; omega
    refine ⟨hl, by rw [flat_length]; omega, some x, cap, by rw [hl], by omega, h2, fun e => (by cases e), fun h0 => ?_⟩
    obtain ⟨b, off, spot⟩ := x
    have c0 := h4 0 (by omega)
    have hspot : spot = none := by simpa [Addr.add] using World.cell?_spot c0
    subst hspot
    refine ⟨b, off, rfl, World.block_lt_of_cell? w ⟨b, _, none⟩ c0, fun j u hj => ?_⟩
    have hj' := (List.getElem?_eq_some_iff.1 hj).1
    rw [flat_length, hl] at hj'
    rw [flat_get _ j (by omega)] at hj
    have e : at' (z.take len) j = z.getD j 0 := by simp [at', List.getD, hj']
    rw [← hj, e, ← Go.WideShapes.add_plain]
    exact h4 j (by omega)
theorem set_one (A : List Value) (u0 x : Value) (B : List Value) (k : Nat) (h : A.length = k) : (A ++ u0 :: B).set k x = A ++ [x] ++ B := by
  subst h
  rw [List.set_append_right _ _ (Nat.le_refl _), Nat.sub_self, List.set_cons_zero]
  simp
theorem split_one (r : List Value) (n : Nat) (h : r.length = n + 1) : ∃ u0 B, r = u0 :: B ∧ B.length = n := by
  match r, h with
  | u0 :: B, h => exact ⟨u0, B, rfl, by simpa using h⟩
def marks (k0 : Int) (n : Nat) : List Int := (List.range n).map fun i : Nat => k0 + (i : Int)
theorem marks_length (k0 : Int) (n : Nat) : (marks k0 n).length = n := by simp [marks]
theorem marks_succ (k0 : Int) (n : Nat) : marks k0 (n + 1) = marks k0 n ++ [k0 + (n : Int)] := by simp [marks, List.range_succ]
theorem marks_at (k0 : Int) (n i : Nat) (h : i < n) : at' (marks k0 n) i = k0 + (i : Int) := by simp [marks, at', List.getD, h]
theorem own_marks {base : Nat} {v : Value} {n : Nat} {k0 : Int} {w : World} (h : w.ownsRow base 3 1 v n (flat (marks k0 n))) : Is w v (marks k0 n) := is_of_own (by rw [marks_length]; exact h)
end Go.Proofs.YtkmoekbicbjdmaaDoor.Ints

/- The generic loop that goes along two lists of ints at once: what it answers, whatever it keeps. -/
namespace Go.Proofs.YtkmoekbicbjdmaaDoor.Ints
open Go.RowKit ListMath Rw
set_option linter.unusedVariables false
attribute [local go_sem ↓] Go.wp_at_zero Go.wp_at_succ
def slen : Value → Nat
  | .slice _ n _ => n
  | _ => 0
theorem size_int : (sizeOf (Tryd.prog.elem 89)).run Tryd.prog = fun w => .ok 1 w := by kernel_rfl
theorem tail_ok {w : World} {a : Option Addr} {N cap : Nat} {xs : List Value} (h : Lies w (.slice a N cap) N 1 xs) (h0 : 0 < N) :
    ∃ R, (∀ W, (Instr.slice 89 (.slice a N cap) (some (.int .i64 1)) none none).run Tryd.prog W = .ok R W) ∧ Lies w R (N - 1) 1 (xs.drop 1) := by
  have hc : N ≤ cap := by obtain ⟨-, a', cap', h1, h2, -⟩ := h; simp only [Value.slice.injEq, true_and] at h1; omega
  refine ⟨_, fun W => ?_, cut_lies h (i := 1) (by omega)⟩
  have e := run_slice_l (P := Tryd.prog) W 89 a N cap (by kernel_rfl) .i64 (1 : Int) (by omega) (by omega)
  rw [e]
  show ((sizeOf (Tryd.prog.elem 89)).run Tryd.prog W).andThen _ = _
  rw [size_int]
  rfl
theorem flat_tail (zs : List Int) (i : Nat) : (flat (zs.drop i)).drop 1 = flat (zs.drop (i + 1)) := by
  unfold flat
  rw [← List.map_drop, List.drop_drop]
theorem head_cell {w : World} {a : Option Addr} {N cap i : Nat} {zs : List Int} (h : Lies w (.slice a N cap) N 1 (flat (zs.drop i))) (h0 : 0 < N) :
    ∃ b off, a = some ⟨b, off, none⟩ ∧ b < w.heap.size ∧ w.cell? ⟨b, off, none⟩ = some (.int .i64 (at' zs i)) := by
  obtain ⟨hl, a', cap', h1, -, -, -, hr⟩ := h
  simp only [Value.slice.injEq, true_and] at h1
  obtain ⟨rfl, rfl⟩ := h1
  obtain ⟨b, off, e, hb, hc⟩ := hr h0
  refine ⟨b, off, e, hb, ?_⟩
  rw [flat_length, List.length_drop] at hl
  have := hc 0 (.int .i64 (at' zs i)) (by rw [drop_at zs i (by omega)]; rfl)
  simpa using this
theorem cls_cell {wr W : World} {b o : Nat} {u : Value} (hW : Below wr.heap.size wr W) (hb : b < wr.heap.size) (h : wr.cell? ⟨b, o, none⟩ = some u) : ∀ x : Cls W.heap.size W, x.val.cell? ⟨b, o, none⟩ = some u := fun x => by
  rw [x.cell (by have := hW.size; omega)]
  exact (hW.cell (p := ⟨b, o, none⟩) hb).trans h
end Go.Proofs.YtkmoekbicbjdmaaDoor.Ints

/- ListBoth, ListEither, ListLess of the program; l4Has, ListBoth and ListLess of the model. -/
namespace Go.Proofs.YtkmoekbicbjdmaaDoor.Ints
open Go.RowKit ListMath Rw
set_option linter.unusedVariables false
attribute [local go_sem ↓] Go.wp_at_zero Go.wp_at_succ
abbrev Gives (f : Nat) (k : Bool → Bool → Bool) : Prop := ∀ {w : World} {v u : Value} {zs ys : List Int}, Is w v zs → Is w u ys → zs.length ≤ 4194304 → ys.length ≤ 4194304 →
    Calls Tryd.prog f #[v, u] w fun e w' => ∃ r, e = .returned r ∧ w'.ownsRow w.heap.size 3 1 r (res k zs ys).length (flat (res k zs ys)) ∧ Below w.heap.size w w'
theorem has_succ (zs : List Int) (x : Int) (k : Nat) (hk : k < zs.length) (h : has (zs.take k) x = false) (hx : at' zs k ≠ x) : has (zs.take (k + 1)) x = false := by
  rw [at_snoc zs k hk]
  simp only [has_iff, decide_eq_false_iff_not, List.mem_append, List.mem_singleton, not_or] at h ⊢
  exact ⟨h, fun e => hx e.symm⟩
theorem has_hit (zs : List Int) (x : Int) (k : Nat) (hk : k < zs.length) (hx : at' zs k = x) : has zs x = true := by
  simp only [has_iff, decide_eq_true_eq]
  have e : at' zs k = zs[k] := by simp [at', List.getD, hk]
  rw [← hx, e]
  exact List.getElem_mem hk
theorem filter_snoc (zs : List Int) (f : Int → Bool) (k : Nat) (h : k < zs.length) : (zs.take (k + 1)).filter f = (zs.take k).filter f ++ one (f (at' zs k)) (at' zs k) := by
  rw [at_snoc zs k h, List.filter_append]
  cases hh : f (at' zs k) <;> simp [hh, one]
theorem filter_take_le (zs : List Int) (f : Int → Bool) (k : Nat) : ((zs.take k).filter f).length ≤ k := by
  have h1 := List.length_filter_le f (zs.take k)
  have h2 := List.length_take_le k zs
  omega
end Go.Proofs.YtkmoekbicbjdmaaDoor.Ints

/- l4Put and ListEither of the model. -/
namespace Go.Proofs.YtkmoekbicbjdmaaDoor.Ints
open Go.RowKit ListMath Rw
set_option linter.unusedVariables false
attribute [local go_sem ↓] Go.wp_at_zero Go.wp_at_succ
theorem own_empty' {w : World} {base B : Nat} {e : TypeId} {size : Nat} (hb : base ≤ w.heap.size) (hB : B = w.heap.size) : (w.alloc (.cells #[] e)).ownsRow base e size (.slice (some ⟨B, 0, none⟩) 0 0) 0 [] := by
  subst hB; exact own_empty hb
theorem putAt_of : ∀ (l : List Int) (x : Int) (k : Nat), k ≤ l.length → (∀ j, j < k → at' l j < x) → (k < l.length → ¬ at' l k < x) → putAt l x = k
  | [], x, k, h, _, _ => by simp at h; subst h; rfl
  | y :: l, x, 0, _, _, h => by
    have := h (by simp)
    have e : at' (y :: l) 0 = y := rfl
    rw [e] at this
    simp [putAt, this]
  | y :: l, x, k + 1, h, h1, h2 => by
    have hy : y < x := h1 0 (by omega)
    have ih := putAt_of l x k (by simpa using h) (fun j hj => by have := h1 (j + 1) (by omega); simpa [at', List.getD] using this) (fun hk => by have := h2 (by simpa using hk); simpa [at', List.getD] using this)
    unfold putAt at ih ⊢
    simp [hy, ih]
theorem put_there {l : List Int} {x : Int} {k : Nat} (hk : k < l.length) (h : putAt l x = k) (he : at' l k = x) : put l x = l := by
  unfold put
  rw [h, if_pos ⟨by intro e; have := congrArg List.length e; simp at this; omega, he⟩]
theorem put_new {l : List Int} {x : Int} {k : Nat} (h : putAt l x = k) (he : k < l.length → at' l k ≠ x) : put l x = l.take k ++ x :: l.drop k := by
  unfold put
  rw [h, if_neg]
  rintro ⟨h1, h2⟩
  refine he ?_ h2
  rcases Nat.lt_or_ge k l.length with hl | hl
  · exact hl
  · exact absurd (List.drop_eq_nil_of_le hl) h1
theorem head_ok {w : World} {a : Option Addr} {N cap k : Nat} {xs : List Value} (h : Lies w (.slice a N cap) N 1 xs) (h0 : k ≤ N) :
    ∃ R, (∀ W, (Instr.slice 89 (.slice a N cap) none (some (.int .i64 (k : Int))) none).run Tryd.prog W = .ok R W) ∧ Lies w R k 1 (xs.take k) := by
  have hc : N ≤ cap := by obtain ⟨-, a', cap', h1, h2, -⟩ := h; simp only [Value.slice.injEq, true_and] at h1; omega
  have h1 := take_lies (k := k) (cut_lies h (i := 0) (by omega)) (by omega)
  rw [Nat.zero_mul, List.drop_zero, Nat.mul_one] at h1
  refine ⟨_, fun W => ?_, h1⟩
  have e := run_slice_h (P := Tryd.prog) W 89 a N cap (by kernel_rfl) .i64 (k : Int) (by omega) (by omega)
  rw [e]
  show ((sizeOf (Tryd.prog.elem 89)).run Tryd.prog W).andThen _ = _
  rw [size_int]
  simp [sliced]
theorem rest_ok {w : World} {a : Option Addr} {N cap k : Nat} {xs : List Value} (h : Lies w (.slice a N cap) N 1 xs) (h0 : k ≤ N) :
    ∃ R, (∀ W, (Instr.slice 89 (.slice a N cap) (some (.int .i64 (k : Int))) none none).run Tryd.prog W = .ok R W) ∧ Lies w R (N - k) 1 (xs.drop k) := by
  have hc : N ≤ cap := by obtain ⟨-, a', cap', h1, h2, -⟩ := h; simp only [Value.slice.injEq, true_and] at h1; omega
  refine ⟨_, fun W => ?_, by have := cut_lies h (i := k) (by omega); rw [Nat.mul_one] at this; exact this⟩
  have e := run_slice_l (P := Tryd.prog) W 89 a N cap (by kernel_rfl) .i64 (k : Int) (by omega) (by omega)
  rw [e]
  show ((sizeOf (Tryd.prog.elem 89)).run Tryd.prog W).andThen _ = _
  rw [size_int]
  simp [sliced]
theorem puts_snoc (l zs : List Int) (k : Nat) (h : k < zs.length) : (zs.take (k + 1)).foldl put l = put ((zs.take k).foldl put l) (at' zs k) := by rw [at_snoc zs k h, List.foldl_append]; rfl
theorem puts_take_le (l zs : List Int) (k : Nat) : ((zs.take k).foldl put l).length ≤ l.length + k := by
  have h1 := puts_le (zs.take k) l
  have h2 := List.length_take_le k zs
  omega
end Go.Proofs.YtkmoekbicbjdmaaDoor.Ints
