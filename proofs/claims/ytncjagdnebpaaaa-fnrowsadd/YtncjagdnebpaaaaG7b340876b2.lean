/- My own texts of one claim, laid together by program: SampLaw, SampMark, SampCut, JoinMath. -/
import Derived.Test.YtncjagdnebpaaaaG5e89bfada3
import Derived.Test.YtncjagdnebpaaaaG9e2f2919bc
/- What the laws' own helpers do with slices of samples: they are copied, held against each other, marked and looked at again. -/
namespace Go.Proofs.Ytncjagdnebpaaaa.Samp
open Go.RowKit SampMath Rw
set_option linter.unusedVariables false
attribute [local go_sem ↓] Go.wp_at_zero Go.wp_at_succ
end Go.Proofs.Ytncjagdnebpaaaa.Samp

/- Marking samples of the call's own, and looking whether the marks are still there. -/
namespace Go.Proofs.Ytncjagdnebpaaaa.Samp
open Go.RowKit SampMath Rw
set_option linter.unusedVariables false
attribute [local go_sem ↓] Go.wp_at_zero Go.wp_at_succ
def marks (k0 : Int) (n : Nat) : List S := (List.range n).map fun i : Nat => (k0 + 2 * (i : Int), k0 + 2 * (i : Int) + 1)
theorem marks_length (k0 : Int) (n : Nat) : (marks k0 n).length = n := by simp [marks]
theorem marks_succ (k0 : Int) (n : Nat) : marks k0 (n + 1) = marks k0 n ++ [(k0 + 2 * (n : Int), k0 + 2 * (n : Int) + 1)] := by simp [marks, List.range_succ]
theorem marks_at (k0 : Int) (n i : Nat) (h : i < n) : at' (marks k0 n) i = (k0 + 2 * (i : Int), k0 + 2 * (i : Int) + 1) := by simp [marks, at', List.getD, h]
theorem smp_only {g : Nat} {a b : World} (h : OnlyAt g a b) {v : Value} {zs : List S} (hs : Smp a v zs) (hv : ∀ k, v.ownBlock = some k → k ≠ g) : Smp b v zs := by
  rcases hs with hs | ⟨c, off, cap, h1, h2, h3, h4, h5⟩
  · exact .inl hs
  · have hc : c ≠ g := hv c (by rw [h1]; rfl)
    have hcell : ∀ o, b.cell? ⟨c, o, none⟩ = a.cell? ⟨c, o, none⟩ := fun o => World.cell?_of_block (a := ⟨c, o, none⟩) (h.block c hc)
    exact .inr ⟨c, off, cap, h1, h2, h3, by rw [h.size]; exact h4, fun i hi => ⟨(hcell _).trans (h5 i hi).1, (hcell _).trans (h5 i hi).2⟩⟩
theorem own_marks {base : Nat} {v : Value} {n : Nat} {k0 : Int} {w : World} (h : w.ownsRow base 26 2 v n (flat (marks k0 n))) : Smp w v (marks k0 n) := by
  exact smp_of_own (by rw [marks_length]; exact h)
end Go.Proofs.Ytncjagdnebpaaaa.Samp

/- What SamplesCut answers, of the program and of the model, at every slice of samples. -/
namespace Go.Proofs.Ytncjagdnebpaaaa.Samp
open Go.RowKit SampMath Rw
set_option linter.unusedVariables false
attribute [local go_sem ↓] Go.wp_at_zero Go.wp_at_succ
def inT (f t : Int) (x : S) : Bool := decide (f ≤ x.1) && decide (x.1 < t)
def cutL (zs : List S) (f t : Int) : List S := zs.filter (inT f t)
def cut (zs : List S) (f t : Int) : List S := if ok zs = true then cutL zs f t else []
theorem cutL_snoc (zs : List S) (f t : Int) (k : Nat) (h : k < zs.length) : cutL (zs.take (k + 1)) f t = cutL (zs.take k) f t ++ if inT f t (at' zs k) = true then [at' zs k] else [] := by
  rw [at_snoc zs k h, cutL, List.filter_append, cutL]
  cases hh : inT f t (at' zs k) <;> simp [hh]
theorem cutL_le (zs : List S) (f t : Int) (k : Nat) : (cutL (zs.take k) f t).length ≤ k := by
  have h1 := List.length_filter_le (inT f t) (zs.take k)
  have h2 := List.length_take_le k zs
  unfold cutL
  omega
end Go.Proofs.Ytncjagdnebpaaaa.Samp

/- Samples of both, as plain mathematics: by time, each once; none if they have two numbers for one time. No condition. -/
namespace Go.Proofs.Ytncjagdnebpaaaa.SampMath
def merge : List S → List S → Option (List S)
  | [], b => some b
  | x :: a, [] => some (x :: a)
  | x :: a, y :: b =>
    if x.1 < y.1 then (merge a (y :: b)).map (x :: ·)
    else if y.1 < x.1 then (merge (x :: a) b).map (y :: ·)
    else if x.2 = y.2 then (merge a b).map (x :: ·) else none
theorem merge_nil (b : List S) : merge [] b = some b := by rw [merge]
theorem merge_nil_right (a : List S) : merge a [] = some a := by cases a <;> rw [merge]
theorem drop_at (zs : List S) (i : Nat) (h : i < zs.length) : zs.drop i = at' zs i :: zs.drop (i + 1) := by
  rw [List.drop_eq_getElem_cons h]; simp [at', List.getD, h]
/-- what the loops keep: the result is what is out, and what is left together -/
def MLeft (a b L : List S) (i j : Nat) : Prop := merge a b = (merge (a.drop i) (b.drop j)).map (L ++ ·)
theorem left_start (a b : List S) : MLeft a b [] 0 0 := by
  unfold MLeft
  simp
theorem left_first {a b L : List S} {i j : Nat} (h : MLeft a b L i j) (hi : i < a.length) (hj : j < b.length) (hlt : (at' a i).1 < (at' b j).1) : MLeft a b (L ++ [at' a i]) (i + 1) j := by
  unfold MLeft at *
  rw [h, drop_at a i hi, drop_at b j hj, merge, if_pos hlt, Option.map_map, ← drop_at b j hj]
  congr 1
  funext x
  simp
theorem left_second {a b L : List S} {i j : Nat} (h : MLeft a b L i j) (hi : i < a.length) (hj : j < b.length) (hlt : (at' b j).1 < (at' a i).1) : MLeft a b (L ++ [at' b j]) i (j + 1) := by
  unfold MLeft at *
  rw [h, drop_at a i hi, drop_at b j hj, merge, if_neg (by omega), if_pos hlt, Option.map_map, ← drop_at a i hi]
  congr 1
  funext x
  simp
theorem left_both {a b L : List S} {i j : Nat} (h : MLeft a b L i j) (hi : i < a.length) (hj : j < b.length) (ht : (at' a i).1 = (at' b j).1) (hv : (at' a i).2 = (at' b j).2) : MLeft a b (L ++ [at' a i]) (i + 1) (j + 1) := by
  unfold MLeft at *
  rw [h, drop_at a i hi, drop_at b j hj, merge, if_neg (by omega), if_neg (by omega), if_pos hv, Option.map_map]
  congr 1
  funext x
  simp
theorem left_clash {a b L : List S} {i j : Nat} (h : MLeft a b L i j) (hi : i < a.length) (hj : j < b.length) (ht : (at' a i).1 = (at' b j).1) (hv : (at' a i).2 ≠ (at' b j).2) : merge a b = none := by
  unfold MLeft at *
  rw [h, drop_at a i hi, drop_at b j hj, merge, if_neg (by omega), if_neg (by omega), if_neg hv]
  rfl
theorem left_end_a {a b L : List S} {i j : Nat} (h : MLeft a b L i j) (hi : a.length ≤ i) : merge a b = some (L ++ b.drop j) := by
  unfold MLeft at *
  rw [h, List.drop_eq_nil_of_le hi, merge_nil]
  rfl
theorem left_end_b {a b L : List S} {i j : Nat} (h : MLeft a b L i j) (hj : b.length ≤ j) : merge a b = some (L ++ a.drop i) := by
  unfold MLeft at *
  rw [h, List.drop_eq_nil_of_le hj, merge_nil_right]
  rfl
/-- what SamplesJoin answers -/
def join (a b : List S) : List S × Bool := if ok a = true ∧ ok b = true then (match merge a b with | some L => (L, true) | none => ([], false)) else ([], false)
theorem join_bad {a b : List S} (h : ok a = false ∨ ok b = false) : join a b = ([], false) := by
  unfold join
  rw [if_neg]
  rintro ⟨h1, h2⟩
  rcases h with h | h <;> simp_all
theorem join_some {a b L : List S} (h1 : ok a = true) (h2 : ok b = true) (h : merge a b = some L) : join a b = (L, true) := by
  unfold join
  rw [if_pos ⟨h1, h2⟩, h]
theorem join_none {a b : List S} (h1 : ok a = true) (h2 : ok b = true) (h : merge a b = none) : join a b = ([], false) := by
  unfold join
  rw [if_pos ⟨h1, h2⟩, h]
theorem merge_le : ∀ (a b L : List S), merge a b = some L → L.length ≤ a.length + b.length := by
  intro a b
  induction a, b using merge.induct with
  | case1 b => intro L h; rw [merge_nil] at h; cases h; simp
  | case2 x a => intro L h; rw [merge_nil_right] at h; cases h; simp
  | case3 x a y b hlt ih =>
    intro L h
    rw [merge, if_pos hlt] at h
    obtain ⟨M, hM, rfl⟩ := Option.map_eq_some_iff.1 h
    have := ih M hM
    simp only [List.length_cons] at *
    omega
  | case4 x a y b h1 hlt ih =>
    intro L h
    rw [merge, if_neg h1, if_pos hlt] at h
    obtain ⟨M, hM, rfl⟩ := Option.map_eq_some_iff.1 h
    have := ih M hM
    simp only [List.length_cons] at *
    omega
  | case5 x a y b h1 h2 hv ih =>
    intro L h
    rw [merge, if_neg h1, if_neg h2, if_pos hv] at h
    obtain ⟨M, hM, rfl⟩ := Option.map_eq_some_iff.1 h
    have := ih M hM
    simp only [List.length_cons] at *
    omega
  | case6 x a y b h1 h2 hv =>
    intro L h
    rw [merge, if_neg h1, if_neg h2, if_neg hv] at h
    cases h
theorem join_le (a b : List S) : (join a b).1.length ≤ a.length + b.length := by
  unfold join
  split
  · cases h : merge a b with
    | none => simp
    | some L => exact merge_le a b L h
  · simp
end Go.Proofs.Ytncjagdnebpaaaa.SampMath
