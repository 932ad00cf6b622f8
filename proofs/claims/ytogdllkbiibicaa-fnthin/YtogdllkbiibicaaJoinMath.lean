/- Samples of both, as plain mathematics: by time, each once; none if they have two numbers for one time. No condition. -/
import Derived.Test.YtogdllkbiibicaaSampMath
namespace Go.Proofs.Ytogdllkbiibicaa.SampMath
def merge : List S → List S → Option (List S)
  | [], b => some b
  | x :: a, [] => some (x :: a)
  | x :: a, y :: b =>
    if x.1 < y.1 then (merge a (y :: b)).map (x :: ·)
    else if y.1 < x.1 then (merge (x :: a) b).map (y :: ·)
    else if x.2 = y.2 then (merge a b).map (x :: ·) else none
theorem merge_nil (b : List S) : merge [] b = some b := by rw [merge]
theorem merge_nil_right (a : List S) : merge a [] = some a := by cases a <;> rw [merge]
theorem drop_at (zs : List S) (i : Nat) (h : i < zs.length) : zs.drop i = at' zs i :: zs.drop (i + 1) := by
  rw [List.drop_eq_getElem_cons h]; simp [at', List.getD, h]
/-- what the loops keep: the result is what is out, and what is left together -/
def MLeft (a b L : List S) (i j : Nat) : Prop := merge a b = (merge (a.drop i) (b.drop j)).map (L ++ ·)
theorem left_start (a b : List S) : MLeft a b [] 0 0 := by
  unfold MLeft
  simp
theorem left_first {a b L : List S} {i j : Nat} (h : MLeft a b L i j) (hi : i < a.length) (hj : j < b.length) (hlt : (at' a i).1 < (at' b j).1) : MLeft a b (L ++ [at' a i]) (i + 1) j := by
  unfold MLeft at *
  rw [h, drop_at a i hi, drop_at b j hj, merge, if_pos hlt, Option.map_map, ← drop_at b j hj]
  congr 1
  funext x
  simp
theorem left_second {a b L : List S} {i j : Nat} (h : MLeft a b L i j) (hi : i < a.length) (hj : j < b.length) (hlt : (at' b j).1 < (at' a i).1) : MLeft a b (L ++ [at' b j]) i (j + 1) := by
  unfold MLeft at *
  rw [h, drop_at a i hi, drop_at b j hj, merge, if_neg (by omega), if_pos hlt, Option.map_map, ← drop_at a i hi]
  congr 1
  funext x
  simp
theorem left_both {a b L : List S} {i j : Nat} (h : MLeft a b L i j) (hi : i < a.length) (hj : j < b.length) (ht : (at' a i).1 = (at' b j).1) (hv : (at' a i).2 = (at' b j).2) : MLeft a b (L ++ [at' a i]) (i + 1) (j + 1) := by
  unfold MLeft at *
  rw [h, drop_at a i hi, drop_at b j hj, merge, if_neg (by omega), if_neg (by omega), if_pos hv, Option.map_map]
  congr 1
  funext x
  simp
theorem left_clash {a b L : List S} {i j : Nat} (h : MLeft a b L i j) (hi : i < a.length) (hj : j < b.length) (ht : (at' a i).1 = (at' b j).1) (hv : (at' a i).2 ≠ (at' b j).2) : merge a b = none := by
  unfold MLeft at *
  rw [h, drop_at a i hi, drop_at b j hj, merge, if_neg (by omega), if_neg (by omega), if_neg hv]
  rfl
theorem left_end_a {a b L : List S} {i j : Nat} (h : MLeft a b L i j) (hi : a.length ≤ i) : merge a b = some (L ++ b.drop j) := by
  unfold MLeft at *
  rw [h, List.drop_eq_nil_of_le hi, merge_nil]
  rfl
theorem left_end_b {a b L : List S} {i j : Nat} (h : MLeft a b L i j) (hj : b.length ≤ j) : merge a b = some (L ++ a.drop i) := by
  unfold MLeft at *
  rw [h, List.drop_eq_nil_of_le hj, merge_nil_right]
  rfl
/-- what SamplesJoin answers -/
def join (a b : List S) : List S × Bool := if ok a = true ∧ ok b = true then (match merge a b with | some L => (L, true) | none => ([], false)) else ([], false)
theorem join_bad {a b : List S} (h : ok a = false ∨ ok b = false) : join a b = ([], false) := by
  unfold join
  rw [if_neg]
  rintro ⟨h1, h2⟩
  rcases h with h | h <;> simp_all
theorem join_some {a b L : List S} (h1 : ok a = true) (h2 : ok b = true) (h : merge a b = some L) : join a b = (L, true) := by
  unfold join
  rw [if_pos ⟨h1, h2⟩, h]
theorem join_none {a b : List S} (h1 : ok a = true) (h2 : ok b = true) (h : merge a b = none) : join a b = ([], false) := by
  unfold join
  rw [if_pos ⟨h1, h2⟩, h]
theorem merge_le : ∀ (a b L : List S), merge a b = some L → L.length ≤ a.length + b.length := by
  intro a b
  induction a, b using merge.induct with
  | case1 b => intro L h; rw [merge_nil] at h; cases h; simp
  | case2 x a => intro L h; rw [merge_nil_right] at h; cases h; simp
  | case3 x a y b hlt ih =>
    intro L h
    rw [merge, if_pos hlt] at h
    obtain ⟨M, hM, rfl⟩ := Option.map_eq_some_iff.1 h
    have := ih M hM
    simp only [List.length_cons] at *
    omega
  | case4 x a y b h1 hlt ih =>
    intro L h
    rw [merge, if_neg h1, if_pos hlt] at h
    obtain ⟨M, hM, rfl⟩ := Option.map_eq_some_iff.1 h
    have := ih M hM
    simp only [List.length_cons] at *
    omega
  | case5 x a y b h1 h2 hv ih =>
    intro L h
    rw [merge, if_neg h1, if_neg h2, if_pos hv] at h
    obtain ⟨M, hM, rfl⟩ := Option.map_eq_some_iff.1 h
    have := ih M hM
    simp only [List.length_cons] at *
    omega
  | case6 x a y b h1 h2 hv =>
    intro L h
    rw [merge, if_neg h1, if_neg h2, if_neg hv] at h
    cases h
theorem join_le (a b : List S) : (join a b).1.length ≤ a.length + b.length := by
  unfold join
  split
  · cases h : merge a b with
    | none => simp
    | some L => exact merge_le a b L h
  · simp
end Go.Proofs.Ytogdllkbiibicaa.SampMath
