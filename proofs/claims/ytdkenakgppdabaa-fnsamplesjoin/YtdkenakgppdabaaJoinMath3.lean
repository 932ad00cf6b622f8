/- Samples of both, counted: they are ok, and as many as both have less those that both have; none just if there are two numbers for one time. No condition. -/
import Derived.Test.YtdkenakgppdabaaCutMath
import Derived.Test.YtdkenakgppdabaaJoinMath2
namespace Go.Proofs.Ytdkenakgppdabaa.SampMath
def clashR (x : S) (b : List S) : Bool := b.any fun y => decide (x.1 = y.1) && decide (x.2 ≠ y.2)
def sameR (x : S) (b : List S) : Nat := (b.filter fun y => decide (x = y)).length
def clashN (a b : List S) : Bool := a.any fun x => clashR x b
def sameN (a b : List S) : Nat := (a.map fun x => sameR x b).sum
theorem clashR_snoc (x y : S) (b : List S) : clashR x (b ++ [y]) = (clashR x b || (decide (x.1 = y.1) && decide (x.2 ≠ y.2))) := by simp [clashR]
theorem sameR_snoc (x y : S) (b : List S) : sameR x (b ++ [y]) = sameR x b + if x = y then 1 else 0 := by
  unfold sameR
  rw [List.filter_append, List.length_append]
  by_cases h : x = y <;> simp [h]
theorem clashN_snoc (a b : List S) (x : S) : clashN (a ++ [x]) b = (clashN a b || clashR x b) := by simp [clashN]
theorem sameN_snoc (a b : List S) (x : S) : sameN (a ++ [x]) b = sameN a b + sameR x b := by simp [sameN]
theorem clashR_none {x : S} {b : List S} (h : ∀ y ∈ b, x.1 ≠ y.1) : clashR x b = false := by
  unfold clashR
  rw [List.any_eq_false]
  intro y hy
  simp [h y hy]
theorem sameR_none {x : S} {b : List S} (h : ∀ y ∈ b, x.1 ≠ y.1) : sameR x b = 0 := by
  unfold sameR
  rw [List.length_eq_zero_iff, List.filter_eq_nil_iff]
  intro y hy
  have := h y hy
  simp only [decide_eq_true_eq]
  rintro rfl
  exact this rfl
theorem clashR_cons (x y : S) (b : List S) : clashR x (y :: b) = ((decide (x.1 = y.1) && decide (x.2 ≠ y.2)) || clashR x b) := by simp [clashR]
theorem sameR_cons (x y : S) (b : List S) : sameR x (y :: b) = (if x = y then 1 else 0) + sameR x b := by
  unfold sameR
  rw [List.filter_cons]
  by_cases h : x = y <;> simp [h]; omega
theorem clashN_skip {a : List S} {y : S} (b : List S) (h : ∀ x ∈ a, x.1 ≠ y.1) : clashN a (y :: b) = clashN a b := by
  induction a with
  | nil => rfl
  | cons x a ih =>
    have e : clashN (x :: a) (y :: b) = (clashR x (y :: b) || clashN a (y :: b)) := by simp [clashN]
    have e' : clashN (x :: a) b = (clashR x b || clashN a b) := by simp [clashN]
    rw [e, e', ih (fun z hz => h z (by simp [hz])), clashR_cons]
    have := h x (by simp)
    simp [this]
theorem sameN_skip {a : List S} {y : S} (b : List S) (h : ∀ x ∈ a, x.1 ≠ y.1) : sameN a (y :: b) = sameN a b := by
  induction a with
  | nil => rfl
  | cons x a ih =>
    have e : sameN (x :: a) (y :: b) = sameR x (y :: b) + sameN a (y :: b) := by simp [sameN]
    have e' : sameN (x :: a) b = sameR x b + sameN a b := by simp [sameN]
    rw [e, e', ih (fun z hz => h z (by simp [hz])), sameR_cons]
    have hx := h x (by simp)
    have : ¬ x = y := fun he => hx (by rw [he])
    simp [this]
theorem clashN_cons (x : S) (a b : List S) : clashN (x :: a) b = (clashR x b || clashN a b) := by simp [clashN]
theorem sameN_cons (x : S) (a b : List S) : sameN (x :: a) b = sameR x b + sameN a b := by simp [sameN]
def Up (a : List S) : Prop := a.Pairwise (fun x y => x.1 < y.1)
theorem up_cons {x : S} {a : List S} (h : Up (x :: a)) : (∀ y ∈ a, x.1 < y.1) ∧ Up a := List.pairwise_cons.1 h
theorem merge_says : ∀ (a b : List S), Up a → Up b → (clashN a b = true ∧ merge a b = none) ∨ (clashN a b = false ∧ ∃ L, merge a b = some L ∧ L.length + sameN a b = a.length + b.length ∧ Up L ∧ ∀ z ∈ L, z ∈ a ∨ z ∈ b) := by
  intro a b
  induction a, b using merge.induct with
  | case1 b => intro _ hb; exact .inr ⟨rfl, b, by rw [merge_nil], by simp [sameN], hb, fun z hz => .inr hz⟩
  | case2 x a =>
    intro ha _
    refine .inr ⟨?_, x :: a, by rw [merge_nil_right], ?_, ha, fun z hz => .inl hz⟩
    · simp [clashN, clashR]
    · have : ∀ l : List S, sameN l [] = 0 := by
        intro l
        induction l with
        | nil => rfl
        | cons y l ih => rw [sameN_cons, ih]; rfl
      rw [this]; simp
  | case3 x a y b hlt ih =>
    intro ha hb
    have hx := up_cons ha
    have hy := up_cons hb
    have hne : ∀ z ∈ y :: b, x.1 ≠ z.1 := by
      intro z hz
      rcases List.mem_cons.1 hz with rfl | hz
      · omega
      · have := hy.1 z hz; omega
    rw [clashN_cons, clashR_none hne, Bool.false_or, sameN_cons, sameR_none hne, Nat.zero_add, merge, if_pos hlt]
    rcases ih hx.2 hb with ⟨h1, h2⟩ | ⟨h1, L, h2, h3, h4, h5⟩
    · exact .inl ⟨h1, by rw [h2]; rfl⟩
    · refine .inr ⟨h1, x :: L, by rw [h2]; rfl, by simp only [List.length_cons] at *; omega, ?_, ?_⟩
      · refine List.pairwise_cons.2 ⟨fun z hz => ?_, h4⟩
        rcases h5 z hz with h | h
        · exact hx.1 z h
        · rcases List.mem_cons.1 h with rfl | h
          · exact hlt
          · have := hy.1 z h; omega
      · intro z hz
        rcases List.mem_cons.1 hz with rfl | hz
        · exact .inl (by simp)
        · rcases h5 z hz with h | h
          · exact .inl (by simp [h])
          · exact .inr h
  | case4 x a y b h1 hlt ih =>
    intro ha hb
    have hx := up_cons ha
    have hy := up_cons hb
    have hne : ∀ z ∈ x :: a, z.1 ≠ y.1 := by
      intro z hz
      rcases List.mem_cons.1 hz with rfl | hz
      · omega
      · have := hx.1 z hz; omega
    rw [clashN_skip b hne, sameN_skip b hne, merge, if_neg h1, if_pos hlt]
    rcases ih ha hy.2 with ⟨g1, g2⟩ | ⟨g1, L, g2, g3, g4, g5⟩
    · exact .inl ⟨g1, by rw [g2]; rfl⟩
    · refine .inr ⟨g1, y :: L, by rw [g2]; rfl, by simp only [List.length_cons] at *; omega, ?_, ?_⟩
      · refine List.pairwise_cons.2 ⟨fun z hz => ?_, g4⟩
        rcases g5 z hz with h | h
        · rcases List.mem_cons.1 h with rfl | h
          · exact hlt
          · have := hx.1 z h; omega
        · exact hy.1 z h
      · intro z hz
        rcases List.mem_cons.1 hz with rfl | hz
        · exact .inr (by simp)
        · rcases g5 z hz with h | h
          · exact .inl h
          · exact .inr (by simp [h])
  | case5 x a y b h1 h2 hv ih =>
    intro ha hb
    have hx := up_cons ha
    have hy := up_cons hb
    have e : x = y := Prod.ext (by omega) hv
    subst e
    have hne : ∀ z ∈ b, x.1 ≠ z.1 := fun z hz => by have := hy.1 z hz; omega
    have hne' : ∀ z ∈ a, z.1 ≠ x.1 := fun z hz => by have := hx.1 z hz; omega
    rw [clashN_cons, clashR_cons, clashR_none hne, clashN_skip b hne', sameN_cons, sameR_cons, sameR_none hne, sameN_skip b hne', if_pos rfl, merge, if_neg h1, if_neg h2, if_pos hv]
    rcases ih hx.2 hy.2 with ⟨g1, g2⟩ | ⟨g1, L, g2, g3, g4, g5⟩
    · exact .inl ⟨by rw [g1]; simp, by rw [g2]; rfl⟩
    · refine .inr ⟨by rw [g1]; simp, x :: L, by rw [g2]; rfl, by simp only [List.length_cons] at *; omega, ?_, ?_⟩
      · refine List.pairwise_cons.2 ⟨fun z hz => ?_, g4⟩
        rcases g5 z hz with h | h
        · exact hx.1 z h
        · exact hy.1 z h
      · intro z hz
        rcases List.mem_cons.1 hz with rfl | hz
        · exact .inl (by simp)
        · rcases g5 z hz with h | h
          · exact .inl (by simp [h])
          · exact .inr (by simp [h])
  | case6 x a y b h1 h2 hv =>
    intro ha hb
    refine .inl ⟨?_, by rw [merge, if_neg h1, if_neg h2, if_neg hv]⟩
    rw [clashN_cons, clashR_cons]
    have e : x.1 = y.1 := by omega
    simp [e, hv]
/-- what the law asks of a join -/
theorem join_says {a b : List S} (h1 : ok a = true) (h2 : ok b = true) : (clashN a b = true ∧ join a b = ([], false)) ∨ (clashN a b = false ∧ ∃ L, join a b = (L, true) ∧ L.length + sameN a b = a.length + b.length ∧ ok L = true) := by
  have i1 := (Samp.ok_iff a).1 h1
  have i2 := (Samp.ok_iff b).1 h2
  rcases merge_says a b i1.2 i2.2 with ⟨g1, g2⟩ | ⟨g1, L, g2, g3, g4, g5⟩
  · exact .inl ⟨g1, join_none h1 h2 g2⟩
  · refine .inr ⟨g1, L, join_some h1 h2 g2, g3, (Samp.ok_iff L).2 ⟨fun z hz => ?_, g4⟩⟩
    rcases g5 z hz with h | h
    · exact i1.1 z h
    · exact i2.1 z h
theorem sameN_le (a b : List S) (h1 : ok a = true) (h2 : ok b = true) (hc : clashN a b = false) : sameN a b ≤ a.length + b.length := by
  rcases join_says h1 h2 with ⟨g1, _⟩ | ⟨_, L, _, g3, _⟩
  · rw [g1] at hc; cases hc
  · omega
theorem sameR_le (x : S) (b : List S) : sameR x b ≤ b.length := List.length_filter_le _ _
theorem sameN_le2 : ∀ (a b : List S), sameN a b ≤ a.length * b.length
  | [], b => by simp [sameN]
  | x :: a, b => by
    have := sameN_le2 a b
    have := sameR_le x b
    rw [sameN_cons, List.length_cons, Nat.add_mul]
    omega
end Go.Proofs.Ytdkenakgppdabaa.SampMath
