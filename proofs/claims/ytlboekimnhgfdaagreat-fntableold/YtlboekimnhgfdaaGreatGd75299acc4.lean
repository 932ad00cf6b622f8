/- My own texts of one claim, laid together by program: RowTopMath, WinMath, JoinMath2, JoinMath3. -/
import Derived.Test.YtlboekimnhgfdaaGreatG5cddafb44b
import Derived.Test.YtlboekimnhgfdaaGreatGe6c639e8f1
import Derived.Test.YtlboekimnhgfdaaGreatG89eac1f0c5
import Derived.Test.YtlboekimnhgfdaaGreatGe28bc76aa9
/- The rows with the greatest last numbers, as plain mathematics. -/
namespace Go.Proofs.YtlboekimnhgfdaaGreat.Row
theorem cmp_lt {a b c : List Lab.E} (h1 : Lab.cmpL a b < 0) (h2 : Lab.cmpL b c < 0) : Lab.cmpL a c < 0 := by
  have t := Lab.ordL.trans a b c (by omega) (by omega)
  by_cases e : Lab.cmpL a c = 0
  · have := Lab.ordL.zero a c e
    subst this
    have := Lab.ordL.anti a b
    omega
  · omega
theorem ok_lt {zs : List E} (h : ok zs = true) {i j : Nat} (hij : i < j) (hj : j < zs.length) : Lab.cmpL (at' zs i).1 (at' zs j).1 < 0 := by
  induction j with
  | zero => omega
  | succ j ih =>
    have h1 := ok_at h hj
    unfold stepOk at h1
    simp only [Bool.and_eq_true, Bool.or_eq_true, Nat.add_sub_cancel, decide_eq_true_eq, beq_iff_eq] at h1
    have h2 : Lab.cmpL (at' zs j).1 (at' zs (j + 1)).1 < 0 := by
      rcases h1.2 with h | h
      · omega
      · exact h
    by_cases e : i = j
    · subst e; exact h2
    · exact cmp_lt (ih (by omega) (by omega)) h2
theorem ok_iff (zs : List E) : ok zs = true ↔ (∀ x ∈ zs, rowB x = true) ∧ zs.Pairwise (fun a b => Lab.cmpL a.1 b.1 < 0) ∧ zs.length ≤ 10 := by
  constructor
  · intro h
    refine ⟨fun x hx => ?_, ?_, ok_len h⟩
    · obtain ⟨i, hi, rfl⟩ := List.getElem_of_mem hx
      have := ok_at h hi
      unfold stepOk at this
      rw [Bool.and_eq_true] at this
      rw [← at_get zs i hi]
      exact this.1
    · rw [List.pairwise_iff_getElem]
      intro i j hi hj hij
      have := ok_lt h hij hj
      rwa [at_get zs i hi, at_get zs j hj] at this
  · rintro ⟨h1, h2, h3⟩
    unfold ok okTo
    rw [Bool.and_eq_true]
    refine ⟨List.all_eq_true.2 fun i hi => ?_, decide_eq_true h3⟩
    have hi := List.mem_range.1 hi
    unfold stepOk
    rw [Bool.and_eq_true]
    refine ⟨by rw [at_get zs i hi]; exact h1 _ (List.getElem_mem _), ?_⟩
    rcases Nat.eq_zero_or_pos i with h0 | h0
    · simp [h0]
    · rw [List.pairwise_iff_getElem] at h2
      have := h2 (i - 1) i (by omega) hi (by omega)
      rw [← at_get zs (i - 1) (by omega), ← at_get zs i hi] at this
      simp [this]
theorem ok_sub {zs ys : List E} (h : ok zs = true) (hs : ys.Sublist zs) : ok ys = true := by
  rw [ok_iff] at h ⊢
  exact ⟨fun x hx => h.1 x (hs.subset hx), h.2.1.sublist hs, Nat.le_trans hs.length_le h.2.2⟩
def lastV (x : E) : Int := (SampMath.at' x.2 (x.2.length - 1)).2
def ahead (zs : List E) (j i : Nat) : Bool := decide (lastV (at' zs i) < lastV (at' zs j)) || (decide (lastV (at' zs j) = lastV (at' zs i)) && decide (j < i))
def rankTo (zs : List E) (i : Nat) : Nat → Nat
  | 0 => 0
  | k + 1 => rankTo zs i k + if ahead zs k i = true then 1 else 0
theorem rankTo_le (zs : List E) (i k : Nat) : rankTo zs i k ≤ k := by
  induction k with
  | zero => exact Nat.le_refl _
  | succ k ih => rw [rankTo]; split <;> omega
def topTo (zs : List E) (most : Int) : Nat → List E
  | 0 => []
  | k + 1 => topTo zs most k ++ if (rankTo zs k zs.length : Int) < most then [at' zs k] else []
theorem topTo_sub (zs : List E) (most : Int) : ∀ k, k ≤ zs.length → (topTo zs most k).Sublist (zs.take k) := by
  intro k
  induction k with
  | zero => intro _; exact List.Sublist.refl _
  | succ k ih =>
    intro h
    rw [topTo, at_snoc zs k (by omega)]
    refine (ih (by omega)).append ?_
    split
    · exact List.Sublist.refl _
    · exact List.nil_sublist _
def top (most : Int) (zs : List E) : List E := if ok zs = true then topTo zs most zs.length else []
theorem top_sub (most : Int) (zs : List E) : (top most zs).Sublist zs := by
  unfold top
  split
  · have := topTo_sub zs most zs.length (Nat.le_refl _); rwa [List.take_length] at this
  · exact List.nil_sublist _
theorem topTo_ok {zs : List E} (most : Int) (h : ok zs = true) : ok (topTo zs most zs.length) = true := by
  have := topTo_sub zs most zs.length (Nat.le_refl _)
  rw [List.take_length] at this
  exact ok_sub h this
theorem topTo_le (zs : List E) (most : Int) (k : Nat) : (topTo zs most k).length ≤ k := by
  induction k with
  | zero => exact Nat.le_refl _
  | succ k ih => rw [topTo, List.length_append]; split <;> simp <;> omega
theorem topTo_yes {zs : List E} {most : Int} {k : Nat} (h : (rankTo zs k zs.length : Int) < most) : topTo zs most (k + 1) = topTo zs most k ++ [at' zs k] := by rw [topTo, if_pos h]
theorem topTo_no {zs : List E} {most : Int} {k : Nat} (h : ¬ (rankTo zs k zs.length : Int) < most) : topTo zs most (k + 1) = topTo zs most k := by rw [topTo, if_neg h, List.append_nil]
theorem rank_yes {zs : List E} {i k : Nat} (h : ahead zs k i = true) : rankTo zs i (k + 1) = rankTo zs i k + 1 := by rw [rankTo, if_pos h]
theorem rank_no {zs : List E} {i k : Nat} (h : ahead zs k i = false) : rankTo zs i (k + 1) = rankTo zs i k := by rw [rankTo, h]; rfl
end Go.Proofs.YtlboekimnhgfdaaGreat.Row

/- Whiles, as plain mathematics: by how much samples rose, samples made less. No condition. -/
namespace Go.Proofs.YtlboekimnhgfdaaGreat.SampMath
theorem ok_ge {zs : List S} (h : ok zs = true) : ∀ k, k < zs.length → (k : Int) ≤ (at' zs k).1 := by
  intro k hk
  induction k with
  | zero => exact (ok_range h hk).1
  | succ k ih =>
    have h1 := ih (by omega)
    have h2 := ok_step h hk
    omega
theorem ok_len {zs : List S} (h : ok zs = true) : zs.length ≤ 10000 := by
  by_cases h0 : zs.length = 0
  · omega
  · have h1 := ok_ge h (zs.length - 1) (by omega)
    have h2 := (ok_range h (k := zs.length - 1) (by omega)).2.1
    omega
/-- by how much the number at a place rose -/
def up (zs : List S) (i : Nat) : Int := if (at' zs (i - 1)).2 ≤ (at' zs i).2 then (at' zs i).2 - (at' zs (i - 1)).2 else (at' zs i).2
/-- from the place 1 on up to the place k -/
def upTo (zs : List S) : Nat → Int
  | 0 => 0
  | k + 1 => if k = 0 then 0 else upTo zs k + up zs k
theorem upTo_one (zs : List S) : upTo zs 1 = 0 := rfl
theorem upTo_succ (zs : List S) (k : Nat) (h : 0 < k) : upTo zs (k + 1) = upTo zs k + up zs k := by
  show (if k = 0 then 0 else upTo zs k + up zs k) = _
  rw [if_neg (by omega)]
def rises (zs : List S) : Int := if ok zs = true then upTo zs zs.length else 0
theorem up_range {zs : List S} (h : ok zs = true) {i : Nat} (h1 : 0 < i) (h2 : i < zs.length) : 0 ≤ up zs i ∧ up zs i ≤ 2147483647 := by
  have a := ok_range h h2
  have b := ok_range h (k := i - 1) (by omega)
  unfold up
  split <;> omega
theorem upTo_range {zs : List S} (h : ok zs = true) : ∀ k, k ≤ zs.length → 0 ≤ upTo zs k ∧ upTo zs k ≤ 2147483647 * (k : Int) := by
  intro k
  induction k with
  | zero => intro _; exact ⟨Int.le_refl _, by show (0 : Int) ≤ _; omega⟩
  | succ k ih =>
    intro hk
    by_cases h0 : k = 0
    · subst h0; rw [upTo_one]; omega
    · have a := ih (by omega)
      have b := up_range h (i := k) (by omega) (by omega)
      rw [upTo_succ zs k (by omega)]
      omega
theorem up_yes {zs : List S} {i : Nat} (h : (at' zs (i - 1)).2 ≤ (at' zs i).2) : up zs i = (at' zs i).2 - (at' zs (i - 1)).2 := if_pos h
theorem up_no {zs : List S} {i : Nat} (h : ¬ (at' zs (i - 1)).2 ≤ (at' zs i).2) : up zs i = (at' zs i).2 := if_neg h
/-- whether the sample at a place is the last of its while -/
def lastW (zs : List S) (st : Int) (k : Nat) : Bool := decide (k + 1 = zs.length) || decide ((at' zs (k + 1)).1 / st ≠ (at' zs k).1 / st)
def thinTo (zs : List S) (st : Int) : Nat → List S
  | 0 => []
  | k + 1 => thinTo zs st k ++ if lastW zs st k = true then [at' zs k] else []
def thinB (st : Int) : Bool := decide (1 ≤ st) && decide (st ≤ 9999)
def thin (zs : List S) (st : Int) : List S := if ok zs = true ∧ thinB st = true then thinTo zs st zs.length else []
theorem thinTo_le (zs : List S) (st : Int) : ∀ k, (thinTo zs st k).length ≤ k := by
  intro k
  induction k with
  | zero => exact Nat.le_refl _
  | succ k ih => rw [thinTo, List.length_append]; split <;> simp <;> omega
theorem thinTo_yes {zs : List S} {st : Int} {k : Nat} (h : lastW zs st k = true) : thinTo zs st (k + 1) = thinTo zs st k ++ [at' zs k] := by rw [thinTo, h]; rfl
theorem thinTo_no {zs : List S} {st : Int} {k : Nat} (h : lastW zs st k = false) : thinTo zs st (k + 1) = thinTo zs st k := by rw [thinTo, h]; simp
theorem lastW_end {zs : List S} {st : Int} {k : Nat} (h : k + 1 = zs.length) : lastW zs st k = true := by unfold lastW; rw [decide_eq_true h]; rfl
theorem lastW_far {zs : List S} {st : Int} {k : Nat} (h : (at' zs (k + 1)).1 / st ≠ (at' zs k).1 / st) : lastW zs st k = true := by unfold lastW; rw [decide_eq_true h, Bool.or_true]
theorem lastW_near {zs : List S} {st : Int} {k : Nat} (h : k + 1 ≠ zs.length) (h' : (at' zs (k + 1)).1 / st = (at' zs k).1 / st) : lastW zs st k = false := by
  unfold lastW; rw [decide_eq_false h, decide_eq_false (by simpa using h')]; rfl
theorem thin_le (zs : List S) (st : Int) : (thin zs st).length ≤ zs.length := by
  unfold thin
  split
  · exact thinTo_le _ _ _
  · simp
/-- what stands there behind so many samples, the last of them being still open -/
def foldTo (zs : List S) (st : Int) : Nat → List S
  | 0 => []
  | k + 1 => thinTo zs st k ++ [at' zs k]
theorem foldTo_len (zs : List S) (st : Int) (k : Nat) : (foldTo zs st k).length ≤ k := by
  cases k with
  | zero => exact Nat.le_refl _
  | succ k => have := thinTo_le zs st k; rw [foldTo, List.length_append]; simp; omega
theorem foldTo_end (zs : List S) (st : Int) : foldTo zs st zs.length = thinTo zs st zs.length := by
  cases h : zs.length with
  | zero => rfl
  | succ k => rw [foldTo, thinTo_yes (lastW_end (by omega))]
end Go.Proofs.YtlboekimnhgfdaaGreat.SampMath

/- It does not matter which samples are first; with themselves they are the same. No condition. -/
namespace Go.Proofs.YtlboekimnhgfdaaGreat.SampMath
theorem merge_comm (a : List S) : ∀ b : List S, merge a b = merge b a := by
  induction a with
  | nil => intro b; rw [merge_nil, merge_nil_right]
  | cons x a iha =>
    intro b
    induction b with
    | nil => rw [merge_nil, merge_nil_right]
    | cons y b ihb =>
      rw [merge, merge]
      by_cases h1 : x.1 < y.1
      · have h2 : ¬ y.1 < x.1 := by omega
        rw [if_pos h1, if_neg h2, if_pos h1, iha]
      · rw [if_neg h1]
        by_cases h2 : y.1 < x.1
        · rw [if_pos h2, if_pos h2, ihb]
        · rw [if_neg h2, if_neg h2, if_neg h1]
          by_cases h3 : x.2 = y.2
          · have e : x = y := Prod.ext (by omega) h3
            rw [if_pos h3, if_pos h3.symm, iha, e]
          · rw [if_neg h3, if_neg (fun h => h3 h.symm)]
theorem merge_self (a : List S) : merge a a = some a := by
  induction a with
  | nil => rw [merge_nil]
  | cons x a ih =>
    rw [merge, if_neg (by omega), if_neg (by omega), if_pos rfl, ih]
    rfl
theorem join_comm (a b : List S) : join a b = join b a := by
  unfold join
  rw [merge_comm a b]
  by_cases h : ok a = true ∧ ok b = true
  · rw [if_pos h, if_pos ⟨h.2, h.1⟩]
  · rw [if_neg h, if_neg (fun h' => h ⟨h'.2, h'.1⟩)]
theorem join_self {a : List S} (h : ok a = true) : join a a = (a, true) := join_some h h (merge_self a)
end Go.Proofs.YtlboekimnhgfdaaGreat.SampMath

/- Samples of both, counted: they are ok, and as many as both have less those that both have; none just if there are two numbers for one time. No condition. -/
namespace Go.Proofs.YtlboekimnhgfdaaGreat.SampMath
def clashR (x : S) (b : List S) : Bool := b.any fun y => decide (x.1 = y.1) && decide (x.2 ≠ y.2)
def sameR (x : S) (b : List S) : Nat := (b.filter fun y => decide (x = y)).length
def clashN (a b : List S) : Bool := a.any fun x => clashR x b
def sameN (a b : List S) : Nat := (a.map fun x => sameR x b).sum
theorem clashR_snoc (x y : S) (b : List S) : clashR x (b ++ [y]) = (clashR x b || (decide (x.1 = y.1) && decide (x.2 ≠ y.2))) := by simp [clashR]
theorem sameR_snoc (x y : S) (b : List S) : sameR x (b ++ [y]) = sameR x b + if x = y then 1 else 0 := by
  unfold sameR
  rw [List.filter_append, List.length_append]
  by_cases h : x = y <;> simp [h]
theorem clashN_snoc (a b : List S) (x : S) : clashN (a ++ [x]) b = (clashN a b || clashR x b) := by simp [clashN]
theorem sameN_snoc (a b : List S) (x : S) : sameN (a ++ [x]) b = sameN a b + sameR x b := by simp [sameN]
theorem clashR_none {x : S} {b : List S} (h : ∀ y ∈ b, x.1 ≠ y.1) : clashR x b = false := by
  unfold clashR
  rw [List.any_eq_false]
  intro y hy
  simp [h y hy]
theorem sameR_none {x : S} {b : List S} (h : ∀ y ∈ b, x.1 ≠ y.1) : sameR x b = 0 := by
  unfold sameR
  rw [List.length_eq_zero_iff, List.filter_eq_nil_iff]
  intro y hy
  have := h y hy
  simp only [decide_eq_true_eq]
  rintro rfl
  exact this rfl
theorem clashR_cons (x y : S) (b : List S) : clashR x (y :: b) = ((decide (x.1 = y.1) && decide (x.2 ≠ y.2)) || clashR x b) := by simp [clashR]
theorem sameR_cons (x y : S) (b : List S) : sameR x (y :: b) = (if x = y then 1 else 0) + sameR x b := by
  unfold sameR
  rw [List.filter_cons]
  by_cases h : x = y <;> simp [h]; omega
theorem clashN_skip {a : List S} {y : S} (b : List S) (h : ∀ x ∈ a, x.1 ≠ y.1) : clashN a (y :: b) = clashN a b := by
  induction a with
  | nil => rfl
  | cons x a ih =>
    have e : clashN (x :: a) (y :: b) = (clashR x (y :: b) || clashN a (y :: b)) := by simp [clashN]
    have e' : clashN (x :: a) b = (clashR x b || clashN a b) := by simp [clashN]
    rw [e, e', ih (fun z hz => h z (by simp [hz])), clashR_cons]
    have := h x (by simp)
    simp [this]
theorem sameN_skip {a : List S} {y : S} (b : List S) (h : ∀ x ∈ a, x.1 ≠ y.1) : sameN a (y :: b) = sameN a b := by
  induction a with
  | nil => rfl
  | cons x a ih =>
    have e : sameN (x :: a) (y :: b) = sameR x (y :: b) + sameN a (y :: b) := by simp [sameN]
    have e' : sameN (x :: a) b = sameR x b + sameN a b := by simp [sameN]
    rw [e, e', ih (fun z hz => h z (by simp [hz])), sameR_cons]
    have hx := h x (by simp)
    have : ¬ x = y := fun he => hx (by rw [he])
    simp [this]
theorem clashN_cons (x : S) (a b : List S) : clashN (x :: a) b = (clashR x b || clashN a b) := by simp [clashN]
theorem sameN_cons (x : S) (a b : List S) : sameN (x :: a) b = sameR x b + sameN a b := by simp [sameN]
def Up (a : List S) : Prop := a.Pairwise (fun x y => x.1 < y.1)
theorem up_cons {x : S} {a : List S} (h : Up (x :: a)) : (∀ y ∈ a, x.1 < y.1) ∧ Up a := List.pairwise_cons.1 h
theorem merge_says : ∀ (a b : List S), Up a → Up b → (clashN a b = true ∧ merge a b = none) ∨ (clashN a b = false ∧ ∃ L, merge a b = some L ∧ L.length + sameN a b = a.length + b.length ∧ Up L ∧ ∀ z ∈ L, z ∈ a ∨ z ∈ b) := by
  intro a b
  induction a, b using merge.induct with
  | case1 b => intro _ hb; exact .inr ⟨rfl, b, by rw [merge_nil], by simp [sameN], hb, fun z hz => .inr hz⟩
  | case2 x a =>
    intro ha _
    refine .inr ⟨?_, x :: a, by rw [merge_nil_right], ?_, ha, fun z hz => .inl hz⟩
    · simp [clashN, clashR]
    · have : ∀ l : List S, sameN l [] = 0 := by
        intro l
        induction l with
        | nil => rfl
        | cons y l ih => rw [sameN_cons, ih]; rfl
      rw [this]; simp
  | case3 x a y b hlt ih =>
    intro ha hb
    have hx := up_cons ha
    have hy := up_cons hb
    have hne : ∀ z ∈ y :: b, x.1 ≠ z.1 := by
      intro z hz
      rcases List.mem_cons.1 hz with rfl | hz
      · omega
      · have := hy.1 z hz; omega
    rw [clashN_cons, clashR_none hne, Bool.false_or, sameN_cons, sameR_none hne, Nat.zero_add, merge, if_pos hlt]
    rcases ih hx.2 hb with ⟨h1, h2⟩ | ⟨h1, L, h2, h3, h4, h5⟩
    · exact .inl ⟨h1, by rw [h2]; rfl⟩
    · refine .inr ⟨h1, x :: L, by rw [h2]; rfl, by simp only [List.length_cons] at *; omega, ?_, ?_⟩
      · refine List.pairwise_cons.2 ⟨fun z hz => ?_, h4⟩
        rcases h5 z hz with h | h
        · exact hx.1 z h
        · rcases List.mem_cons.1 h with rfl | h
          · exact hlt
          · have := hy.1 z h; omega
      · intro z hz
        rcases List.mem_cons.1 hz with rfl | hz
        · exact .inl (by simp)
        · rcases h5 z hz with h | h
          · exact .inl (by simp [h])
          · exact .inr h
  | case4 x a y b h1 hlt ih =>
    intro ha hb
    have hx := up_cons ha
    have hy := up_cons hb
    have hne : ∀ z ∈ x :: a, z.1 ≠ y.1 := by
      intro z hz
      rcases List.mem_cons.1 hz with rfl | hz
      · omega
      · have := hx.1 z hz; omega
    rw [clashN_skip b hne, sameN_skip b hne, merge, if_neg h1, if_pos hlt]
    rcases ih ha hy.2 with ⟨g1, g2⟩ | ⟨g1, L, g2, g3, g4, g5⟩
    · exact .inl ⟨g1, by rw [g2]; rfl⟩
    · refine .inr ⟨g1, y :: L, by rw [g2]; rfl, by simp only [List.length_cons] at *; omega, ?_, ?_⟩
      · refine List.pairwise_cons.2 ⟨fun z hz => ?_, g4⟩
        rcases g5 z hz with h | h
        · rcases List.mem_cons.1 h with rfl | h
          · exact hlt
          · have := hx.1 z h; omega
        · exact hy.1 z h
      · intro z hz
        rcases List.mem_cons.1 hz with rfl | hz
        · exact .inr (by simp)
        · rcases g5 z hz with h | h
          · exact .inl h
          · exact .inr (by simp [h])
  | case5 x a y b h1 h2 hv ih =>
    intro ha hb
    have hx := up_cons ha
    have hy := up_cons hb
    have e : x = y := Prod.ext (by omega) hv
    subst e
    have hne : ∀ z ∈ b, x.1 ≠ z.1 := fun z hz => by have := hy.1 z hz; omega
    have hne' : ∀ z ∈ a, z.1 ≠ x.1 := fun z hz => by have := hx.1 z hz; omega
    rw [clashN_cons, clashR_cons, clashR_none hne, clashN_skip b hne', sameN_cons, sameR_cons, sameR_none hne, sameN_skip b hne', if_pos rfl, merge, if_neg h1, if_neg h2, if_pos hv]
    rcases ih hx.2 hy.2 with ⟨g1, g2⟩ | ⟨g1, L, g2, g3, g4, g5⟩
    · exact .inl ⟨by rw [g1]; simp, by rw [g2]; rfl⟩
    · refine .inr ⟨by rw [g1]; simp, x :: L, by rw [g2]; rfl, by simp only [List.length_cons] at *; omega, ?_, ?_⟩
      · refine List.pairwise_cons.2 ⟨fun z hz => ?_, g4⟩
        rcases g5 z hz with h | h
        · exact hx.1 z h
        · exact hy.1 z h
      · intro z hz
        rcases List.mem_cons.1 hz with rfl | hz
        · exact .inl (by simp)
        · rcases g5 z hz with h | h
          · exact .inl (by simp [h])
          · exact .inr (by simp [h])
  | case6 x a y b h1 h2 hv =>
    intro ha hb
    refine .inl ⟨?_, by rw [merge, if_neg h1, if_neg h2, if_neg hv]⟩
    rw [clashN_cons, clashR_cons]
    have e : x.1 = y.1 := by omega
    simp [e, hv]
/-- what the law asks of a join -/
theorem join_says {a b : List S} (h1 : ok a = true) (h2 : ok b = true) : (clashN a b = true ∧ join a b = ([], false)) ∨ (clashN a b = false ∧ ∃ L, join a b = (L, true) ∧ L.length + sameN a b = a.length + b.length ∧ ok L = true) := by
  have i1 := (Samp.ok_iff a).1 h1
  have i2 := (Samp.ok_iff b).1 h2
  rcases merge_says a b i1.2 i2.2 with ⟨g1, g2⟩ | ⟨g1, L, g2, g3, g4, g5⟩
  · exact .inl ⟨g1, join_none h1 h2 g2⟩
  · refine .inr ⟨g1, L, join_some h1 h2 g2, g3, (Samp.ok_iff L).2 ⟨fun z hz => ?_, g4⟩⟩
    rcases g5 z hz with h | h
    · exact i1.1 z h
    · exact i2.1 z h
theorem sameN_le (a b : List S) (h1 : ok a = true) (h2 : ok b = true) (hc : clashN a b = false) : sameN a b ≤ a.length + b.length := by
  rcases join_says h1 h2 with ⟨g1, _⟩ | ⟨_, L, _, g3, _⟩
  · rw [g1] at hc; cases hc
  · omega
theorem sameR_le (x : S) (b : List S) : sameR x b ≤ b.length := List.length_filter_le _ _
theorem sameN_le2 : ∀ (a b : List S), sameN a b ≤ a.length * b.length
  | [], b => by simp [sameN]
  | x :: a, b => by
    have := sameN_le2 a b
    have := sameR_le x b
    rw [sameN_cons, List.length_cons, Nat.add_mul]
    omega
end Go.Proofs.YtlboekimnhgfdaaGreat.SampMath
