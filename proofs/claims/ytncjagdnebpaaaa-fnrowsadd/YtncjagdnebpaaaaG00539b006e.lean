/- My own texts of one claim, laid together by program: JoinMath3, InsMath, InsMath2, InsMath3. -/
import Derived.Test.YtncjagdnebpaaaaG4464f45ed3
import Derived.Test.YtncjagdnebpaaaaGe693881e78
import Derived.Test.YtncjagdnebpaaaaG6719f0bc30
/- Samples of both, counted: they are ok, and as many as both have less those that both have; none just if there are two numbers for one time. No condition. -/
namespace Go.Proofs.Ytncjagdnebpaaaa.SampMath
def clashR (x : S) (b : List S) : Bool := b.any fun y => decide (x.1 = y.1) && decide (x.2 ≠ y.2)
def sameR (x : S) (b : List S) : Nat := (b.filter fun y => decide (x = y)).length
def clashN (a b : List S) : Bool := a.any fun x => clashR x b
def sameN (a b : List S) : Nat := (a.map fun x => sameR x b).sum
theorem clashR_snoc (x y : S) (b : List S) : clashR x (b ++ [y]) = (clashR x b || (decide (x.1 = y.1) && decide (x.2 ≠ y.2))) := by simp [clashR]
theorem sameR_snoc (x y : S) (b : List S) : sameR x (b ++ [y]) = sameR x b + if x = y then 1 else 0 := by
  unfold sameR
  rw [List.filter_append, List.length_append]
  by_cases h : x = y <;> simp [h]
theorem clashN_snoc (a b : List S) (x : S) : clashN (a ++ [x]) b = (clashN a b || clashR x b) := by simp [clashN]
theorem sameN_snoc (a b : List S) (x : S) : sameN (a ++ [x]) b = sameN a b + sameR x b := by simp [sameN]
theorem clashR_none {x : S} {b : List S} (h : ∀ y ∈ b, x.1 ≠ y.1) : clashR x b = false := by
  unfold clashR
  rw [List.any_eq_false]
  intro y hy
  simp [h y hy]
theorem sameR_none {x : S} {b : List S} (h : ∀ y ∈ b, x.1 ≠ y.1) : sameR x b = 0 := by
  unfold sameR
  rw [List.length_eq_zero_iff, List.filter_eq_nil_iff]
  intro y hy
  have := h y hy
  simp only [decide_eq_true_eq]
  rintro rfl
  exact this rfl
theorem clashR_cons (x y : S) (b : List S) : clashR x (y :: b) = ((decide (x.1 = y.1) && decide (x.2 ≠ y.2)) || clashR x b) := by simp [clashR]
theorem sameR_cons (x y : S) (b : List S) : sameR x (y :: b) = (if x = y then 1 else 0) + sameR x b := by
  unfold sameR
  rw [List.filter_cons]
  by_cases h : x = y <;> simp [h]; omega
theorem clashN_skip {a : List S} {y : S} (b : List S) (h : ∀ x ∈ a, x.1 ≠ y.1) : clashN a (y :: b) = clashN a b := by
  induction a with
  | nil => rfl
  | cons x a ih =>
    have e : clashN (x :: a) (y :: b) = (clashR x (y :: b) || clashN a (y :: b)) := by simp [clashN]
    have e' : clashN (x :: a) b = (clashR x b || clashN a b) := by simp [clashN]
    rw [e, e', ih (fun z hz => h z (by simp [hz])), clashR_cons]
    have := h x (by simp)
    simp [this]
theorem sameN_skip {a : List S} {y : S} (b : List S) (h : ∀ x ∈ a, x.1 ≠ y.1) : sameN a (y :: b) = sameN a b := by
  induction a with
  | nil => rfl
  | cons x a ih =>
    have e : sameN (x :: a) (y :: b) = sameR x (y :: b) + sameN a (y :: b) := by simp [sameN]
    have e' : sameN (x :: a) b = sameR x b + sameN a b := by simp [sameN]
    rw [e, e', ih (fun z hz => h z (by simp [hz])), sameR_cons]
    have hx := h x (by simp)
    have : ¬ x = y := fun he => hx (by rw [he])
    simp [this]
theorem clashN_cons (x : S) (a b : List S) : clashN (x :: a) b = (clashR x b || clashN a b) := by simp [clashN]
theorem sameN_cons (x : S) (a b : List S) : sameN (x :: a) b = sameR x b + sameN a b := by simp [sameN]
def Up (a : List S) : Prop := a.Pairwise (fun x y => x.1 < y.1)
theorem up_cons {x : S} {a : List S} (h : Up (x :: a)) : (∀ y ∈ a, x.1 < y.1) ∧ Up a := List.pairwise_cons.1 h
theorem merge_says : ∀ (a b : List S), Up a → Up b → (clashN a b = true ∧ merge a b = none) ∨ (clashN a b = false ∧ ∃ L, merge a b = some L ∧ L.length + sameN a b = a.length + b.length ∧ Up L ∧ ∀ z ∈ L, z ∈ a ∨ z ∈ b) := by
  intro a b
  induction a, b using merge.induct with
  | case1 b => intro _ hb; exact .inr ⟨rfl, b, by rw [merge_nil], by simp [sameN], hb, fun z hz => .inr hz⟩
  | case2 x a =>
    intro ha _
    refine .inr ⟨?_, x :: a, by rw [merge_nil_right], ?_, ha, fun z hz => .inl hz⟩
    · simp [clashN, clashR]
    · have : ∀ l : List S, sameN l [] = 0 := by
        intro l
        induction l with
        | nil => rfl
        | cons y l ih => rw [sameN_cons, ih]; rfl
      rw [this]; simp
  | case3 x a y b hlt ih =>
    intro ha hb
    have hx := up_cons ha
    have hy := up_cons hb
    have hne : ∀ z ∈ y :: b, x.1 ≠ z.1 := by
      intro z hz
      rcases List.mem_cons.1 hz with rfl | hz
      · omega
      · have := hy.1 z hz; omega
    rw [clashN_cons, clashR_none hne, Bool.false_or, sameN_cons, sameR_none hne, Nat.zero_add, merge, if_pos hlt]
    rcases ih hx.2 hb with ⟨h1, h2⟩ | ⟨h1, L, h2, h3, h4, h5⟩
    · exact .inl ⟨h1, by rw [h2]; rfl⟩
    · refine .inr ⟨h1, x :: L, by rw [h2]; rfl, by simp only [List.length_cons] at *; omega, ?_, ?_⟩
      · refine List.pairwise_cons.2 ⟨fun z hz => ?_, h4⟩
        rcases h5 z hz with h | h
        · exact hx.1 z h
        · rcases List.mem_cons.1 h with rfl | h
          · exact hlt
          · have := hy.1 z h; omega
      · intro z hz
        rcases List.mem_cons.1 hz with rfl | hz
        · exact .inl (by simp)
        · rcases h5 z hz with h | h
          · exact .inl (by simp [h])
          · exact .inr h
  | case4 x a y b h1 hlt ih =>
    intro ha hb
    have hx := up_cons ha
    have hy := up_cons hb
    have hne : ∀ z ∈ x :: a, z.1 ≠ y.1 := by
      intro z hz
      rcases List.mem_cons.1 hz with rfl | hz
      · omega
      · have := hx.1 z hz; omega
    rw [clashN_skip b hne, sameN_skip b hne, merge, if_neg h1, if_pos hlt]
    rcases ih ha hy.2 with ⟨g1, g2⟩ | ⟨g1, L, g2, g3, g4, g5⟩
    · exact .inl ⟨g1, by rw [g2]; rfl⟩
    · refine .inr ⟨g1, y :: L, by rw [g2]; rfl, by simp only [List.length_cons] at *; omega, ?_, ?_⟩
      · refine List.pairwise_cons.2 ⟨fun z hz => ?_, g4⟩
        rcases g5 z hz with h | h
        · rcases List.mem_cons.1 h with rfl | h
          · exact hlt
          · have := hx.1 z h; omega
        · exact hy.1 z h
      · intro z hz
        rcases List.mem_cons.1 hz with rfl | hz
        · exact .inr (by simp)
        · rcases g5 z hz with h | h
          · exact .inl h
          · exact .inr (by simp [h])
  | case5 x a y b h1 h2 hv ih =>
    intro ha hb
    have hx := up_cons ha
    have hy := up_cons hb
    have e : x = y := Prod.ext (by omega) hv
    subst e
    have hne : ∀ z ∈ b, x.1 ≠ z.1 := fun z hz => by have := hy.1 z hz; omega
    have hne' : ∀ z ∈ a, z.1 ≠ x.1 := fun z hz => by have := hx.1 z hz; omega
    rw [clashN_cons, clashR_cons, clashR_none hne, clashN_skip b hne', sameN_cons, sameR_cons, sameR_none hne, sameN_skip b hne', if_pos rfl, merge, if_neg h1, if_neg h2, if_pos hv]
    rcases ih hx.2 hy.2 with ⟨g1, g2⟩ | ⟨g1, L, g2, g3, g4, g5⟩
    · exact .inl ⟨by rw [g1]; simp, by rw [g2]; rfl⟩
    · refine .inr ⟨by rw [g1]; simp, x :: L, by rw [g2]; rfl, by simp only [List.length_cons] at *; omega, ?_, ?_⟩
      · refine List.pairwise_cons.2 ⟨fun z hz => ?_, g4⟩
        rcases g5 z hz with h | h
        · exact hx.1 z h
        · exact hy.1 z h
      · intro z hz
        rcases List.mem_cons.1 hz with rfl | hz
        · exact .inl (by simp)
        · rcases g5 z hz with h | h
          · exact .inl (by simp [h])
          · exact .inr (by simp [h])
  | case6 x a y b h1 h2 hv =>
    intro ha hb
    refine .inl ⟨?_, by rw [merge, if_neg h1, if_neg h2, if_neg hv]⟩
    rw [clashN_cons, clashR_cons]
    have e : x.1 = y.1 := by omega
    simp [e, hv]
/-- what the law asks of a join -/
theorem join_says {a b : List S} (h1 : ok a = true) (h2 : ok b = true) : (clashN a b = true ∧ join a b = ([], false)) ∨ (clashN a b = false ∧ ∃ L, join a b = (L, true) ∧ L.length + sameN a b = a.length + b.length ∧ ok L = true) := by
  have i1 := (Samp.ok_iff a).1 h1
  have i2 := (Samp.ok_iff b).1 h2
  rcases merge_says a b i1.2 i2.2 with ⟨g1, g2⟩ | ⟨g1, L, g2, g3, g4, g5⟩
  · exact .inl ⟨g1, join_none h1 h2 g2⟩
  · refine .inr ⟨g1, L, join_some h1 h2 g2, g3, (Samp.ok_iff L).2 ⟨fun z hz => ?_, g4⟩⟩
    rcases g5 z hz with h | h
    · exact i1.1 z h
    · exact i2.1 z h
theorem sameN_le (a b : List S) (h1 : ok a = true) (h2 : ok b = true) (hc : clashN a b = false) : sameN a b ≤ a.length + b.length := by
  rcases join_says h1 h2 with ⟨g1, _⟩ | ⟨_, L, _, g3, _⟩
  · rw [g1] at hc; cases hc
  · omega
theorem sameR_le (x : S) (b : List S) : sameR x b ≤ b.length := List.length_filter_le _ _
theorem sameN_le2 : ∀ (a b : List S), sameN a b ≤ a.length * b.length
  | [], b => by simp [sameN]
  | x :: a, b => by
    have := sameN_le2 a b
    have := sameR_le x b
    rw [sameN_cons, List.length_cons, Nat.add_mul]
    omega
end Go.Proofs.Ytncjagdnebpaaaa.SampMath

/- Rows put to rows, one by one: what RowsJoin and RowsAdd answer, as plain mathematics. No condition. -/
namespace Go.Proofs.Ytncjagdnebpaaaa.Row
open Go.RowKit Rw
set_option linter.unusedVariables false
/-- samples of a row put to others -/
def jn (y : E) (xs : List Sam.E) : Option E := if (SampMath.join y.2 xs).2 = true then some (y.1, (SampMath.join y.2 xs).1) else none
/-- a row put to rows, none if they say not the same -/
def ins : List E → E → Option (List E)
  | [], x => some [x]
  | y :: L, x => if Lab.cmpL y.1 x.1 < 0 then (ins L x).map (y :: ·) else if Lab.cmpL y.1 x.1 = 0 then (jn y x.2).map (· :: L) else some (x :: y :: L)
def insAll : List E → List E → Option (List E)
  | L, [] => some L
  | L, x :: b => (ins L x).bind fun R => insAll R b
/-- not too many rows, nor samples of one -/
def sized (L : List E) : Bool := decide (L.length ≤ 10) && L.all fun x => decide (x.2.length ≤ 1000)
def add (L : List E) (x : E) : Option (List E) := (ins L x).bind fun R => if sized R = true then some R else none
def addAll : List E → List E → Option (List E)
  | L, [] => some L
  | L, x :: b => (add L x).bind fun R => addAll R b
def told (o : Option (List E)) : List E × Bool := match o with | some R => (R, true) | none => ([], false)
def join (a b : List E) : List E × Bool := if ok a = true ∧ ok b = true then told (addAll a b) else ([], false)
/-- what rows are that were put together, whether or not too many -/
structure Fine (L : List E) : Prop where
  lab : ∀ y ∈ L, Lab.ok y.1 = true
  sam : ∀ y ∈ L, SampMath.ok y.2 = true ∧ y.2 ≠ []
  up : L.Pairwise fun a b => Lab.cmpL a.1 b.1 < 0
theorem fine_ok {L : List E} (h : ok L = true) : Fine L := by
  obtain ⟨h1, h2, h3⟩ := (ok_iff L).1 h
  have hr : ∀ y ∈ L, Lab.ok y.1 = true ∧ 1 ≤ y.2.length ∧ y.2.length ≤ 1000 ∧ SampMath.ok y.2 = true := fun y hy => by
    have := h1 y hy
    unfold rowB at this
    simpa [and_assoc] using this
  exact ⟨fun y hy => (hr y hy).1, fun y hy => ⟨(hr y hy).2.2.2, fun e => by have := (hr y hy).2.1; rw [e] at this; simp at this⟩, h2⟩
theorem ok_of {L : List E} (h : Fine L) : ok L = sized L := by
  have e : ∀ y ∈ L, rowB y = decide (y.2.length ≤ 1000) := fun y hy => by
    have h1 : 1 ≤ y.2.length := by have := (h.sam y hy).2; rcases hl : y.2 with _ | ⟨a, l⟩; exact absurd hl this; simp
    unfold rowB
    rw [h.lab y hy, (h.sam y hy).1, decide_eq_true h1]
    simp
  rw [Bool.eq_iff_iff, ok_iff]
  unfold sized
  simp only [Bool.and_eq_true, decide_eq_true_eq, List.all_eq_true]
  exact ⟨fun ⟨h1, h2, h3⟩ => ⟨h3, fun y hy => by have := h1 y hy; rw [e y hy] at this; simpa using this⟩, fun ⟨h1, h2⟩ => ⟨fun y hy => by rw [e y hy]; simpa using h2 y hy, h.up, h1⟩⟩
theorem fine_tail {y : E} {L : List E} (h : Fine (y :: L)) : Fine L := ⟨fun z hz => h.lab z (List.mem_cons_of_mem _ hz), fun z hz => h.sam z (List.mem_cons_of_mem _ hz), (List.pairwise_cons.1 h.up).2⟩
theorem merge_ge (a b : List SampMath.S) : ∀ L, SampMath.merge a b = some L → a.length ≤ L.length := by
  induction a, b using SampMath.merge.induct with
  | case1 b => intro L _; exact Nat.zero_le _
  | case2 x a => intro L h; rw [SampMath.merge_nil_right] at h; cases h; exact Nat.le_refl _
  | case3 x a y b hlt ih =>
    intro L h
    rw [SampMath.merge, if_pos hlt] at h
    obtain ⟨R, h1, rfl⟩ := Option.map_eq_some_iff.1 h
    have := ih R h1
    simp only [List.length_cons]; omega
  | case4 x a y b h1 hlt ih =>
    intro L h
    rw [SampMath.merge, if_neg h1, if_pos hlt] at h
    obtain ⟨R, h1, rfl⟩ := Option.map_eq_some_iff.1 h
    have := ih R h1
    simp only [List.length_cons] at *; omega
  | case5 x a y b h1 h2 hv ih =>
    intro L h
    rw [SampMath.merge, if_neg h1, if_neg h2, if_pos hv] at h
    obtain ⟨R, h1, rfl⟩ := Option.map_eq_some_iff.1 h
    have := ih R h1
    simp only [List.length_cons]; omega
  | case6 x a y b h1 h2 hv =>
    intro L h
    rw [SampMath.merge, if_neg h1, if_neg h2, if_neg hv] at h
    cases h
theorem join_fine {a b : List Sam.E} (h1 : SampMath.ok a = true) (h2 : SampMath.ok b = true) (h3 : a ≠ []) (h : (SampMath.join a b).2 = true) : SampMath.ok (SampMath.join a b).1 = true ∧ (SampMath.join a b).1 ≠ [] ∧ a.length ≤ (SampMath.join a b).1.length := by
  have ha : a.length ≤ (SampMath.join a b).1.length := by
    unfold SampMath.join at h ⊢
    rw [if_pos ⟨h1, h2⟩] at h ⊢
    cases e : SampMath.merge a b with
    | none => rw [e] at h; cases h
    | some L => exact merge_ge a b L e
  rcases SampMath.join_says h1 h2 with ⟨-, e⟩ | ⟨hc, L, e, hl, hok⟩
  · rw [e] at h; cases h
  · rw [e] at ha ⊢
    exact ⟨hok, fun e' => by simp only at e' ha; rw [e'] at ha; simp only [List.length_nil, Nat.le_zero_eq] at ha; exact h3 (List.eq_nil_of_length_eq_zero ha), ha⟩
theorem jn_some {y z : E} {xs : List Sam.E} (h : jn y xs = some z) : (SampMath.join y.2 xs).2 = true ∧ z = (y.1, (SampMath.join y.2 xs).1) := by
  unfold jn at h
  split at h
  · rename_i h'; exact ⟨h', (Option.some.inj h).symm⟩
  · cases h
theorem ins_nil (x : E) : ins [] x = some [x] := rfl
theorem ins_lt {y x : E} (L : List E) (h : Lab.cmpL y.1 x.1 < 0) : ins (y :: L) x = (ins L x).map (y :: ·) := by rw [ins, if_pos h]
theorem ins_eq {y x : E} (L : List E) (h : Lab.cmpL y.1 x.1 = 0) : ins (y :: L) x = (jn y x.2).map (· :: L) := by rw [ins, if_neg (by omega), if_pos h]
theorem ins_gt {y x : E} (L : List E) (h : 0 < Lab.cmpL y.1 x.1) : ins (y :: L) x = some (x :: y :: L) := by rw [ins, if_neg (by omega), if_neg (by omega)]
/-- what is put keeps rows fine, and all labels of them are of the rows or the new ones -/
theorem ins_fine : ∀ {L : List E} {x : E} {R : List E}, Fine L → Fine [x] → ins L x = some R → Fine R ∧ (∀ z ∈ R, z.1 = x.1 ∨ ∃ y ∈ L, y.1 = z.1) ∧ L.length ≤ R.length ∧ (sized R = true → sized L = true)
  | [], x, R, hL, hx, h => by
    cases h
    exact ⟨hx, fun z hz => by simp at hz; exact .inl (by rw [hz]), Nat.zero_le _, fun _ => by simp [sized]⟩
  | y :: L, x, R, hL, hx, h => by
    have ht := fine_tail hL
    have hp := List.pairwise_cons.1 hL.up
    have hx1 := hx.lab x (List.mem_singleton.2 rfl)
    have hx2 := hx.sam x (List.mem_singleton.2 rfl)
    rcases Int.lt_trichotomy (Lab.cmpL y.1 x.1) 0 with hc | hc | hc
    · rw [ins_lt L hc] at h
      obtain ⟨R', h1, rfl⟩ := Option.map_eq_some_iff.1 h
      obtain ⟨i1, i2, i3, i4⟩ := ins_fine ht hx h1
      refine ⟨⟨fun z hz => ?_, fun z hz => ?_, List.pairwise_cons.2 ⟨fun z hz => ?_, i1.up⟩⟩, fun z hz => ?_, by simp only [List.length_cons]; omega, fun hs => ?_⟩
      · rcases List.mem_cons.1 hz with rfl | hz
        · exact hL.lab _ (List.mem_cons_self ..)
        · exact i1.lab z hz
      · rcases List.mem_cons.1 hz with rfl | hz
        · exact hL.sam _ (List.mem_cons_self ..)
        · exact i1.sam z hz
      · rcases i2 z hz with e | ⟨u, hu, e⟩
        · rw [e]; exact hc
        · rw [← e]; exact hp.1 u hu
      · rcases List.mem_cons.1 hz with rfl | hz
        · exact .inr ⟨z, List.mem_cons_self .., rfl⟩
        · rcases i2 z hz with e | ⟨u, hu, e⟩
          · exact .inl e
          · exact .inr ⟨u, List.mem_cons_of_mem _ hu, e⟩
      · unfold sized at hs i4 ⊢
        simp only [List.length_cons, List.all_cons, Bool.and_eq_true, decide_eq_true_eq] at hs i4 ⊢
        have := i4 ⟨by omega, hs.2.2⟩
        exact ⟨by omega, hs.2.1, this.2⟩
    · rw [ins_eq L hc] at h
      obtain ⟨y', h1, rfl⟩ := Option.map_eq_some_iff.1 h
      obtain ⟨hj, rfl⟩ := jn_some h1
      have hy := hL.sam y (List.mem_cons_self ..)
      obtain ⟨j1, j2, j3⟩ := join_fine hy.1 hx2.1 hy.2 hj
      refine ⟨⟨fun z hz => ?_, fun z hz => ?_, List.pairwise_cons.2 ⟨fun z hz => hp.1 z hz, ht.up⟩⟩, fun z hz => ?_, by simp only [List.length_cons]; omega, fun hs => ?_⟩
      · rcases List.mem_cons.1 hz with rfl | hz
        · exact hL.lab y (List.mem_cons_self ..)
        · exact ht.lab z hz
      · rcases List.mem_cons.1 hz with rfl | hz
        · exact ⟨j1, j2⟩
        · exact ht.sam z hz
      · rcases List.mem_cons.1 hz with rfl | hz
        · exact .inr ⟨y, List.mem_cons_self .., rfl⟩
        · exact .inr ⟨z, List.mem_cons_of_mem _ hz, rfl⟩
      · unfold sized at hs ⊢
        simp only [List.length_cons, List.all_cons, Bool.and_eq_true, decide_eq_true_eq] at hs ⊢
        exact ⟨hs.1, by omega, hs.2.2⟩
    · rw [ins_gt L hc] at h
      cases h
      have hc' : Lab.cmpL x.1 y.1 < 0 := by have := Lab.ordL.anti x.1 y.1; omega
      refine ⟨⟨fun z hz => ?_, fun z hz => ?_, List.pairwise_cons.2 ⟨fun z hz => ?_, hL.up⟩⟩, fun z hz => ?_, by simp only [List.length_cons]; omega, fun hs => ?_⟩
      · rcases List.mem_cons.1 hz with rfl | hz
        · exact hx1
        · exact hL.lab z hz
      · rcases List.mem_cons.1 hz with rfl | hz
        · exact hx2
        · exact hL.sam z hz
      · rcases List.mem_cons.1 hz with rfl | hz
        · exact hc'
        · exact cmp_lt hc' (hp.1 z hz)
      · rcases List.mem_cons.1 hz with rfl | hz
        · exact .inl rfl
        · exact .inr ⟨z, hz, rfl⟩
      · unfold sized at hs ⊢
        simp only [List.length_cons, List.all_cons, Bool.and_eq_true, decide_eq_true_eq] at hs ⊢
        exact ⟨by omega, hs.2.2⟩
/-- what is asked of rows one by one is asked of them at once -/
theorem add_all : ∀ (b : List E) {L : List E}, Fine L → sized L = true → (∀ x ∈ b, Fine [x]) → addAll L b = (insAll L b).bind (fun R => if sized R = true then some R else none) ∧ ∀ R, insAll L b = some R → Fine R ∧ (sized R = true → sized L = true)
  | [], L, hL, hs, _ => by
    refine ⟨?_, fun R h => ?_⟩
    · show some L = _
      unfold insAll
      rw [Option.bind_some, if_pos hs]
    · cases h; exact ⟨hL, fun h => h⟩
  | x :: b, L, hL, hs, hb => by
    have hx := hb x (List.mem_cons_self ..)
    have hb' := fun y hy => hb y (List.mem_cons_of_mem _ hy)
    unfold addAll insAll add
    cases e : ins L x with
    | none => exact ⟨rfl, fun R h => by cases h⟩
    | some R =>
      obtain ⟨i1, -, -, i4⟩ := ins_fine hL hx e
      simp only [Option.bind_some]
      by_cases hR : sized R = true
      · rw [if_pos hR, Option.bind_some]
        obtain ⟨a1, a2⟩ := add_all b i1 hR hb'
        exact ⟨a1, fun S h => ⟨(a2 S h).1, fun _ => hs⟩⟩
      · rw [if_neg hR]
        have hg : ∀ (b : List E) {R : List E}, Fine R → ¬ sized R = true → (∀ x ∈ b, Fine [x]) → ∀ S, insAll R b = some S → Fine S ∧ ¬ sized S = true := by
          intro b
          induction b with
          | nil => intro R h1 h2 _ S h; cases h; exact ⟨h1, h2⟩
          | cons z b ih =>
            intro R h1 h2 h3 S h
            unfold insAll at h
            cases e' : ins R z with
            | none => rw [e'] at h; cases h
            | some T =>
              rw [e', Option.bind_some] at h
              obtain ⟨t1, -, -, t4⟩ := ins_fine h1 (h3 z (List.mem_cons_self ..)) e'
              exact ih t1 (fun h' => h2 (t4 h')) (fun y hy => h3 y (List.mem_cons_of_mem _ hy)) S h
        refine ⟨?_, fun S h => ?_⟩
        · cases e' : insAll R b with
          | none => rfl
          | some S => rw [Option.bind_some, if_neg (hg b i1 hR hb' S e').2]; rfl
        · have := hg b i1 hR hb' S h
          exact ⟨this.1, fun h' => absurd h' this.2⟩
theorem fine_one {L : List E} (h : Fine L) {x : E} (hx : x ∈ L) : Fine [x] :=
  ⟨fun y hy => by rw [List.mem_singleton.1 hy]; exact h.lab x hx, fun y hy => by rw [List.mem_singleton.1 hy]; exact h.sam x hx, List.pairwise_singleton _ _⟩
theorem sized_of_ok {L : List E} (h : ok L = true) : sized L = true := by rw [← ok_of (fine_ok h)]; exact h
/-- the program's way: all is put, then it is asked whether that is ok -/
theorem join_set {a b : List E} (ha : ok a = true) (hb : ok b = true) : join a b = told ((insAll a b).bind fun R => if ok R = true then some R else none) := by
  have h := add_all b (fine_ok ha) (sized_of_ok ha) (fun x hx => fine_one (fine_ok hb) hx)
  unfold join
  rw [if_pos ⟨ha, hb⟩, h.1]
  cases e : insAll a b with
  | none => rfl
  | some R => simp only [Option.bind_some]; rw [ok_of (h.2 R e).1]
/-- the model's way: where labels come -/
theorem ins_at : ∀ {L : List E} {x : E} (k : Nat), k ≤ L.length → (∀ i, i < k → Lab.cmpL (at' L i).1 x.1 < 0) → (k = L.length ∨ ¬ Lab.cmpL (at' L k).1 x.1 < 0) →
    ins L x = if k < L.length ∧ Lab.cmpL (at' L k).1 x.1 = 0 then (jn (at' L k) x.2).map (fun y => L.take k ++ y :: L.drop (k + 1)) else some (L.take k ++ x :: L.drop k)
  | [], x, k, hk, _, _ => by
    obtain rfl : k = 0 := by simpa using hk
    rw [if_neg (by simp)]; rfl
  | y :: L, x, 0, _, _, h2 => by
    have h2' : ¬ Lab.cmpL y.1 x.1 < 0 := by rcases h2 with h | h; (simp at h); exact h
    have e0 : at' (y :: L) 0 = y := rfl
    rw [e0]
    by_cases hc : Lab.cmpL y.1 x.1 = 0
    · rw [if_pos ⟨by simp, hc⟩, ins_eq L hc]; rfl
    · rw [if_neg (fun h => hc h.2), ins_gt L (by omega)]; rfl
  | y :: L, x, k + 1, hk, h1, h2 => by
    have hy : Lab.cmpL y.1 x.1 < 0 := h1 0 (by omega)
    have ih := ins_at (L := L) (x := x) k (by simpa using hk) (fun i hi => h1 (i + 1) (by omega)) (by rcases h2 with h | h; (left; simpa using h); right; exact h)
    have e1 : at' (y :: L) (k + 1) = at' L k := rfl
    rw [ins_lt L hy, ih, e1]
    by_cases hc : k < L.length ∧ Lab.cmpL (at' L k).1 x.1 = 0
    · rw [if_pos hc, if_pos ⟨by simpa using hc.1, hc.2⟩, Option.map_map]; rfl
    · rw [if_neg hc, if_neg (fun h => hc ⟨by simpa using h.1, h.2⟩)]; rfl
end Go.Proofs.Ytncjagdnebpaaaa.Row

/- Rows put to rows, told by their keys. No condition. -/
namespace Go.Proofs.Ytncjagdnebpaaaa.Row
open Go.RowKit Rw
set_option linter.unusedVariables false
def key (y : E) : ByteArray := Lab.keyOf y.1
theorem map_at : ∀ {L : List E} {f : ByteArray → E}, (L.map key).map f = L → ∀ y ∈ L, f (key y) = y
  | [], f, _, y, hy => by cases hy
  | z :: L, f, h, y, hy => by
    simp only [List.map_cons, List.cons.injEq] at h
    rcases List.mem_cons.1 hy with rfl | hy
    · exact h.1
    · exact map_at h.2 y hy
theorem put_lt {a n : ByteArray} (l : List ByteArray) (h : StrMath.lt a n) : StrMath.put (a :: l) n = a :: StrMath.put l n := by rw [StrMath.put, if_pos h]
theorem put_gt {a n : ByteArray} (l : List ByteArray) (h : StrMath.lt n a) : StrMath.put (a :: l) n = n :: a :: l := by
  rw [StrMath.put, if_neg (StrMath.lt_asymm h), if_neg (fun e => by subst e; exact StrMath.lt_irrefl _ h)]
theorem keys_put : ∀ {L : List E} {x : E}, (∀ y ∈ L, Lab.ok y.1 = true) → L.Pairwise (fun a b => Lab.cmpL a.1 b.1 < 0) → Lab.ok x.1 = true →
    (key x ∉ L.map key ∧ ∃ R, ins L x = some R ∧ R.map key = StrMath.put (L.map key) (key x) ∧ ∀ f : ByteArray → E, (L.map key).map f = L → (R.map key).map (fun k => if k = key x then x else f k) = R) ∨
    (key x ∈ L.map key ∧ ∃ y ∈ L, y.1 = x.1 ∧ ((∃ J, SampMath.join y.2 x.2 = (J, true) ∧ ∃ R, ins L x = some R ∧ R.map key = L.map key ∧ ∀ f : ByteArray → E, (L.map key).map f = L → (L.map key).map (fun k => if k = key x then ((f k).1, J) else f k) = R) ∨ ((SampMath.join y.2 x.2).2 = false ∧ ins L x = none)))
  | [], x, _, _, hx => .inl ⟨by simp, [x], rfl, rfl, fun f _ => by simp [key]⟩
  | y :: L, x, hL, hp, hx => by
    have hy := hL y (List.mem_cons_self ..)
    have hp' := List.pairwise_cons.1 hp
    have hL' : ∀ z ∈ L, Lab.ok z.1 = true := fun z hz => hL z (List.mem_cons_of_mem _ hz)
    rcases Int.lt_trichotomy (Lab.cmpL y.1 x.1) 0 with hc | hc | hc
    · have hk : StrMath.lt (key y) (key x) := key_lt hy hx hc
      have hne : key y ≠ key x := fun e => by rw [e] at hk; exact StrMath.lt_irrefl _ hk
      rcases keys_put hL' hp'.2 hx with ⟨h1, R, h2, h3, h4⟩ | ⟨h1, z, hz, he, h2⟩
      · refine .inl ⟨by simp only [List.map_cons, List.mem_cons, not_or]; exact ⟨fun e => hne e.symm, h1⟩, y :: R, by rw [ins_lt L hc, h2]; rfl, by simp only [List.map_cons]; rw [put_lt _ hk, h3], fun f hf => ?_⟩
        simp only [List.map_cons, List.cons.injEq] at hf ⊢
        exact ⟨by rw [if_neg hne]; exact hf.1, h4 f hf.2⟩
      · refine .inr ⟨by simp only [List.map_cons, List.mem_cons]; exact .inr h1, z, List.mem_cons_of_mem _ hz, he, ?_⟩
        rcases h2 with ⟨J, j1, R, j2, j3, j4⟩ | ⟨j1, j2⟩
        · refine .inl ⟨J, j1, y :: R, by rw [ins_lt L hc, j2]; rfl, by simp only [List.map_cons]; rw [j3], fun f hf => ?_⟩
          simp only [List.map_cons, List.cons.injEq] at hf ⊢
          exact ⟨by rw [if_neg hne]; exact hf.1, j4 f hf.2⟩
        · exact .inr ⟨j1, by rw [ins_lt L hc, j2]; rfl⟩
    · have e := Lab.ordL.zero _ _ hc
      have hk : key y = key x := by unfold key; rw [e]
      have hno : ∀ z ∈ L, key z ≠ key x := fun z hz e' => by
        have := key_lt hy (hL' z hz) (hp'.1 z hz)
        unfold key at e'
        rw [e', ← e] at this
        exact StrMath.lt_irrefl _ this
      refine .inr ⟨by simp only [List.map_cons, List.mem_cons]; exact .inl hk.symm, y, List.mem_cons_self .., e, ?_⟩
      by_cases hj : (SampMath.join y.2 x.2).2 = true
      · refine .inl ⟨(SampMath.join y.2 x.2).1, by rw [← hj], (y.1, (SampMath.join y.2 x.2).1) :: L, by rw [ins_eq L hc]; unfold jn; rw [if_pos hj]; rfl, rfl, fun f hf => ?_⟩
        simp only [List.map_cons, List.cons.injEq] at hf ⊢
        refine ⟨by rw [if_pos hk, hf.1], ?_⟩
        conv => rhs; rw [← hf.2]
        refine List.map_congr_left fun k hk' => ?_
        obtain ⟨z, hz, rfl⟩ := List.mem_map.1 hk'
        rw [if_neg (hno z hz)]
      · refine .inr ⟨by simpa using hj, ?_⟩
        rw [ins_eq L hc]
        unfold jn
        rw [if_neg hj]
        rfl
    · have hc' : Lab.cmpL x.1 y.1 < 0 := by have := Lab.ordL.anti x.1 y.1; omega
      have hk : StrMath.lt (key x) (key y) := key_lt hx hy hc'
      have hall : ∀ z ∈ y :: L, key z ≠ key x := fun z hz e' => by
        rcases List.mem_cons.1 hz with rfl | hz
        · rw [e'] at hk; exact StrMath.lt_irrefl _ hk
        · have := StrMath.lt_trans hk (key_lt hy (hL' z hz) (hp'.1 z hz))
          unfold key at e' this
          rw [e'] at this
          exact StrMath.lt_irrefl _ this
      refine .inl ⟨fun h => ?_, x :: y :: L, ins_gt L hc, by rw [List.map_cons, List.map_cons, put_gt _ hk], fun f hf => ?_⟩
      · obtain ⟨z, hz, e⟩ := List.mem_map.1 h
        exact hall z hz e
      · rw [List.map_cons, List.map_cons, if_pos rfl]
        congr 1
        conv => rhs; rw [← hf]
        refine List.map_congr_left fun k hk' => ?_
        obtain ⟨z, hz, rfl⟩ := List.mem_map.1 hk'
        rw [if_neg (hall z hz)]
end Go.Proofs.Ytncjagdnebpaaaa.Row
namespace Go.Proofs.Ytncjagdnebpaaaa.RSet
open Go.RowKit Rw
set_option linter.unusedVariables false
/-- what is put to a set, wherever it comes -/
def Put (lo B mb n : Nat) (w w' : World) (e : Ending) (o : Option (List Row.E)) : Prop :=
  (∃ R, o = some R ∧ e = .returned (.bool true) ∧ Built lo B mb (n + 1) w' R ∧ Two B mb w w') ∨ (o = none ∧ e = .returned (.bool false) ∧ Two B mb w w')
theorem built_put {lo B mb n m sc : Nat} {sa : Option Addr} {w : World} {L : List Row.E} {lv : Value} {ls : List Lab.E} {zs : List Sam.E}
    (h : Built lo B mb n w L) (hF : Row.Fine L) (hL : L.length ≤ 1000) (hn : n ≤ 1000) (hl : Lab.Is w lv ls) (hlg : ∀ x ∈ ls, Lab.good x) (hlo : Lab.ok ls = true) (hs : Samp.Smp w (.slice sa m sc) zs) (hm : zs.length = m) (hz : SampMath.ok zs = true) (h0 : 0 < m) (h1 : m ≤ 4194304) (hlow : lo ≤ w.heap.size) :
    Calls Try.prog 55 #[.pointer (some ⟨B, 0, none⟩), lv, .slice sa m sc] w fun e w' => Put lo B mb n w w' e (Row.ins L (ls, zs)) := by
  obtain ⟨M, R, hs1, hR⟩ := h
  rcases Row.keys_put (x := (ls, zs)) hF.lab hF.up hlo with ⟨hni, S, e1, e2, e3⟩ | ⟨hin, y, hy, he, hJ⟩
  · have hN : M (Lab.keyOf ls) = none := by
      cases e : M (Lab.keyOf ls) with
      | none => rfl
      | some c => exact absurd ((hs1.has (Lab.keyOf ls)).1 (by rw [e]; rfl)) hni
    refine (put_new hs1 hl hlg hlo hs hm hz h0 h1 (by rw [List.length_map]; exact hL) hn hN hlow).mono ?_
    rintro e w' ⟨c, rfl, hs2, ht⟩
    refine .inl ⟨S, e1, rfl, ⟨_, _, by rw [show (S.map fun y => Lab.keyOf y.1) = StrMath.put (L.map Row.key) (Lab.keyOf ls) from e2]; exact hs2, ?_⟩, ht⟩
    exact e3 R hR
  · obtain ⟨c, hN⟩ : ∃ c, M (Lab.keyOf ls) = some c := Option.isSome_iff_exists.1 ((hs1.has _).2 hin)
    have hRy : R (Lab.keyOf ls) = y := by rw [show ls = y.1 from he.symm]; exact Row.map_at (L := L) (f := R) hR y hy
    have hyl : (R (Lab.keyOf ls)).2.length ≤ 4194304 := by rw [hRy]; have := SampMath.ok_len (hF.sam y hy).1; omega
    rcases hJ with ⟨J, j1, S, j2, j3, j4⟩ | ⟨j1, j2⟩
    · refine (put_old hs1 hl hlg hlo hs hm (by rw [hRy]; exact j1) h0 h1 hyl hn hN hlow).mono ?_
      rintro e w' ⟨c, rfl, hs2, ht⟩
      refine .inl ⟨S, j2, rfl, ⟨_, _, by rw [show (S.map fun y => Lab.keyOf y.1) = L.map (fun y => Lab.keyOf y.1) from j3]; exact hs2, ?_⟩, ht⟩
      rw [show (S.map fun y => Lab.keyOf y.1) = L.map (fun y => Lab.keyOf y.1) from j3]
      exact j4 R hR
    · refine (put_fail hs1 hl hlg hlo hs hm (by rw [hRy]; exact j1) h0 h1 hyl hN).mono ?_
      rintro e w' ⟨rfl, hb⟩
      exact .inr ⟨j2, rfl, Two.of_below hb⟩
end Go.Proofs.Ytncjagdnebpaaaa.RSet

/- Rows put to rows: the program's steps, one row more at a time. No condition. -/
namespace Go.Proofs.Ytncjagdnebpaaaa.Row
open Go.RowKit Rw
set_option linter.unusedVariables false
theorem ins_len : ∀ {L : List E} {x : E} {R : List E}, ins L x = some R → R.length ≤ L.length + 1
  | [], x, R, h => by cases h; simp
  | y :: L, x, R, h => by
    rw [ins] at h
    split at h
    · obtain ⟨R', h1, rfl⟩ := Option.map_eq_some_iff.1 h
      have := ins_len h1
      simp only [List.length_cons]; omega
    · split at h
      · obtain ⟨R', h1, rfl⟩ := Option.map_eq_some_iff.1 h
        simp only [List.length_cons]; omega
      · cases h; simp only [List.length_cons]; omega
theorem insAll_snoc : ∀ (b : List E) (L : List E) (x : E), insAll L (b ++ [x]) = (insAll L b).bind fun R => ins R x
  | [], L, x => by simp only [List.nil_append, insAll, Option.bind_some]; cases ins L x <;> rfl
  | y :: b, L, x => by
    rw [List.cons_append, insAll, insAll]
    cases e : ins L y with
    | none => rfl
    | some R => rw [Option.bind_some, Option.bind_some]; exact insAll_snoc b R x
theorem insAll_app : ∀ (b c : List E) (L : List E), insAll L (b ++ c) = (insAll L b).bind fun R => insAll R c
  | [], c, L => rfl
  | y :: b, c, L => by
    rw [List.cons_append, insAll, insAll]
    cases e : ins L y with
    | none => rfl
    | some R => rw [Option.bind_some, Option.bind_some]; exact insAll_app b c R
theorem insAll_take_none {L b : List E} (k : Nat) (h : insAll L (b.take k) = none) : insAll L b = none := by
  rw [← List.take_append_drop k b, insAll_app, h]; rfl
theorem take_snoc {b : List E} {k : Nat} (hk : k < b.length) : b.take (k + 1) = b.take k ++ [at' b k] := by
  rw [List.take_succ_eq_append_getElem hk, at_get b k hk]
theorem insAll_step {L b R : List E} {k : Nat} (hk : k < b.length) (h : insAll L (b.take k) = some R) : insAll L (b.take (k + 1)) = ins R (at' b k) := by
  rw [take_snoc hk, insAll_snoc, h]; rfl
theorem insAll_fine : ∀ (b : List E) {L R : List E}, Fine L → (∀ x ∈ b, Fine [x]) → insAll L b = some R → Fine R ∧ R.length ≤ L.length + b.length
  | [], L, R, hL, _, h => by cases h; exact ⟨hL, by simp⟩
  | x :: b, L, R, hL, hb, h => by
    rw [insAll] at h
    cases e : ins L x with
    | none => rw [e] at h; cases h
    | some S =>
      rw [e, Option.bind_some] at h
      have i1 := (ins_fine hL (hb x (List.mem_cons_self ..)) e).1
      have i2 := ins_len e
      obtain ⟨j1, j2⟩ := insAll_fine b i1 (fun y hy => hb y (List.mem_cons_of_mem _ hy)) h
      exact ⟨j1, by simp only [List.length_cons]; omega⟩
theorem ins_end : ∀ {L : List E} {x : E}, (∀ y ∈ L, Lab.cmpL y.1 x.1 < 0) → ins L x = some (L ++ [x])
  | [], x, _ => rfl
  | y :: L, x, h => by
    rw [ins_lt L (h y (List.mem_cons_self ..)), ins_end (fun z hz => h z (List.mem_cons_of_mem _ hz))]; rfl
theorem insAll_end : ∀ (b : List E) {L : List E}, (L ++ b).Pairwise (fun a b => Lab.cmpL a.1 b.1 < 0) → insAll L b = some (L ++ b)
  | [], L, _ => by rw [insAll, List.append_nil]
  | x :: b, L, h => by
    have h' := List.pairwise_append.1 h
    rw [insAll, ins_end (fun y hy => h'.2.2 y hy x (List.mem_cons_self ..)), Option.bind_some, insAll_end b (by rw [List.append_assoc]; exact h), List.append_assoc]; rfl
theorem insAll_self {b : List E} (h : ok b = true) : insAll [] b = some b := by
  rw [insAll_end b (by rw [List.nil_append]; exact ((ok_iff b).1 h).2.1)]; rfl
theorem lab_good {ls : List Lab.E} (h : Lab.ok ls = true) : ls.length ≤ 4 ∧ ∀ y ∈ ls, y.1.size ≤ 6 ∧ y.2.size ≤ 8 := by
  unfold Lab.ok Lab.okTo at h
  simp only [Bool.and_eq_true, decide_eq_true_eq, List.all_eq_true, List.mem_range] at h
  refine ⟨h.1.2, fun y hy => ?_⟩
  obtain ⟨i, hi, rfl⟩ := List.getElem_of_mem hy
  have := h.2 i hi
  unfold Lab.stepOk Lab.nameB Lab.wordB at this
  have e : Lab.at' ls i = ls[i] := by simp [Lab.at', List.getD, hi]
  rw [e] at this
  simp only [Bool.and_eq_true, decide_eq_true_eq] at this
  exact ⟨this.1.1.1.1.2, this.1.1.2.1⟩
theorem wf_i64 {n : Int} (h0 : -9223372036854775808 ≤ n) (h1 : n ≤ 9223372036854775807) : (Lit.int .i64 n).wf = true := by
  have h2 : IntKind.i64.min = -9223372036854775808 := by decide
  have h3 : IntKind.i64.max = 9223372036854775807 := by decide
  simp only [Lit.wf, h2, h3]
  simp
  omega
theorem fine_good {L : List E} (h : Fine L) : ∀ x ∈ L, good x := by
  intro x hx
  have h1 := lab_good (h.lab x hx)
  have h2 := (h.sam x hx).1
  have h3 := SampMath.ok_len h2
  refine ⟨⟨by unfold maxLen; omega, fun y hy => ⟨by have := (h1.2 y hy).1; unfold maxLen; omega, by have := (h1.2 y hy).2; unfold maxLen; omega⟩⟩, by unfold maxLen; omega, fun y hy => ?_⟩
  obtain ⟨i, hi, rfl⟩ := List.getElem_of_mem hy
  have := SampMath.ok_range h2 hi
  have e : SampMath.at' x.2 i = x.2[i] := by simp [SampMath.at', List.getD, hi]
  rw [e] at this
  exact ⟨wf_i64 (by omega) (by omega), wf_i64 (by omega) (by omega)⟩
theorem fine_sorted {L : List E} (h : Fine L) : Sorted L := by
  unfold Sorted
  rw [List.pairwise_map]
  exact h.up.imp_of_mem fun {a b} ha hb hab => key_lt (h.lab a ha) (h.lab b hb) hab
theorem fine_nil : Fine [] := ⟨fun y hy => (by cases hy), fun y hy => (by cases hy), List.Pairwise.nil⟩
theorem join_bad1 {a b : List E} (h : ok a = false) : join a b = ([], false) := by unfold join; rw [if_neg (by rw [h]; simp)]
theorem join_bad2 {a b : List E} (h : ok b = false) : join a b = ([], false) := by unfold join; rw [if_neg (by rw [h]; simp)]
theorem join_no {a b : List E} (ha : ok a = true) (hb : ok b = true) (h : insAll a b = none) : join a b = ([], false) := by rw [join_set ha hb, h]; rfl
theorem join_yes {a b R : List E} (ha : ok a = true) (hb : ok b = true) (h : insAll a b = some R) (hR : ok R = true) : join a b = (R, true) := by rw [join_set ha hb, h, Option.bind_some, if_pos hR]; rfl
theorem join_many {a b R : List E} (ha : ok a = true) (hb : ok b = true) (h : insAll a b = some R) (hR : ok R = false) : join a b = ([], false) := by rw [join_set ha hb, h, Option.bind_some, if_neg (by rw [hR]; simp)]; rfl
end Go.Proofs.Ytncjagdnebpaaaa.Row
