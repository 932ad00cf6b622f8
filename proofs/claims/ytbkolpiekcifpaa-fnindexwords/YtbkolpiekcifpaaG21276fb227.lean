/- My own texts of one claim, laid together by program: FindMath, WordMath2. -/
import Derived.Test.YtbkolpiekcifpaaG920ab0f5d7
/- Places that several matches find, one by one. No condition. -/
namespace Go.Proofs.Ytbkolpiekcifpaa.Lss
open Go.RowKit Rw ListMath
def places (P : Nat → Bool) (n : Nat) : List Int := ((List.range n).filter P).map fun i : Nat => (i : Int)
theorem mem_places {P : Nat → Bool} {n : Nat} {z : Int} : z ∈ places P n ↔ ∃ i : Nat, i < n ∧ P i = true ∧ z = (i : Int) := by
  unfold places
  rw [List.mem_map]
  constructor
  · rintro ⟨i, hi, rfl⟩
    have h := List.mem_filter.1 hi
    exact ⟨i, List.mem_range.1 h.1, h.2, rfl⟩
  · rintro ⟨i, h1, h2, rfl⟩
    exact ⟨i, List.mem_filter.2 ⟨List.mem_range.2 h1, h2⟩, rfl⟩
theorem places_up (P : Nat → Bool) (n : Nat) : Up (places P n) := by
  unfold places Up
  refine List.Pairwise.map _ (R := fun a b : Nat => a < b) (fun a b h => ?_) ?_
  · exact Int.ofNat_lt.2 h
  · exact List.Pairwise.filter _ List.pairwise_lt_range
theorem places_len (P : Nat → Bool) (n : Nat) : (places P n).length ≤ n := by
  unfold places
  rw [List.length_map]
  have := List.length_filter_le P (List.range n)
  simpa using this
theorem places_ok (P : Nat → Bool) {n : Nat} (h : n ≤ 40) : ok (places P n) = true := by
  refine ok_mk (places_up P n) (fun x hx => ?_) (by have := places_len P n; omega)
  obtain ⟨i, -, -, rfl⟩ := mem_places.1 hx
  exact Int.natCast_nonneg _
theorem places_congr {P Q : Nat → Bool} {n : Nat} (h : ∀ i, i < n → P i = Q i) : places P n = places Q n := by
  unfold places
  rw [List.filter_congr (fun i hi => h i (List.mem_range.1 hi))]
theorem both_places (P Q : Nat → Bool) {n : Nat} (h : n ≤ 40) : res both (places P n) (places Q n) = places (fun i => P i && Q i) n := by
  rw [res_ok (places_ok P h) (places_ok Q h), merge_both (places_up P n) (places_up Q n)]
  refine up_ext (List.Pairwise.filter _ (places_up P n)) (places_up _ n) (fun z => ?_)
  rw [List.mem_filter, has_iff, decide_eq_true_eq, mem_places, mem_places, mem_places]
  constructor
  · rintro ⟨⟨i, h1, h2, e1⟩, ⟨j, h3, h4, e2⟩⟩
    obtain rfl : i = j := by omega
    exact ⟨i, h1, by rw [h2, h4]; rfl, e1⟩
  · rintro ⟨i, h1, h2, e⟩
    simp only [Bool.and_eq_true] at h2
    exact ⟨⟨i, h1, h2.1, e⟩, ⟨i, h1, h2.2, e⟩⟩
theorem findTo_places (ms : List Mat.E) (zs : List E) (k : Nat) : findTo ms zs k = places (fun i => Mat.mlet ms (at' zs i)) k := rfl
/-- places that each of the first matches lets -/
def yTo (ms : List Mat.E) (zs : List E) (i : Nat) : List Int := places (fun k => (ms.take i).all fun m => Mat.mlet [m] (at' zs k)) zs.length
theorem mlet_nil' {ls : List Lab.E} (h : Lab.ok ls = true) : Mat.mlet [] ls = true := by
  have e : Mat.ok [] = true := rfl
  unfold Mat.mlet
  rw [e, h]; rfl
theorem find_nil {ms : List Mat.E} {zs : List E} (h : allOk zs = true) : find [] zs = yTo ms zs 0 := by
  rw [find_yes h, findTo_places]
  exact places_congr (fun i hi => by rw [mlet_nil' (allOk_at h hi)]; rfl)
theorem places_all (n : Nat) : (places (fun _ => true) n).length = n := by unfold places; rw [List.length_map, List.filter_eq_self.2 (fun _ _ => rfl), List.length_range]
theorem find_nil_len {zs : List E} (h : allOk zs = true) : (find [] zs).length = zs.length := by
  rw [find_yes h, findTo_places, places_congr (Q := fun _ => true) (fun i hi => mlet_nil' (allOk_at h hi))]
  exact places_all _
theorem y_step {ms : List Mat.E} {zs : List E} {i : Nat} (h : allOk zs = true) (hi : i < ms.length) : res both (yTo ms zs i) (find [Mat.at' ms i] zs) = yTo ms zs (i + 1) := by
  rw [find_yes h, findTo_places]
  unfold yTo
  rw [both_places _ _ (allOk_len h)]
  exact places_congr (fun k _ => by rw [Mat.at_snoc ms i hi, List.all_append]; simp)
theorem y_ok {ms : List Mat.E} {zs : List E} (i : Nat) (h : allOk zs = true) : ok (yTo ms zs i) = true := places_ok _ (allOk_len h)
theorem y_len (ms : List Mat.E) (zs : List E) (i : Nat) : (yTo ms zs i).length ≤ zs.length := places_len _ _
theorem mat_one {ms : List Mat.E} (h : Mat.ok ms = true) {m : Mat.E} (hm : m ∈ ms) : Mat.ok [m] = true := by
  obtain ⟨k, hk, rfl⟩ := List.getElem_of_mem hm
  unfold Mat.ok Mat.okTo at h ⊢
  simp only [Bool.and_eq_true, decide_eq_true_eq] at h ⊢
  have hs := List.all_eq_true.1 h.1 k (List.mem_range.2 hk)
  refine ⟨List.all_eq_true.2 fun j hj => ?_, by simp⟩
  have hj := List.mem_range.1 hj
  simp only [List.length_cons, List.length_nil] at hj
  obtain rfl : j = 0 := by omega
  unfold Mat.stepOk at hs ⊢
  rw [Mat.at_get ms k hk] at hs
  exact hs
theorem y_end {ms : List Mat.E} {zs : List E} (h : allOk zs = true) (hm : Mat.ok ms = true) : find ms zs = yTo ms zs ms.length := by
  rw [find_yes h, findTo_places]
  unfold yTo
  rw [List.take_of_length_le (Nat.le_refl _)]
  refine places_congr (fun i hi => ?_)
  have hl := allOk_at h hi
  unfold Mat.mlet Mat.lets
  rw [hm, hl]
  simp only [Bool.true_and, Bool.and_true]
  rw [Bool.eq_iff_iff, List.all_eq_true, List.all_eq_true]
  refine ⟨fun g m hmem => ?_, fun g m hmem => ?_⟩
  · rw [mat_one hm hmem]; simp [g m hmem]
  · have := g m hmem
    rw [mat_one hm hmem] at this
    simpa using this
theorem find_let {ms : List Mat.E} {zs : List E} {j : Nat} (h : j < (find ms zs).length) : ∃ i : Nat, i < zs.length ∧ ListMath.at' (find ms zs) j = (i : Int) ∧ Mat.mlet ms (at' zs i) = true := by
  have hm : ListMath.at' (find ms zs) j ∈ find ms zs := by
    have e : ListMath.at' (find ms zs) j = (find ms zs)[j] := by simp [ListMath.at', List.getD, h]
    rw [e]; exact List.getElem_mem _
  cases hA : allOk zs
  · rw [find_no hA] at hm; cases hm
  · have hm' := hm
    rw [find_yes hA, findTo_places] at hm'
    obtain ⟨i, h1, h2, h3⟩ := mem_places.1 hm'
    exact ⟨i, h1, by rw [find_yes hA, findTo_places]; exact h3, h2⟩
theorem allOk_some {zs : List E} (h : allOk zs = false) (h7 : zs.length ≤ 7) : 0 < zs.length := by
  rcases Nat.eq_zero_or_pos zs.length with e | e
  · obtain rfl : zs = [] := List.eq_nil_of_length_eq_zero e
    exact absurd h (by decide)
  · exact e
end Go.Proofs.Ytbkolpiekcifpaa.Lss

/- Words under a name: ascending, each by some place; what one match more finds. No condition. -/
namespace Go.Proofs.Ytbkolpiekcifpaa.StrMath
abbrev UpS (l : List ByteArray) : Prop := l.Pairwise lt
theorem mem_put_iff {l : List ByteArray} {n z : ByteArray} : z ∈ put l n ↔ z ∈ l ∨ z = n := by
  refine ⟨mem_put, fun h => ?_⟩
  induction l with
  | nil => rcases h with h | h
           · cases h
           · simp [put, h]
  | cons x l ih =>
    unfold put
    split
    · rcases h with h | h
      · rcases List.mem_cons.1 h with e | e
        · rw [e]; exact List.mem_cons_self ..
        · exact List.mem_cons_of_mem _ (ih (.inl e))
      · exact List.mem_cons_of_mem _ (ih (.inr h))
    · split
      · rename_i e
        rcases h with h | h
        · exact h
        · rw [h, ← e]; exact List.mem_cons_self ..
      · rcases h with h | h
        · exact List.mem_cons_of_mem _ h
        · rw [h]; exact List.mem_cons_self ..
theorem up_put {l : List ByteArray} (n : ByteArray) (h : UpS l) : UpS (put l n) := by
  induction l with
  | nil => simp [put, UpS]
  | cons x l ih =>
    have hc := List.pairwise_cons.1 h
    unfold put
    split
    · rename_i hx
      refine List.pairwise_cons.2 ⟨fun z hz => ?_, ih hc.2⟩
      rcases mem_put hz with e | e
      · exact hc.1 z e
      · rw [e]; exact hx
    · split
      · exact h
      · rename_i h1 h2
        have hn : lt n x := by
          rcases lt_trichotomy x n with g | g | g
          · exact absurd g h1
          · exact absurd g h2
          · exact g
        refine List.pairwise_cons.2 ⟨fun z hz => ?_, h⟩
        rcases List.mem_cons.1 hz with e | e
        · rw [e]; exact hn
        · exact lt_trans hn (hc.1 z e)
end Go.Proofs.Ytbkolpiekcifpaa.StrMath
namespace Go.Proofs.Ytbkolpiekcifpaa.Mat
def ok1 (m : E) : Bool := decide (1 ≤ m.1) && decide (m.1 ≤ 4) && Lab.nameB m.2.1 && Lab.wordB m.2.2
theorem ok_all (zs : List E) : ok zs = (zs.all ok1 && decide (zs.length ≤ 4)) := by
  unfold ok okTo
  congr 1
  rw [Bool.eq_iff_iff, List.all_eq_true, List.all_eq_true]
  constructor
  · intro h m hm
    obtain ⟨k, hk, rfl⟩ := List.getElem_of_mem hm
    have := h k (List.mem_range.2 hk)
    unfold stepOk at this
    rw [at_get zs k hk] at this
    exact this
  · intro h k hk
    have hk := List.mem_range.1 hk
    have := h zs[k] (List.getElem_mem hk)
    unfold stepOk
    rw [at_get zs k hk]
    exact this
theorem ok_app {ms : List E} {m : E} (hl : ms.length < 4) (h1 : ok1 m = true) : ok (ms ++ [m]) = ok ms := by
  rw [ok_all, ok_all, List.all_append]
  have e1 : decide ((ms ++ [m]).length ≤ 4) = true := by simp; omega
  have e2 : decide (ms.length ≤ 4) = true := by simp; omega
  rw [e1, e2]
  simp [h1]
theorem mlet_app {ms : List E} {m : E} (ls : List Lab.E) (hl : ms.length < 4) (h1 : ok1 m = true) : mlet (ms ++ [m]) ls = (mlet ms ls && letB m ls) := by
  unfold mlet lets
  rw [ok_app hl h1, List.all_append]
  simp [Bool.and_assoc]
theorem letB_is {nm x : ByteArray} {ls : List Lab.E} : letB (1, nm, x) ls = sameS (wordOf ls nm) x := by unfold letB; rw [if_pos rfl]
theorem letB_not {nm x : ByteArray} {ls : List Lab.E} : letB (2, nm, x) ls = !sameS (wordOf ls nm) x := by unfold letB; rw [if_neg (show ¬ ((2 : Int) = 1) by decide), if_pos rfl]
theorem word_there {ls : List Lab.E} {nm : ByteArray} (hok : Lab.ok ls = true) (h : (wordOf ls nm).size ≠ 0) : Lab.nameB nm = true ∧ Lab.wordB (wordOf ls nm) = true := by
  unfold wordOf at h ⊢
  cases hf : ls.find? (fun x => sameS x.1 nm) with
  | none => rw [hf] at h; exact absurd rfl h
  | some y =>
    have hm := List.mem_of_find?_eq_some hf
    have hs := List.find?_some hf
    have hn : y.1 = nm := sameS_iff.1 hs
    obtain ⟨k, hk, rfl⟩ := List.getElem_of_mem hm
    unfold Lab.ok at hok
    simp only [Bool.and_eq_true, decide_eq_true_eq] at hok
    have hst := List.all_eq_true.1 (show (List.range ls.length).all (Lab.stepOk ls) = true from hok.2) k (List.mem_range.2 hk)
    unfold Lab.stepOk at hst
    simp only [Bool.and_eq_true, Lab.at_get ls k hk] at hst
    refine ⟨by rw [← hn]; exact hst.1.1.1, ?_⟩
    simpa using hst.1.1.2
end Go.Proofs.Ytbkolpiekcifpaa.Mat
namespace Go.Proofs.Ytbkolpiekcifpaa.Lss
open Go.RowKit Rw StrMath
theorem mem_fold (zs : List E) (nm : ByteArray) (z : ByteArray) : ∀ (l : List Int) (acc : List ByteArray), z ∈ l.foldl (addW zs nm) acc ↔ z ∈ acc ∨ ∃ i ∈ l, (Mat.wordOf (at' zs i.toNat) nm).size ≠ 0 ∧ z = Mat.wordOf (at' zs i.toNat) nm
  | [], acc => by simp
  | i :: l, acc => by
    rw [List.foldl_cons, mem_fold zs nm z l]
    unfold addW
    by_cases h : (Mat.wordOf (at' zs i.toNat) nm).size = 0
    · rw [if_pos h]
      constructor
      · rintro (g | ⟨j, hj, g⟩)
        · exact .inl g
        · exact .inr ⟨j, List.mem_cons_of_mem _ hj, g⟩
      · rintro (g | ⟨j, hj, g1, g2⟩)
        · exact .inl g
        · rcases List.mem_cons.1 hj with e | e
          · rw [e] at g1; exact absurd h g1
          · exact .inr ⟨j, e, g1, g2⟩
    · rw [if_neg h, mem_put_iff]
      constructor
      · rintro ((g | g) | ⟨j, hj, g⟩)
        · exact .inl g
        · exact .inr ⟨i, List.mem_cons_self .., h, g⟩
        · exact .inr ⟨j, List.mem_cons_of_mem _ hj, g⟩
      · rintro (g | ⟨j, hj, g1, g2⟩)
        · exact .inl (.inl g)
        · rcases List.mem_cons.1 hj with e | e
          · rw [e] at g2; exact .inl (.inr g2)
          · exact .inr ⟨j, e, g1, g2⟩
theorem up_fold (zs : List E) (nm : ByteArray) : ∀ (l : List Int) (acc : List ByteArray), UpS acc → UpS (l.foldl (addW zs nm) acc)
  | [], acc, h => h
  | i :: l, acc, h => by
    rw [List.foldl_cons]
    refine up_fold zs nm l _ ?_
    unfold addW
    split
    · exact h
    · exact up_put _ h
theorem words_up (ms : List Mat.E) (zs : List E) (nm : ByteArray) : UpS (words ms zs nm) := up_fold zs nm _ _ List.Pairwise.nil
theorem words_lt {ms : List Mat.E} {zs : List E} {nm : ByteArray} {k : Nat} (hk : 0 < k) (h : k < (words ms zs nm).length) : lt (StrMath.at' (words ms zs nm) (k - 1)) (StrMath.at' (words ms zs nm) k) := by
  have := List.pairwise_iff_getElem.1 (words_up ms zs nm) (k - 1) k (by omega) h (by omega)
  simpa [StrMath.at', List.getD, h, show k - 1 < (words ms zs nm).length from by omega] using this
theorem mem_words {ms : List Mat.E} {zs : List E} {nm z : ByteArray} : z ∈ words ms zs nm ↔ ∃ i : Nat, i < zs.length ∧ allOk zs = true ∧ Mat.mlet ms (at' zs i) = true ∧ (Mat.wordOf (at' zs i) nm).size ≠ 0 ∧ z = Mat.wordOf (at' zs i) nm := by
  unfold words
  rw [mem_fold]
  constructor
  · rintro (g | ⟨j, hj, g1, g2⟩)
    · cases g
    · cases hA : allOk zs
      · rw [find_no hA] at hj; cases hj
      · rw [find_yes hA, findTo_places] at hj
        obtain ⟨i, h1, h2, rfl⟩ := mem_places.1 hj
        rw [Int.toNat_natCast] at g1 g2
        exact ⟨i, h1, rfl, h2, g1, g2⟩
  · rintro ⟨i, h1, hA, h2, g1, g2⟩
    refine .inr ⟨(i : Int), ?_, by rw [Int.toNat_natCast]; exact g1, by rw [Int.toNat_natCast]; exact g2⟩
    rw [find_yes hA, findTo_places]
    exact mem_places.2 ⟨i, h1, h2, rfl⟩
theorem pos_of_mem {α : Type} {l : List α} {x : α} (h : x ∈ l) : 0 < l.length := by cases l with | nil => cases h | cons => simp
theorem at_mem' {l : List ByteArray} {k : Nat} (h : k < l.length) : StrMath.at' l k ∈ l := by
  have e : StrMath.at' l k = l[k] := by simp [StrMath.at', List.getD, h]
  rw [e]; exact List.getElem_mem _
/-- with one match more, for a word that was told, something is found -/
theorem more_found {ms : List Mat.E} {zs : List E} {nm : ByteArray} {k : Nat} (hl : ms.length < 4) (h : k < (words ms zs nm).length) : 0 < (find (ms ++ [(1, nm, StrMath.at' (words ms zs nm) k)]) zs).length := by
  obtain ⟨i, h1, hA, h2, g1, g2⟩ := mem_words.1 (at_mem' h)
  have hok := allOk_at hA h1
  have hw := Mat.word_there hok g1
  have o1 : Mat.ok1 (1, nm, StrMath.at' (words ms zs nm) k) = true := by
    unfold Mat.ok1
    rw [g2]
    simp [hw.1, hw.2]
  refine pos_of_mem (x := (i : Int)) ?_
  rw [find_yes hA, findTo_places]
  refine mem_places.2 ⟨i, h1, ?_, rfl⟩
  rw [Mat.mlet_app _ hl o1, h2, Mat.letB_is, g2, Mat.sameS_self]
  rfl
/-- something has a word under the name just if a word is told -/
theorem not_found {ms : List Mat.E} {zs : List E} {nm : ByteArray} (hl : ms.length < 4) (hn : Lab.nameB nm = true) : decide (0 < (find (ms ++ [(2, nm, ByteArray.empty)]) zs).length) = decide (0 < (words ms zs nm).length) := by
  have o1 : Mat.ok1 (2, nm, ByteArray.empty) = true := by
    unfold Mat.ok1
    rw [hn]
    rfl
  have key : ∀ i, Mat.mlet (ms ++ [(2, nm, ByteArray.empty)]) (at' zs i) = true ↔ Mat.mlet ms (at' zs i) = true ∧ (Mat.wordOf (at' zs i) nm).size ≠ 0 := fun i => by
    rw [Mat.mlet_app _ hl o1, Mat.letB_not, Bool.and_eq_true, Bool.not_eq_true', Mat.sameS_no]
    constructor
    · rintro ⟨a, b⟩; exact ⟨a, fun e => b ((Lab.empty_iff _).2 e)⟩
    · rintro ⟨a, b⟩; exact ⟨a, fun e => b ((Lab.empty_iff _).1 e)⟩
  rw [decide_eq_decide]
  constructor
  · intro h
    cases hA : allOk zs
    · rw [find_no hA] at h; simp at h
    · obtain ⟨z, hm'⟩ := List.exists_mem_of_length_pos h
      rw [find_yes hA, findTo_places] at hm'
      obtain ⟨i, h1, h2, -⟩ := mem_places.1 hm'
      have h3 := (key i).1 h2
      exact pos_of_mem (mem_words.2 ⟨i, h1, hA, h3.1, h3.2, rfl⟩)
  · intro h
    obtain ⟨i, h1, hA, h2, g1, -⟩ := mem_words.1 (at_mem' h)
    refine pos_of_mem (x := (i : Int)) ?_
    rw [find_yes hA, findTo_places]
    exact mem_places.2 ⟨i, h1, (key i).2 ⟨h2, g1⟩, rfl⟩
end Go.Proofs.Ytbkolpiekcifpaa.Lss
