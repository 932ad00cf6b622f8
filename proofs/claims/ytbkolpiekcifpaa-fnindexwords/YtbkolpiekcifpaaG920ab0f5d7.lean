/- My own texts of one claim, laid together by program: WordMath, ListMath2. -/
import Derived.Test.YtbkolpiekcifpaaG41d1ced5ab
import Derived.Test.YtbkolpiekcifpaaG04608fa4a9
/- Words under a name of all labels that matches let. No condition. -/
namespace Go.Proofs.Ytbkolpiekcifpaa.Lss
open Go.RowKit Rw
def addW (zs : List E) (nm : ByteArray) (acc : List ByteArray) (i : Int) : List ByteArray := if (Mat.wordOf (at' zs i.toNat) nm).size = 0 then acc else StrMath.put acc (Mat.wordOf (at' zs i.toNat) nm)
def wordsTo (ms : List Mat.E) (zs : List E) (nm : ByteArray) (k : Nat) : List ByteArray := (findTo ms zs k).foldl (addW zs nm) []
def words (ms : List Mat.E) (zs : List E) (nm : ByteArray) : List ByteArray := (find ms zs).foldl (addW zs nm) []
theorem addW_no {zs : List E} {nm : ByteArray} (acc : List ByteArray) {i : Nat} (h : (Mat.wordOf (at' zs i) nm).size = 0) : addW zs nm acc (i : Int) = acc := by unfold addW; rw [Int.toNat_natCast, if_pos h]
theorem addW_yes {zs : List E} {nm : ByteArray} (acc : List ByteArray) {i : Nat} (h : (Mat.wordOf (at' zs i) nm).size ≠ 0) : addW zs nm acc (i : Int) = StrMath.put acc (Mat.wordOf (at' zs i) nm) := by unfold addW; rw [Int.toNat_natCast, if_neg h]
theorem addW_len (zs : List E) (nm : ByteArray) (acc : List ByteArray) (i : Int) : (addW zs nm acc i).length ≤ acc.length + 1 := by
  unfold addW
  split
  · omega
  · exact StrMath.put_len _ _
theorem fold_len (zs : List E) (nm : ByteArray) : ∀ (l : List Int) (acc : List ByteArray), (l.foldl (addW zs nm) acc).length ≤ acc.length + l.length
  | [], acc => by simp
  | i :: l, acc => by
    have h1 := fold_len zs nm l (addW zs nm acc i)
    have h2 := addW_len zs nm acc i
    simp only [List.foldl_cons, List.length_cons]
    omega
theorem words_len (ms : List Mat.E) (zs : List E) (nm : ByteArray) : (words ms zs nm).length ≤ 40 := by
  have h1 := fold_len zs nm (find ms zs) []
  have h2 := find_len ms zs
  unfold words
  simp only [List.length_nil] at h1
  omega
theorem wordsTo_no {ms : List Mat.E} {zs : List E} {nm : ByteArray} {k : Nat} (h : Mat.mlet ms (at' zs k) = false) : wordsTo ms zs nm (k + 1) = wordsTo ms zs nm k := by unfold wordsTo; rw [findTo_no h]
theorem wordsTo_yes {ms : List Mat.E} {zs : List E} {nm : ByteArray} {k : Nat} (h : Mat.mlet ms (at' zs k) = true) : wordsTo ms zs nm (k + 1) = addW zs nm (wordsTo ms zs nm k) (k : Int) := by unfold wordsTo; rw [findTo_yes h, List.foldl_append]; rfl
theorem wordsTo_len (ms : List Mat.E) (zs : List E) (nm : ByteArray) (k : Nat) : (wordsTo ms zs nm k).length ≤ k := by
  have h1 := fold_len zs nm (findTo ms zs k) []
  have h2 := findTo_len ms zs k
  unfold wordsTo
  simp only [List.length_nil] at h1
  omega
theorem words_yes {ms : List Mat.E} {zs : List E} {nm : ByteArray} (h : allOk zs = true) : words ms zs nm = wordsTo ms zs nm zs.length := by unfold words wordsTo; rw [find_yes h]
theorem words_no {ms : List Mat.E} {zs : List E} {nm : ByteArray} (h : find ms zs = []) : words ms zs nm = [] := by unfold words; rw [h]; rfl
theorem find_at {ms : List Mat.E} {zs : List E} {j : Nat} (h : j < (find ms zs).length) : ∃ i : Nat, i < zs.length ∧ ListMath.at' (find ms zs) j = (i : Int) ∧ allOk zs = true := by
  have hm : ListMath.at' (find ms zs) j ∈ find ms zs := by
    have e : ListMath.at' (find ms zs) j = (find ms zs)[j] := by simp [ListMath.at', List.getD, h]
    rw [e]; exact List.getElem_mem _
  unfold find at hm
  split at hm
  · rename_i hA
    unfold findTo at hm
    obtain ⟨i, hi, e⟩ := List.mem_map.1 hm
    have hi' := List.mem_range.1 (List.mem_filter.1 hi).1
    refine ⟨i, hi', ?_, hA⟩
    unfold find findTo
    rw [if_pos hA, ← e]
  · cases hm
theorem word_small {ls : List Lab.E} (nm : ByteArray) (h : Lab.ok ls = true) : (Mat.wordOf ls nm).size ≤ 8 := by
  unfold Mat.wordOf
  cases hf : ls.find? (fun x => Mat.sameS x.1 nm) with
  | none => exact Nat.zero_le _
  | some x =>
    have hm := List.mem_of_find?_eq_some hf
    obtain ⟨k, hk, rfl⟩ := List.getElem_of_mem hm
    unfold Lab.ok at h
    simp only [Bool.and_eq_true, decide_eq_true_eq] at h
    have hs := List.all_eq_true.1 (show (List.range ls.length).all (Lab.stepOk ls) = true from h.2) k (List.mem_range.2 hk)
    unfold Lab.stepOk Lab.nameB Lab.wordB at hs
    simp only [Bool.and_eq_true, decide_eq_true_eq, Lab.at_get ls k hk] at hs
    exact hs.1.1.2.1
end Go.Proofs.Ytbkolpiekcifpaa.Lss

/- What the laws of lists ask, as plain mathematics. No condition. -/
namespace Go.Proofs.Ytbkolpiekcifpaa.ListMath
theorem merge_comm (k : Bool → Bool → Bool) (hk : ∀ p q, k p q = k q p) {a b : List Int} (ha : Up a) (hb : Up b) : merge k b a = merge k a b := by
  refine up_ext (up_merge k b a hb ha) (up_merge k a b ha hb) fun z => ?_
  rw [mem_merge k a b ha hb, mem_merge k b a hb ha]
  unfold Has
  rw [hk, or_comm]
theorem res_comm (k : Bool → Bool → Bool) (hk : ∀ p q, k p q = k q p) (a b : List Int) : res k b a = res k a b := by
  by_cases h : ok a = true ∧ ok b = true
  · rw [res_ok h.1 h.2, res_ok h.2 h.1, merge_comm k hk (ok_up h.1) (ok_up h.2)]
  · unfold res
    rw [if_neg h, if_neg (fun e => h ⟨e.2, e.1⟩)]
theorem both_comm (p q : Bool) : both p q = both q p := by cases p <;> cases q <;> rfl
theorem either_comm (p q : Bool) : either p q = either q p := by cases p <;> cases q <;> rfl
theorem res_self (k : Bool → Bool → Bool) (hk : k true true = true) {a : List Int} (h : ok a = true) : res k a a = a := by
  rw [res_ok h h]
  refine up_ext (up_merge k a a (ok_up h) (ok_up h)) (ok_up h) fun z => ?_
  rw [mem_merge k a a (ok_up h) (ok_up h)]
  unfold Has
  constructor
  · rintro ⟨h1, _⟩; simpa using h1
  · intro hz
    have hd : decide (z ∈ a) = true := decide_eq_true hz
    rw [hd]
    exact ⟨.inl hz, hk⟩
theorem mem_res {k : Bool → Bool → Bool} {a b : List Int} (h1 : ok a = true) (h2 : ok b = true) (z : Int) : z ∈ res k a b ↔ Has k a b z := by
  rw [res_ok h1 h2]; exact mem_merge k a b (ok_up h1) (ok_up h2) z
theorem up_res {k : Bool → Bool → Bool} {a b : List Int} (h1 : ok a = true) (h2 : ok b = true) : Up (res k a b) := by
  rw [res_ok h1 h2]; exact up_merge k a b (ok_up h1) (ok_up h2)
theorem both_le {a b : List Int} (h1 : ok a = true) (h2 : ok b = true) : (res both a b).length ≤ a.length := by
  rw [res_ok h1 h2, merge_both (ok_up h1) (ok_up h2)]; exact List.length_filter_le _ _
theorem first_le {a b : List Int} (h1 : ok a = true) (h2 : ok b = true) : (res first a b).length ≤ a.length := by
  rw [res_ok h1 h2, merge_first (ok_up h1) (ok_up h2)]; exact List.length_filter_le _ _
theorem ok_res {k : Bool → Bool → Bool} {a b : List Int} (h1 : ok a = true) (h2 : ok b = true) (hl : (res k a b).length ≤ a.length) : ok (res k a b) = true := by
  refine ok_mk (up_res h1 h2) (fun x hx => ?_) (by have := ok_len h1; omega)
  rcases ((mem_res h1 h2 x).1 hx).1 with h | h
  · exact ok_nonneg h1 x h
  · exact ok_nonneg h2 x h
theorem ok_both {a b : List Int} (h1 : ok a = true) (h2 : ok b = true) : ok (res both a b) = true := ok_res h1 h2 (both_le h1 h2)
theorem ok_first {a b : List Int} (h1 : ok a = true) (h2 : ok b = true) : ok (res first a b) = true := ok_res h1 h2 (first_le h1 h2)
theorem both_le' {a b : List Int} (h1 : ok a = true) (h2 : ok b = true) : (res both a b).length ≤ b.length := by
  rw [← res_comm both both_comm]; exact both_le h2 h1
theorem has_both {a b : List Int} (h1 : ok a = true) (h2 : ok b = true) (z : Int) (hz : z ∈ a) : has (res both a b) z = has b z := by
  rw [has_iff, has_iff]
  refine decide_eq_decide.2 ?_
  rw [mem_res h1 h2]
  unfold Has both
  simp [hz]
theorem at_mem (a : List Int) (k : Nat) (h : k < a.length) : at' a k ∈ a := by
  have e : at' a k = a[k] := by simp [at', List.getD, h]
  rw [e]; exact List.getElem_mem h
theorem has_either {a b : List Int} (h1 : ok a = true) (h2 : ok b = true) (k : Nat) (hk : k < (res either a b).length) : has a (at' (res either a b) k) = true ∨ has b (at' (res either a b) k) = true := by
  have := ((mem_res h1 h2 _).1 (at_mem _ k hk)).1
  rw [has_iff, has_iff, decide_eq_true_eq, decide_eq_true_eq]
  exact this
theorem up_at {l : List Int} (h : Up l) (k : Nat) (h0 : 0 < k) (hk : k < l.length) : at' l (k - 1) < at' l k := by
  have e : at' l k = l[k] := by simp [at', List.getD, hk]
  have e' : at' l (k - 1) = l[k - 1] := by simp [at', List.getD, show k - 1 < l.length from by omega]
  rw [e, e']
  exact List.pairwise_iff_getElem.1 h (k - 1) k (by omega) hk (by omega)
theorem one_len (b : Bool) (x : Int) : (one b x).length = if b = true then 1 else 0 := by cases b <;> rfl
theorem merge_count (a b : List Int) : (merge either a b).length + (merge both a b).length = a.length + b.length := by
  induction a, b using merge.induct with
  | case1 => simp [merge]
  | case2 x a ih => rw [merge, merge]; simp only [List.length_append, one_len, List.length_cons, List.length_nil, either, both, Bool.or_false, Bool.and_false] at *; simp only [if_true] at *; simp at *; omega
  | case3 y b ih => rw [merge, merge]; simp only [List.length_append, one_len, List.length_cons, List.length_nil, either, both, Bool.or_true, Bool.false_and] at *; simp only [if_true] at *; simp at *; omega
  | case4 x a y b hlt ih => rw [merge, merge, if_pos hlt, if_pos hlt]; simp only [List.length_append, one_len, List.length_cons, either, both, Bool.or_false, Bool.and_false] at *; simp at *; omega
  | case5 x a y b h1 hlt ih => rw [merge, merge, if_neg h1, if_neg h1, if_pos hlt, if_pos hlt]; simp only [List.length_append, one_len, List.length_cons, either, both, Bool.or_true, Bool.false_and] at *; simp at *; omega
  | case6 x a y b h1 h2 ih => rw [merge, merge, if_neg h1, if_neg h1, if_neg h2, if_neg h2]; simp only [List.length_append, one_len, List.length_cons, either, both, Bool.or_true, Bool.and_true] at *; simp at *; omega
theorem res_count {a b : List Int} (h1 : ok a = true) (h2 : ok b = true) : (res either a b).length + (res both a b).length = a.length + b.length := by
  rw [res_ok h1 h2, res_ok h1 h2]; exact merge_count a b
theorem less_whole {a b : List Int} (h1 : ok a = true) (h2 : ok b = true) : res either (res first a b) (res both a b) = a := by
  refine up_ext (up_res (ok_first h1 h2) (ok_both h1 h2)) (ok_up h1) fun z => ?_
  rw [mem_res (ok_first h1 h2) (ok_both h1 h2)]
  have e1 : z ∈ res first a b ↔ z ∈ a ∧ z ∉ b := by rw [mem_res h1 h2]; unfold Has first; by_cases ha : z ∈ a <;> by_cases hb : z ∈ b <;> simp [ha, hb]
  have e2 : z ∈ res both a b ↔ z ∈ a ∧ z ∈ b := by rw [mem_res h1 h2]; unfold Has both; by_cases ha : z ∈ a <;> by_cases hb : z ∈ b <;> simp [ha, hb]
  unfold Has either
  simp only [e1, e2, Bool.or_eq_true, decide_eq_true_eq]
  by_cases ha : z ∈ a <;> by_cases hb : z ∈ b <;> simp [ha, hb]
theorem less_none {a b : List Int} (h1 : ok a = true) (h2 : ok b = true) : res both (res first a b) b = [] := by
  refine List.eq_nil_iff_forall_not_mem.2 fun z hz => ?_
  have h := ((mem_res (ok_first h1 h2) h2 z).1 hz).2
  unfold both at h
  rw [Bool.and_eq_true, decide_eq_true_eq, decide_eq_true_eq, mem_res h1 h2] at h
  have := h.1.2
  unfold first at this
  simp [h.2] at this
theorem less_self {a : List Int} (h : ok a = true) : res first a a = [] := by
  refine List.eq_nil_iff_forall_not_mem.2 fun z hz => ?_
  have h := ((mem_res h h z).1 hz).2
  unfold first at h
  cases hd : decide (z ∈ a) <;> rw [hd] at h <;> simp at h
end Go.Proofs.Ytbkolpiekcifpaa.ListMath
