/- What the laws of lists ask, as plain mathematics. No condition. -/
import Derived.Test.YtfccibbgjjajjaaListMath
namespace Go.Proofs.Ytfccibbgjjajjaa.ListMath
theorem merge_comm (k : Bool → Bool → Bool) (hk : ∀ p q, k p q = k q p) {a b : List Int} (ha : Up a) (hb : Up b) : merge k b a = merge k a b := by
  refine up_ext (up_merge k b a hb ha) (up_merge k a b ha hb) fun z => ?_
  rw [mem_merge k a b ha hb, mem_merge k b a hb ha]
  unfold Has
  rw [hk, or_comm]
theorem res_comm (k : Bool → Bool → Bool) (hk : ∀ p q, k p q = k q p) (a b : List Int) : res k b a = res k a b := by
  by_cases h : ok a = true ∧ ok b = true
  · rw [res_ok h.1 h.2, res_ok h.2 h.1, merge_comm k hk (ok_up h.1) (ok_up h.2)]
  · unfold res
    rw [if_neg h, if_neg (fun e => h ⟨e.2, e.1⟩)]
theorem both_comm (p q : Bool) : both p q = both q p := by cases p <;> cases q <;> rfl
theorem either_comm (p q : Bool) : either p q = either q p := by cases p <;> cases q <;> rfl
theorem res_self (k : Bool → Bool → Bool) (hk : k true true = true) {a : List Int} (h : ok a = true) : res k a a = a := by
  rw [res_ok h h]
  refine up_ext (up_merge k a a (ok_up h) (ok_up h)) (ok_up h) fun z => ?_
  rw [mem_merge k a a (ok_up h) (ok_up h)]
  unfold Has
  constructor
  · rintro ⟨h1, _⟩; simpa using h1
  · intro hz
    have hd : decide (z ∈ a) = true := decide_eq_true hz
    rw [hd]
    exact ⟨.inl hz, hk⟩
theorem mem_res {k : Bool → Bool → Bool} {a b : List Int} (h1 : ok a = true) (h2 : ok b = true) (z : Int) : z ∈ res k a b ↔ Has k a b z := by
  rw [res_ok h1 h2]; exact mem_merge k a b (ok_up h1) (ok_up h2) z
theorem up_res {k : Bool → Bool → Bool} {a b : List Int} (h1 : ok a = true) (h2 : ok b = true) : Up (res k a b) := by
  rw [res_ok h1 h2]; exact up_merge k a b (ok_up h1) (ok_up h2)
theorem both_le {a b : List Int} (h1 : ok a = true) (h2 : ok b = true) : (res both a b).length ≤ a.length := by
  rw [res_ok h1 h2, merge_both (ok_up h1) (ok_up h2)]; exact List.length_filter_le _ _
theorem first_le {a b : List Int} (h1 : ok a = true) (h2 : ok b = true) : (res first a b).length ≤ a.length := by
  rw [res_ok h1 h2, merge_first (ok_up h1) (ok_up h2)]; exact List.length_filter_le _ _
theorem ok_res {k : Bool → Bool → Bool} {a b : List Int} (h1 : ok a = true) (h2 : ok b = true) (hl : (res k a b).length ≤ a.length) : ok (res k a b) = true := by
  refine ok_mk (up_res h1 h2) (fun x hx => ?_) (by have := ok_len h1; omega)
  rcases ((mem_res h1 h2 x).1 hx).1 with h | h
  · exact ok_nonneg h1 x h
  · exact ok_nonneg h2 x h
theorem ok_both {a b : List Int} (h1 : ok a = true) (h2 : ok b = true) : ok (res both a b) = true := ok_res h1 h2 (both_le h1 h2)
theorem ok_first {a b : List Int} (h1 : ok a = true) (h2 : ok b = true) : ok (res first a b) = true := ok_res h1 h2 (first_le h1 h2)
theorem both_le' {a b : List Int} (h1 : ok a = true) (h2 : ok b = true) : (res both a b).length ≤ b.length := by
  rw [← res_comm both both_comm]; exact both_le h2 h1
theorem has_both {a b : List Int} (h1 : ok a = true) (h2 : ok b = true) (z : Int) (hz : z ∈ a) : has (res both a b) z = has b z := by
  rw [has_iff, has_iff]
  refine decide_eq_decide.2 ?_
  rw [mem_res h1 h2]
  unfold Has both
  simp [hz]
theorem at_mem (a : List Int) (k : Nat) (h : k < a.length) : at' a k ∈ a := by
  have e : at' a k = a[k] := by simp [at', List.getD, h]
  rw [e]; exact List.getElem_mem h
theorem has_either {a b : List Int} (h1 : ok a = true) (h2 : ok b = true) (k : Nat) (hk : k < (res either a b).length) : has a (at' (res either a b) k) = true ∨ has b (at' (res either a b) k) = true := by
  have := ((mem_res h1 h2 _).1 (at_mem _ k hk)).1
  rw [has_iff, has_iff, decide_eq_true_eq, decide_eq_true_eq]
  exact this
theorem up_at {l : List Int} (h : Up l) (k : Nat) (h0 : 0 < k) (hk : k < l.length) : at' l (k - 1) < at' l k := by
  have e : at' l k = l[k] := by simp [at', List.getD, hk]
  have e' : at' l (k - 1) = l[k - 1] := by simp [at', List.getD, show k - 1 < l.length from by omega]
  rw [e, e']
  exact List.pairwise_iff_getElem.1 h (k - 1) k (by omega) hk (by omega)
theorem one_len (b : Bool) (x : Int) : (one b x).length = if b = true then 1 else 0 := by cases b <;> rfl
theorem merge_count (a b : List Int) : (merge either a b).length + (merge both a b).length = a.length + b.length := by
  induction a, b using merge.induct with
  | case1 => simp [merge]
  | case2 x a ih => rw [merge, merge]; simp only [List.length_append, one_len, List.length_cons, List.length_nil, either, both, Bool.or_false, Bool.and_false] at *; simp only [if_true] at *; simp at *; omega
  | case3 y b ih => rw [merge, merge]; simp only [List.length_append, one_len, List.length_cons, List.length_nil, either, both, Bool.or_true, Bool.false_and] at *; simp only [if_true] at *; simp at *; omega
  | case4 x a y b hlt ih => rw [merge, merge, if_pos hlt, if_pos hlt]; simp only [List.length_append, one_len, List.length_cons, either, both, Bool.or_false, Bool.and_false] at *; simp at *; omega
  | case5 x a y b h1 hlt ih => rw [merge, merge, if_neg h1, if_neg h1, if_pos hlt, if_pos hlt]; simp only [List.length_append, one_len, List.length_cons, either, both, Bool.or_true, Bool.false_and] at *; simp at *; omega
  | case6 x a y b h1 h2 ih => rw [merge, merge, if_neg h1, if_neg h1, if_neg h2, if_neg h2]; simp only [List.length_append, one_len, List.length_cons, either, both, Bool.or_true, Bool.and_true] at *; simp at *; omega
theorem res_count {a b : List Int} (h1 : ok a = true) (h2 : ok b = true) : (res either a b).length + (res both a b).length = a.length + b.length := by
  rw [res_ok h1 h2, res_ok h1 h2]; exact merge_count a b
theorem less_whole {a b : List Int} (h1 : ok a = true) (h2 : ok b = true) : res either (res first a b) (res both a b) = a := by
  refine up_ext (up_res (ok_first h1 h2) (ok_both h1 h2)) (ok_up h1) fun z => ?_
  rw [mem_res (ok_first h1 h2) (ok_both h1 h2)]
  have e1 : z ∈ res first a b ↔ z ∈ a ∧ z ∉ b := by rw [mem_res h1 h2]; unfold Has first; by_cases ha : z ∈ a <;> by_cases hb : z ∈ b <;> simp [ha, hb]
  have e2 : z ∈ res both a b ↔ z ∈ a ∧ z ∈ b := by rw [mem_res h1 h2]; unfold Has both; by_cases ha : z ∈ a <;> by_cases hb : z ∈ b <;> simp [ha, hb]
  unfold Has either
  simp only [e1, e2, Bool.or_eq_true, decide_eq_true_eq]
  by_cases ha : z ∈ a <;> by_cases hb : z ∈ b <;> simp [ha, hb]
theorem less_none {a b : List Int} (h1 : ok a = true) (h2 : ok b = true) : res both (res first a b) b = [] := by
  refine List.eq_nil_iff_forall_not_mem.2 fun z hz => ?_
  have h := ((mem_res (ok_first h1 h2) h2 z).1 hz).2
  unfold both at h
  rw [Bool.and_eq_true, decide_eq_true_eq, decide_eq_true_eq, mem_res h1 h2] at h
  have := h.1.2
  unfold first at this
  simp [h.2] at this
theorem less_self {a : List Int} (h : ok a = true) : res first a a = [] := by
  refine List.eq_nil_iff_forall_not_mem.2 fun z hz => ?_
  have h := ((mem_res h h z).1 hz).2
  unfold first at h
  cases hd : decide (z ∈ a) <;> rw [hd] at h <;> simp at h
end Go.Proofs.Ytfccibbgjjajjaa.ListMath
