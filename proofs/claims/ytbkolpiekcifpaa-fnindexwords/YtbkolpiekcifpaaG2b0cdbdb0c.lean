/- My own texts of one claim, laid together by program: MatLaw, LabMath. -/
import Derived.Test.YtbkolpiekcifpaaG95a324441e
import Derived.ChangeArms
import Derived.Test.YtbkolpiekcifpaaG5f2156d931
import Derived.Shelf.GgClosure.StringsIndexFunc
import Derived.Laws.RangeAny
import Derived.Laws.RangeString
/- What the laws' own helpers do with slices of impl.Match: they are copied, held against each other, and counted. -/
namespace Go.Proofs.Ytbkolpiekcifpaa.Mat
open Go.RowKit Rw
set_option linter.unusedVariables false
attribute [local go_sem ↓] Go.wp_at_zero Go.wp_at_succ
abbrev E := Int × ByteArray × ByteArray
def fl (x : E) : List Value := [.int .i64 (x.1), .string (x.2.1), .string (x.2.2)]
theorem flk (x : E) : (fl x).length = 3 := rfl
def at' (zs : List E) (i : Nat) : E := zs.getD i default
abbrev flat (zs : List E) : List Value := flatOf fl zs
abbrev Is (w : World) (v : Value) (zs : List E) : Prop := Lies w v zs.length 3 (flat zs)
theorem flat_length (zs : List E) : (flat zs).length = zs.length * 3 := flatOf_length flk zs
theorem flat_oneCell (zs : List E) : ∀ u ∈ flat zs, u.oneCell' = true := by
  intro u hu
  obtain ⟨x, _, hx⟩ := List.mem_flatMap.1 hu
  simp only [fl, List.mem_cons, List.not_mem_nil, or_false] at hx
  rcases hx with rfl | rfl | rfl <;> rfl
theorem at_get (zs : List E) (i : Nat) (h : i < zs.length) : at' zs i = zs[i] := by simp [at', List.getD, h]
theorem at_snoc (zs : List E) (i : Nat) (h : i < zs.length) : zs.take (i + 1) = zs.take i ++ [at' zs i] := by rw [List.take_succ_eq_append_getElem h, at_get zs i h]
theorem flat_at (zs : List E) (i : Nat) (h : i < zs.length) : (flat zs)[i * 3]? = some (.int .i64 ((at' zs i).1)) ∧ (flat zs)[i * 3 + 1]? = some (.string ((at' zs i).2.1)) ∧ (flat zs)[i * 3 + 2]? = some (.string ((at' zs i).2.2)) := by
  rw [at_get zs i h]
  exact ⟨flatOf_get flk zs i 0 h (by omega), flatOf_get flk zs i 1 h (by omega), flatOf_get flk zs i 2 h (by omega)⟩
theorem is_of_own {w : World} {base : Nat} {v : Value} {zs : List E} (h : w.ownsRow base 42 3 v zs.length (flat zs)) : Is w v zs := lies_of_own h
theorem info_e : (Try.prog.info? 42).map (fun i => (i.zero, i.size, i.bytes)) = some (some (.agg #[.int .i64 0, .string ByteArray.empty, .string ByteArray.empty]), 3, 40) := by kernel_rfl
def good (x : E) : Prop := (Lit.int .i64 (x.1)).wf = true ∧ (x.2.1).size ≤ maxLen ∧ (x.2.2).size ≤ maxLen
theorem set_e (A : List Value) (u0 u1 u2 x0 x1 x2 : Value) (L : List Value) (k : Nat) (h : A.length = k) : ((((A ++ u0 :: u1 :: u2 :: L).set k x0).set (k + 1) x1).set (k + 2) x2) = A ++ [x0, x1, x2] ++ L := by
  subst h
  simp [List.set_append_right]
theorem split_e (r : List Value) (n : Nat) (h : r.length = (n + 1) * 3) : ∃ u0 u1 u2 L, r = u0 :: u1 :: u2 :: L ∧ L.length = n * 3 := by
  match r, h with
  | u0 :: u1 :: u2 :: L, h => exact ⟨u0, u1, u2, L, rfl, by simp only [List.length_cons] at h; omega⟩
  | [], h => simp at h <;> omega
  | [_], h => simp at h <;> omega
  | [_, _], h => simp at h <;> omega
def tot (zs : List E) : Nat := zs.foldl (fun a x => a + ((x.2.1).size + (x.2.2).size)) zs.length
def totTo (zs : List E) (j : Nat) : Nat := (zs.take j).foldl (fun a x => a + ((x.2.1).size + (x.2.2).size)) zs.length
theorem totTo_succ (zs : List E) (j : Nat) (h : j < zs.length) : totTo zs (j + 1) = totTo zs j + (((at' zs j).2.1).size + ((at' zs j).2.2).size) := by
  unfold totTo
  rw [at_snoc zs j h, List.foldl_append]
  rfl
theorem totTo_mono (zs : List E) : ∀ (i j : Nat), i ≤ j → j ≤ zs.length → totTo zs i ≤ totTo zs j
  | i, 0, h, _ => by obtain rfl : i = 0 := by omega
                     exact Nat.le_refl _
  | i, j + 1, h, hj => by
    by_cases e : i = j + 1
    · subst e; exact Nat.le_refl _
    · have h1 := totTo_mono zs i j (by omega) (by omega)
      rw [totTo_succ zs j (by omega)]
      omega
theorem totTo_all (zs : List E) : totTo zs zs.length = tot zs := by unfold totTo tot; rw [List.take_of_length_le (Nat.le_refl _)]
theorem tot_len (zs : List E) : zs.length ≤ tot zs := by have := totTo_mono zs 0 zs.length (Nat.zero_le _) (Nat.le_refl _); rw [totTo_all] at this; unfold totTo at this; simpa using this
theorem tot_at (zs : List E) (j : Nat) (h : j < zs.length) : ((at' zs j).2.1).size + ((at' zs j).2.2).size ≤ tot zs := by
  have h1 := totTo_succ zs j h
  have h2 := totTo_mono zs (j + 1) zs.length (by omega) (Nat.le_refl _)
  rw [totTo_all] at h2
  omega
end Go.Proofs.Ytbkolpiekcifpaa.Mat

/- Letters, names, words and labels, as plain mathematics. No condition. -/
namespace Go.Proofs.Ytbkolpiekcifpaa.Lab
open Go.RowKit Rw
def letter (b : UInt8) : Bool := decide (97 ≤ b.toNat) && decide (b.toNat ≤ 122)
def letters (s : ByteArray) : Bool := s.data.toList.all letter
def notL (r : Nat) : Bool := decide (r < 97) || decide (122 < r)
theorem notL_of {b : UInt8} : notL b.toNat = !letter b := by
  unfold notL letter
  by_cases h1 : 97 ≤ b.toNat <;> by_cases h2 : b.toNat ≤ 122
  · have a1 : ¬ b.toNat < 97 := by omega
    have a2 : ¬ 122 < b.toNat := by omega
    simp [h1, h2, a1, a2]
  · have a1 : ¬ b.toNat < 97 := by omega
    have a2 : 122 < b.toNat := by omega
    simp [h2, a2]
  · have a1 : b.toNat < 97 := by omega
    simp [h1, a1]
  · omega
theorem idx_from (s : ByteArray) : ∀ (f pos : Nat), s.size ≤ pos + f → decide (Lib.idxFuncFrom notL true s f pos < 0) = (s.data.toList.drop pos).all letter
  | 0, pos, h => by
    have hl : s.data.toList.length = s.size := Array.length_toList
    have e : s.data.toList.drop pos = [] := List.drop_eq_nil_of_le (by omega)
    rw [e]
    rfl
  | f + 1, pos, h => by
    have hl : s.data.toList.length = s.size := Array.length_toList
    unfold Lib.idxFuncFrom
    by_cases hp : pos < s.size
    · rw [if_pos hp, List.drop_eq_getElem_cons (by omega), List.all_cons]
      have eb : s.data.toList[pos]'(by omega) = s[pos]'hp := rfl
      rw [eb]
      by_cases ha : (s[pos]'hp).toNat < 128
      · rw [decode_ascii s pos hp ha]
        have hn := notL_of (b := s[pos]'hp)
        rw [hn]
        cases hc : letter (s[pos]'hp)
        · have : ¬ (pos : Int) < 0 := by omega
          simp [this]
        · simp only [Bool.not_true, Bool.false_eq_true, if_false, Bool.true_and]
          exact idx_from s f (pos + 1) (by omega)
      · have hd := decode_high s pos hp (by omega)
        have hn : notL (Utf8.decode s pos).1 = true := by
          have : 122 < (Utf8.decode s pos).1 := by omega
          simp [notL, this]
        rw [if_pos hn]
        have hc : letter (s[pos]'hp) = false := by
          have : ¬ (s[pos]'hp).toNat ≤ 122 := by omega
          simp [letter, this]
        have : ¬ (pos : Int) < 0 := by omega
        simp [this, hc]
    · rw [if_neg hp, List.drop_eq_nil_of_le (by omega)]
      rfl
theorem idx_letters (s : ByteArray) : decide (Lib.idxFunc notL true s < 0) = letters s := by
  have := idx_from s s.size 0 (by omega)
  rw [List.drop_zero] at this
  exact this
def nameB (s : ByteArray) : Bool := decide (1 ≤ s.size) && decide (s.size ≤ 6) && letters s
def wordB (s : ByteArray) : Bool := decide (s.size ≤ 8) && letters s
def ltS (a b : ByteArray) : Bool := Op.bytesLess a.toList b.toList
def stepOk (zs : List E) (i : Nat) : Bool := nameB (at' zs i).1 && wordB (at' zs i).2 && decide (0 < (at' zs i).2.size) && (i == 0 || ltS (at' zs (i - 1)).1 (at' zs i).1)
def okTo (zs : List E) (k : Nat) : Bool := (List.range k).all (stepOk zs)
def ok (zs : List E) : Bool := decide (1 ≤ zs.length) && decide (zs.length ≤ 4) && okTo zs zs.length
theorem okTo_succ (zs : List E) (k : Nat) : okTo zs (k + 1) = (okTo zs k && stepOk zs k) := by simp [okTo, List.range_succ]
theorem ok_of_bad {zs : List E} {k : Nat} (hk : k < zs.length) (h : stepOk zs k = false) : ok zs = false := by
  have : okTo zs zs.length = false := by unfold okTo; rw [List.all_eq_false]; exact ⟨k, List.mem_range.2 hk, by simp [h]⟩
  unfold ok; rw [this, Bool.and_false]
theorem ok_of_len {zs : List E} (h : zs.length < 1 ∨ 4 < zs.length) : ok zs = false := by
  unfold ok
  rcases h with h | h
  · have : decide (1 ≤ zs.length) = false := decide_eq_false (by omega)
    rw [this]; rfl
  · have : decide (zs.length ≤ 4) = false := decide_eq_false (by omega)
    rw [this, Bool.and_false]; rfl
theorem ok_all {zs : List E} (h1 : 1 ≤ zs.length) (h4 : zs.length ≤ 4) (h : okTo zs zs.length = true) : ok zs = true := by
  unfold ok; rw [decide_eq_true h1, decide_eq_true h4, h]; rfl
theorem step_yes {zs : List E} {k : Nat} (h1 : nameB (at' zs k).1 = true) (h2 : wordB (at' zs k).2 = true) (h3 : 0 < (at' zs k).2.size) (h4 : k = 0 ∨ ltS (at' zs (k - 1)).1 (at' zs k).1 = true) : stepOk zs k = true := by
  unfold stepOk
  rw [h1, h2, decide_eq_true h3]
  rcases h4 with rfl | h4
  · rfl
  · rw [h4, Bool.or_true]; rfl
theorem step_name {zs : List E} {k : Nat} (h : nameB (at' zs k).1 = false) : stepOk zs k = false := by unfold stepOk; rw [h]; rfl
theorem step_word {zs : List E} {k : Nat} (h : wordB (at' zs k).2 = false) : stepOk zs k = false := by unfold stepOk; rw [h, Bool.and_false]; rfl
theorem step_empty {zs : List E} {k : Nat} (h : (at' zs k).2.size = 0) : stepOk zs k = false := by unfold stepOk; rw [h, show decide (0 < 0) = false from rfl, Bool.and_false]; rfl
theorem step_late {zs : List E} {k : Nat} (hk : 0 < k) (h : ltS (at' zs (k - 1)).1 (at' zs k).1 = false) : stepOk zs k = false := by
  have h0 : (k == 0) = false := by simp; omega
  unfold stepOk; rw [h, h0, Bool.false_or, Bool.and_false]
end Go.Proofs.Ytbkolpiekcifpaa.Lab
