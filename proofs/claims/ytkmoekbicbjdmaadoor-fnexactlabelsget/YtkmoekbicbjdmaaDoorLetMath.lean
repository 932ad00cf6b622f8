/- What a match lets, as plain mathematics. No condition. -/
import Derived.Test.YtkmoekbicbjdmaaDoorMatOk
import Derived.Lib.Strings
namespace Go.Proofs.YtkmoekbicbjdmaaDoor.Mat
open Go.RowKit Rw
def sameS (a b : ByteArray) : Bool := a.toList == b.toList
theorem sameS_iff {a b : ByteArray} : sameS a b = true ↔ a = b := by
  unfold sameS
  rw [beq_iff_eq, ByteArray.toList_eq, ByteArray.toList_eq]
  exact ⟨Go.WideShapes.bytes_inj, fun h => by rw [h]⟩
theorem sameS_self (a : ByteArray) : sameS a a = true := sameS_iff.2 rfl
theorem sameS_no {a b : ByteArray} : sameS a b = false ↔ a ≠ b := by
  cases h : sameS a b
  · simp only [true_iff]; intro e; rw [sameS_iff.2 e] at h; cases h
  · simp only [Bool.true_eq_false, false_iff, Decidable.not_not]; exact sameS_iff.1 h
def wordOf (ls : List Lab.E) (nm : ByteArray) : ByteArray := ((ls.find? fun x => sameS x.1 nm).map (·.2)).getD ByteArray.empty
theorem find_none (ls : List Lab.E) (nm : ByteArray) (k : Nat) (hk : k < ls.length) (h : (ls.take k).find? (fun x => sameS x.1 nm) = none) (hx : sameS (Lab.at' ls k).1 nm = false) : (ls.take (k + 1)).find? (fun x => sameS x.1 nm) = none := by
  rw [Lab.at_snoc ls k hk, List.find?_append, h]
  simp [hx]
theorem word_hit (ls : List Lab.E) (nm : ByteArray) (k : Nat) (hk : k < ls.length) (h : (ls.take k).find? (fun x => sameS x.1 nm) = none) (hx : sameS (Lab.at' ls k).1 nm = true) : wordOf ls nm = (Lab.at' ls k).2 := by
  unfold wordOf
  have e : ls = ls.take k ++ (Lab.at' ls k :: ls.drop (k + 1)) := by
    rw [Lab.at_get ls k hk, ← List.drop_eq_getElem_cons hk, List.take_append_drop]
  rw [e, List.find?_append, h, List.find?_cons]
  have e2 : Lab.at' (ls.take k ++ (Lab.at' ls k :: ls.drop (k + 1))) k = Lab.at' ls k := by rw [← e]
  simp [hx, e2]
theorem word_miss (ls : List Lab.E) (nm : ByteArray) (h : ls.find? (fun x => sameS x.1 nm) = none) : wordOf ls nm = ByteArray.empty := by unfold wordOf; rw [h]; rfl
theorem wordOf_size {ls : List Lab.E} (hg : ∀ x ∈ ls, Lab.good x) (nm : ByteArray) : (wordOf ls nm).size ≤ maxLen := by
  unfold wordOf
  cases h : ls.find? fun x => sameS x.1 nm with
  | none => simp
  | some x => exact (hg x (List.mem_of_find?_eq_some h)).2
def prefB (w p : ByteArray) : Bool := Lib.hasPrefix w.data.toList p.data.toList
def letB (m : E) (ls : List Lab.E) : Bool :=
  if m.1 = 1 then sameS (wordOf ls m.2.1) m.2.2 else if m.1 = 2 then !sameS (wordOf ls m.2.1) m.2.2 else if m.1 = 3 then prefB (wordOf ls m.2.1) m.2.2 else !prefB (wordOf ls m.2.1) m.2.2
def letsTo (zs : List E) (ls : List Lab.E) (k : Nat) : Bool := (zs.take k).all fun m => letB m ls
def lets (zs : List E) (ls : List Lab.E) : Bool := zs.all fun m => letB m ls
theorem letsTo_succ (zs : List E) (ls : List Lab.E) (k : Nat) (h : k < zs.length) : letsTo zs ls (k + 1) = (letsTo zs ls k && letB (at' zs k) ls) := by
  unfold letsTo; rw [at_snoc zs k h, List.all_append]; simp
theorem lets_no (zs : List E) (ls : List Lab.E) (k : Nat) (h : k < zs.length) (hb : letB (at' zs k) ls = false) : lets zs ls = false := by
  unfold lets; rw [List.all_eq_false]
  exact ⟨at' zs k, by rw [at_get zs k h]; exact List.getElem_mem _, by simp [hb]⟩
theorem lets_all (zs : List E) (ls : List Lab.E) (h : letsTo zs ls zs.length = true) : lets zs ls = true := by
  unfold letsTo at h; rwa [List.take_of_length_le (Nat.le_refl _)] at h
/-- what MatchesLet answers -/
def mlet (zs : List E) (ls : List Lab.E) : Bool := ok zs && Lab.ok ls && lets zs ls
theorem ok_kind {zs : List E} (h : ok zs = true) {k : Nat} (hk : k < zs.length) : 1 ≤ (at' zs k).1 ∧ (at' zs k).1 ≤ 4 := by
  unfold ok at h; rw [Bool.and_eq_true] at h
  have := h.1; unfold okTo at this
  have := List.all_eq_true.1 this k (List.mem_range.2 hk)
  unfold stepOk at this
  simp only [Bool.and_eq_true, decide_eq_true_eq] at this
  exact ⟨this.1.1.1, this.1.1.2⟩
/-- the model's own way to ask for a beginning -/
theorem prefB_eq (w p : ByteArray) : prefB w p = (decide (p.size ≤ w.size) && sameS (w.extract 0 p.size) p) := by
  have hw : w.data.toList.length = w.size := Array.length_toList
  have hp : p.data.toList.length = p.size := Array.length_toList
  unfold prefB Lib.hasPrefix
  rw [Bool.eq_iff_iff, Bool.and_eq_true, decide_eq_true_eq, sameS_iff]
  have ex : (w.extract 0 p.size).data.toList = w.data.toList.take p.size := by simp [ByteArray.data_extract]
  constructor
  · intro h
    have h := List.isPrefixOf_iff_prefix.1 h
    obtain ⟨t, ht⟩ := h
    have hl := congrArg List.length ht
    rw [List.length_append] at hl
    refine ⟨by omega, Go.WideShapes.bytes_inj ?_⟩
    rw [ex, ← ht, ← hp, List.take_left]
  · rintro ⟨h1, h2⟩
    refine List.isPrefixOf_iff_prefix.2 ⟨w.data.toList.drop p.size, ?_⟩
    have := congrArg (fun x : ByteArray => x.data.toList) h2
    simp only [ex] at this
    rw [← this, List.take_append_drop]
end Go.Proofs.YtkmoekbicbjdmaaDoor.Mat
