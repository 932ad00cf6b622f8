/- Records that are ok, as plain mathematics. No condition. -/
import Derived.Test.YtpfllejfbmgbpaaRecLaw
import Derived.Test.YtpfllejfbmgbpaaMatOk
import Derived.Test.YtpfllejfbmgbpaaSamp2
import Derived.Test.YtpfllejfbmgbpaaTabMath
namespace Go.Proofs.Ytpfllejfbmgbpaa.Ent
open Go.RowKit Rw
def entB (x : E) : Bool := Lab.ok x.1 && SampMath.inR x.2.1 x.2.2
def batchB (zs : List E) : Bool := zs.all entB && (decide (1 ≤ zs.length) && decide (zs.length ≤ 6))
theorem all_snoc {zs : List E} {j : Nat} (hj : j < zs.length) (h : (zs.take j).all entB = true) (h1 : Lab.ok (at' zs j).1 = true) (h2 : SampMath.inR (at' zs j).2.1 (at' zs j).2.2 = true) : (zs.take (j + 1)).all entB = true := by
  rw [at_snoc zs j hj, List.all_append, h]
  simp [entB, h1, h2]
theorem all_bad {zs : List E} {j : Nat} (hj : j < zs.length) (h : Lab.ok (at' zs j).1 = false ∨ SampMath.inR (at' zs j).2.1 (at' zs j).2.2 = false) : batchB zs = false := by
  unfold batchB
  rw [Bool.and_eq_false_iff]
  left
  rw [List.all_eq_false]
  refine ⟨at' zs j, at_mem zs j hj, ?_⟩
  unfold entB
  rcases h with h | h <;> simp [h]
theorem batch_yes {zs : List E} (h : zs.all entB = true) (h1 : 1 ≤ zs.length) (h2 : zs.length ≤ 6) : batchB zs = true := by unfold batchB; rw [h, decide_eq_true h1, decide_eq_true h2]; rfl
theorem batch_no {zs : List E} (h : zs.length < 1 ∨ 6 < zs.length) : batchB zs = false := by
  unfold batchB
  rcases h with h | h
  · rw [decide_eq_false (show ¬ 1 ≤ zs.length by omega)]; simp
  · rw [decide_eq_false (show ¬ zs.length ≤ 6 by omega)]; simp
theorem sam_one (t v : Int) : SampMath.ok [(t, v)] = SampMath.inR t v := by simp [SampMath.ok, SampMath.okTo, SampMath.stepOk, SampMath.at', List.range_succ]
end Go.Proofs.Ytpfllejfbmgbpaa.Ent
namespace Go.Proofs.Ytpfllejfbmgbpaa.Rec
open Go.RowKit Rw
def timesB (f t : Int) : Bool := Zig.inB f 0 9999 && Zig.inB t f 10000
theorem times_yes {f t : Int} (h1 : 0 ≤ f) (h2 : f ≤ 9999) (h3 : f ≤ t) (h4 : t ≤ 10000) : timesB f t = true := by unfold timesB; rw [Samp.inB_true h1 h2, Samp.inB_true h3 h4]; rfl
theorem times_no {f t : Int} (h : f < 0 ∨ 9999 < f ∨ t < f ∨ 10000 < t) : timesB f t = false := by
  unfold timesB
  rcases h with h | h | h | h
  · rw [Samp.inB_false (.inl h)]; rfl
  · rw [Samp.inB_false (.inr h)]; rfl
  · rw [Samp.inB_false (n := t) (.inl h)]; simp
  · rw [Samp.inB_false (n := t) (.inr h)]; simp
def recB (x : E) : Bool :=
  (decide (x.1 = 1) && (Ent.batchB x.2.1 && decide (x.2.2.1.length = 0) && decide (x.2.2.2.1 = 0) && decide (x.2.2.2.2 = 0))) ||
  (decide (x.1 = 2) && (decide (x.2.1.length = 0) && Mat.ok x.2.2.1 && timesB x.2.2.2.1 x.2.2.2.2)) ||
  (decide (x.1 = 3) && (decide (x.2.1.length = 0) && decide (x.2.2.1.length = 0) && Row.floorB x.2.2.2.1 && decide (x.2.2.2.2 = 0)))
theorem rec_none {x : E} (h1 : ¬ x.1 = 1) (h2 : ¬ x.1 = 2) (h3 : ¬ x.1 = 3) : recB x = false := by unfold recB; rw [decide_eq_false h1, decide_eq_false h2, decide_eq_false h3]; rfl
theorem rec_add {x : E} (h : x.1 = 1) : recB x = (Ent.batchB x.2.1 && decide (x.2.2.1.length = 0) && decide (x.2.2.2.1 = 0) && decide (x.2.2.2.2 = 0)) := by unfold recB; rw [h]; simp
theorem rec_drop {x : E} (h : x.1 = 2) : recB x = (decide (x.2.1.length = 0) && Mat.ok x.2.2.1 && timesB x.2.2.2.1 x.2.2.2.2) := by unfold recB; rw [h]; simp
theorem rec_keep {x : E} (h : x.1 = 3) : recB x = (decide (x.2.1.length = 0) && decide (x.2.2.1.length = 0) && Row.floorB x.2.2.2.1 && decide (x.2.2.2.2 = 0)) := by unfold recB; rw [h]; simp
end Go.Proofs.Ytpfllejfbmgbpaa.Rec
