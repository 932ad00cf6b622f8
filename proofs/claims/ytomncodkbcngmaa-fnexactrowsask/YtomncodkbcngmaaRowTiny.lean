/- What is counted is small enough to be copied. No condition. -/
import Derived.Test.YtomncodkbcngmaaRowSz
import Derived.Test.YtomncodkbcngmaaRowTo
import Derived.Test.YtomncodkbcngmaaRowEq
namespace Go.Proofs.Ytomncodkbcngmaa.Row
open Go.RowKit Rw
theorem tiny_of {zs : List E} (h : tot zs ≤ 1048576) : zs.length ≤ 2097152 ∧ ∀ x ∈ zs, tiny x := by
  refine ⟨by have := tot_len zs; omega, fun x hx => ?_⟩
  obtain ⟨i, hi, rfl⟩ := List.getElem_of_mem hx
  have h1 := tot_at zs i hi
  rw [at_get zs i hi] at h1
  have h2 := Lab.tot_len (zs[i]).1
  unfold szOf Sam.tot at h1
  exact ⟨by omega, by omega⟩
end Go.Proofs.Ytomncodkbcngmaa.Row
