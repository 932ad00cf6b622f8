/- By how much samples rose, in two parts. No condition. -/
import Derived.Test.YtogdllkbiibicaaWinMath
import Derived.Test.YtogdllkbiibicaaCutMath
namespace Go.Proofs.Ytogdllkbiibicaa.SampMath
theorem ok_sub {zs ys : List S} (h : ok zs = true) (hs : ys.Sublist zs) : ok ys = true := by
  rw [Samp.ok_iff] at h ⊢
  exact ⟨fun z hz => h.1 z (hs.subset hz), h.2.sublist hs⟩
theorem at_take {zs : List S} {k i : Nat} (h : i < k) : at' (zs.take k) i = at' zs i := by
  simp [at', List.getD, h]
theorem at_drop (zs : List S) (k i : Nat) : at' (zs.drop k) i = at' zs (k + i) := by
  simp [at', List.getD, List.getElem?_drop]
theorem up_take {zs : List S} {k i : Nat} (h : i < k) : up (zs.take k) i = up zs i := by
  unfold up; rw [at_take h, at_take (by omega)]
theorem upTo_take {zs : List S} {k : Nat} : ∀ j, j ≤ k → upTo (zs.take k) j = upTo zs j := by
  intro j
  induction j with
  | zero => intro _; rfl
  | succ j ih =>
    intro h
    by_cases h0 : j = 0
    · subst h0; rfl
    · rw [upTo_succ _ _ (by omega), upTo_succ _ _ (by omega), ih (by omega), up_take (by omega)]
theorem up_drop (zs : List S) (m i : Nat) (h : 0 < i) : up (zs.drop m) i = up zs (m + i) := by
  unfold up; rw [at_drop, at_drop, show m + (i - 1) = m + i - 1 by omega]
theorem upTo_drop (zs : List S) (m : Nat) : ∀ j, upTo (zs.drop m) (j + 1) = upTo zs (m + j + 1) - upTo zs (m + 1) := by
  intro j
  induction j with
  | zero => rw [upTo_one]; simp
  | succ j ih => rw [upTo_succ _ _ (by omega), ih, up_drop _ _ _ (by omega), show m + (j + 1) + 1 = (m + j + 1) + 1 by omega, upTo_succ zs (m + j + 1) (by omega), show m + (j + 1) = m + j + 1 by omega]; omega
theorem rises_ok {zs : List S} (h : ok zs = true) : rises zs = upTo zs zs.length := by unfold rises; rw [h]; rfl
theorem rises_parts {zs : List S} (h : ok zs = true) {k : Nat} (h1 : 1 ≤ k) (h2 : k < zs.length) : rises zs = rises (zs.take k) + rises (zs.drop (k - 1)) := by
  rw [rises_ok h, rises_ok (ok_sub h (List.take_sublist _ _)), rises_ok (ok_sub h (List.drop_sublist _ _))]
  rw [List.length_take, List.length_drop, Nat.min_eq_left (by omega), upTo_take k (Nat.le_refl _)]
  obtain ⟨j, hj⟩ : ∃ j, zs.length - (k - 1) = j + 1 := ⟨zs.length - (k - 1) - 1, by omega⟩
  rw [hj, upTo_drop, show k - 1 + j + 1 = zs.length by omega, show k - 1 + 1 = k by omega]
  omega
theorem rises_range {zs : List S} (h : ok zs = true) : 0 ≤ rises zs ∧ rises zs ≤ 21474836470000 := by
  rw [rises_ok h]
  have := upTo_range h zs.length (Nat.le_refl _)
  have := ok_len h
  omega
theorem upTo_ends {zs : List S} (h : ok zs = true) : ∀ j, j < zs.length → (at' zs j).2 - (at' zs 0).2 ≤ upTo zs (j + 1) := by
  intro j
  induction j with
  | zero => intro _; rw [upTo_one]; omega
  | succ j ih =>
    intro hj
    have a := ih (by omega)
    have b := ok_range h hj
    have c := ok_range h (k := j) (by omega)
    rw [upTo_succ zs (j + 1) (by omega)]
    unfold up
    rw [Nat.add_sub_cancel]
    split <;> omega
theorem rises_ends {zs : List S} (h : ok zs = true) (h0 : 0 < zs.length) : (at' zs (zs.length - 1)).2 - (at' zs 0).2 ≤ rises zs := by
  rw [rises_ok h]
  have := upTo_ends h (zs.length - 1) (by omega)
  rwa [show zs.length - 1 + 1 = zs.length by omega] at this
end Go.Proofs.Ytogdllkbiibicaa.SampMath
