/- Slices of ints; ListOk, of the program and of the model, at every slice of ints. -/
import Derived.Test.YtfccibbgjjajjaaRw
import Derived.Test.YtfccibbgjjajjaaListMath
namespace Go.Proofs.Ytfccibbgjjajjaa.Ints
open Go.RowKit ListMath Rw
set_option linter.unusedVariables false
attribute [local go_sem ↓] Go.wp_at_zero Go.wp_at_succ
def flat (zs : List Int) : List Value := zs.map fun x => .int .i64 x
theorem flat_nil : flat [] = [] := rfl
theorem flat_append (a b : List Int) : flat (a ++ b) = flat a ++ flat b := by simp [flat]
theorem flat_length (zs : List Int) : (flat zs).length = zs.length := by simp [flat]
theorem flat_get (zs : List Int) (i : Nat) (h : i < zs.length) : (flat zs)[i]? = some (.int .i64 (at' zs i)) := by simp [flat, at', List.getD, h]
theorem flat_oneCell (zs : List Int) : ∀ u ∈ flat zs, u.oneCell' = true := by
  intro u hu
  obtain ⟨x, _, rfl⟩ := List.mem_map.1 hu
  rfl
abbrev Is (w : World) (v : Value) (zs : List Int) : Prop := Lies w v zs.length 1 (flat zs)
set_option maxHeartbeats 1000000 in
theorem impl_ok {w : World} {v : Value} {zs : List Int} (h : Is w v zs) : Calls Try.prog 34 #[v] w fun e w' => e = .returned (.bool (ok zs)) ∧ w' = w := by
  obtain ⟨-, a, cap, rfl, hc, hm, -, hr⟩ := h
  unfold maxLen at hm
  obtain ⟨n, hn⟩ : ∃ n, n = zs.length := ⟨_, rfl⟩
  rw [← hn] at hc hr ⊢
  have HN := hide hn
  clear hn
  go_enter Try.func34, Try.ntmps34
  go_wp2
  go_loop [7] (fun i => ∃ k : Nat, k ≤ n ∧ i = .int .i64 k ∧ okTo zs k = true) (fun i => n - (intOf i).toNat)
  case atStart => exact ⟨0, Nat.zero_le _, rfl, rfl⟩
  case round =>
    obtain ⟨k, hk, rfl, hok⟩ := hrel
    have HO := hide hok
    clear hok
    by_cases hlt : k < n
    · obtain ⟨b, off, rfl, hl, hcells⟩ := hr (by omega)
      have hk0 : (0 : Int) ≤ (k : Int) := Int.natCast_nonneg _
      have hk1 : (k : Int) < (n : Int) := by omega
      have hc0 := hcells k _ (flat_get zs k (by have := unhide HN; omega))
      obtain ⟨X, hX⟩ : ∃ X, X = at' zs k := ⟨_, rfl⟩
      rw [← hX] at hc0
      have HX := hide hX
      clear hX
      by_cases hneg : X < 0
      · have HF := hide (ok_of_bad (zs := zs) (k := k) (by have := unhide HN; omega) (step_neg (by rw [← unhide HX]; exact hneg)))
        go_wp2
        go_ret
        exact ⟨ret_bool (unhide HF).symm, rfl⟩
      · by_cases hk00 : k = 0
        · have HS := hide (show okTo zs (k + 1) = true by rw [okTo_succ, unhide HO, hk00, step_first (by have := unhide HX; rw [hk00] at this; omega)]; rfl)
          have hd : decide (0 < k) = false := by simp; omega
          have hd2 : decide ((0 : Int) < (k : Int)) = false := by simp; omega
          clear hk00
          go_wp2
          go_round
          case rel => exact ⟨k + 1, by omega, by go_num, unhide HS⟩
          case measure => simp [intOf]; omega
        · have hkp : 0 < k := by omega
          have hp0 := hcells (k - 1) _ (flat_get zs (k - 1) (by have := unhide HN; omega))
          obtain ⟨P, hP⟩ : ∃ P, P = at' zs (k - 1) := ⟨_, rfl⟩
          rw [← hP] at hp0
          have HP := hide hP
          clear hP
          by_cases hlate : X ≤ P
          · have HF := hide (ok_of_bad (zs := zs) (k := k) (by have := unhide HN; omega) (step_late (by omega) (by rw [← unhide HX, ← unhide HP]; exact hlate)))
            go_wp2
            go_ret
            exact ⟨ret_bool (unhide HF).symm, rfl⟩
          · have HS := hide (show okTo zs (k + 1) = true by rw [okTo_succ, unhide HO, step_next (by rw [← unhide HX]; omega) (by rw [← unhide HX, ← unhide HP]; omega)]; rfl)
            go_wp2
            go_round
            case rel => exact ⟨k + 1, by omega, by go_num, unhide HS⟩
            case measure => simp [intOf]; omega
    · go_wp2
      go_ret
      refine ⟨ret_bool ?_, rfl⟩
      unfold ok
      rw [← unhide HN, show n = k from by omega, unhide HO, Bool.true_and]
      exact decide_eq_decide.2 (by omega)
end Go.Proofs.Ytfccibbgjjajjaa.Ints
