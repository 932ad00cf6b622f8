/- The same numbers are the same. -/
import Derived.Test.YtfccibbgjjajjaaIntsLaw
namespace Go.Proofs.Ytfccibbgjjajjaa.Ints
open Go.RowKit ListMath Rw
set_option linter.unusedVariables false
attribute [local go_sem ↓] Go.wp_at_zero Go.wp_at_succ
set_option maxRecDepth 100000 in
set_option maxHeartbeats 1000000 in
theorem al_same {v u : Value} {zs : List Int} {w : World} (h : Is w v zs) (h' : Is w u zs) : Calls Try.prog 35 #[v, u] w fun e w' => e = .returned (.bool true) ∧ Below w.heap.size w w' := by
  obtain ⟨-, a, cap, rfl, hc, hm, -, hr⟩ := h
  obtain ⟨-, a', cap', rfl, hc', hm', -, hr'⟩ := h'
  unfold maxLen at hm hm'
  obtain ⟨n, hn⟩ : ∃ n, n = zs.length := ⟨_, rfl⟩
  rw [← hn] at hc hr hc' hr' ⊢
  have HN := hide hn
  clear hn
  go_enter Try.func35, Try.ntmps35
  go_wp2
  go_loopw [5] (fun i wr => ∃ (k : Nat), k ≤ n ∧ i = .int .i64 k ∧ Below w.heap.size w wr) (fun i _ => n - (intOf i).toNat)
  case atStart => exact ⟨0, Nat.zero_le _, rfl, Below.refl _ _⟩
  case round =>
    obtain ⟨k, hk, rfl, hbel⟩ := hrel
    have hsz := hbel.size
    by_cases hlt : k < n
    · obtain ⟨b, off, rfl, hl, hcells⟩ := hr (by omega)
      obtain ⟨b', off', rfl, hl', hcells'⟩ := hr' (by omega)
      obtain ⟨X, hX⟩ : ∃ X, X = at' zs k := ⟨_, rfl⟩
      have hq0 : ∀ x : Cls wr.heap.size wr, x.val.cell? ⟨b, off + k, none⟩ = some (.int .i64 X) := fun x => by rw [x.cell (by omega), hX]; exact (hbel.cell (p := ⟨b, _, none⟩) hl).trans (hcells k _ (flat_get zs k (by have := unhide HN; omega)))
      have hp0 : ∀ x : Cls wr.heap.size wr, x.val.cell? ⟨b', off' + k, none⟩ = some (.int .i64 X) := fun x => by rw [x.cell (by omega), hX]; exact (hbel.cell (p := ⟨b', _, none⟩) hl').trans (hcells' k _ (flat_get zs k (by have := unhide HN; omega)))
      have hk0 : (0 : Int) ≤ (k : Int) := Int.natCast_nonneg _
      have hk1 : (k : Int) < (n : Int) := by omega
      clear hX
      have hne := cls_nonempty wr.heap.size wr
      go_wp2_with fail
      refine region_cls (by kernel_rfl) (by kernel_rfl) ?_
      repeat (go_big_quiet_step (fail))
      refine wpQuiet_nil ?_
      rintro _ ⟨⟨wq, hq⟩, rfl⟩
      go_wp2
      go_roundw
      case rel => exact ⟨k + 1, by omega, by go_num, hbel.trans (hq.mono hsz)⟩
      case measure => simp [intOf]; omega
    · go_wp2
      go_ret
      exact ⟨rfl, hbel⟩
end Go.Proofs.Ytfccibbgjjajjaa.Ints
