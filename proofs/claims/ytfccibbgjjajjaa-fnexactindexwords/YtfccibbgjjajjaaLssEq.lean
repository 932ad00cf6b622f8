/- Whether slices of slices of labels are the same. -/
import Derived.Test.YtfccibbgjjajjaaLssLaw
namespace Go.Proofs.Ytfccibbgjjajjaa.Lss
open Go.RowKit Rw
set_option linter.unusedVariables false
attribute [local go_sem ↓] Go.wp_at_zero Go.wp_at_succ
set_option maxRecDepth 100000 in
set_option maxHeartbeats 2000000 in
theorem eq_any {v u : Value} {zs : List E} {w : World} (h : Is w v zs) (h' : Is w u zs) : Calls Try.prog 14 #[v, u] w fun e w' => e = .returned (.bool true) ∧ Below w.heap.size w w' := by
  obtain ⟨cs, hcs, hL, hE⟩ := h
  obtain ⟨ds, hds, hL', hE'⟩ := h'
  have HE := hide hE
  have HE' := hide hE'
  obtain ⟨-, a, cap, rfl, hc, hm, -, hr⟩ := hL
  obtain ⟨-, a', cap', rfl, hc', hm', -, hr'⟩ := hL'
  unfold maxLen at hm hm'
  obtain ⟨n, hn⟩ : ∃ n, n = zs.length := ⟨_, rfl⟩
  rw [← hn] at hc hr hc' hr' hcs hds ⊢
  have HN := hide hn
  have HC := hide hcs
  have HD := hide hds
  clear hn hE hE' hcs hds
  go_enter Try.func14, Try.ntmps14
  go_wp2
  go_loopw [5] (fun i wr => ∃ (j : Nat), j ≤ n ∧ i = .int .i64 j ∧ Below w.heap.size w wr) (fun i _ => n - (intOf i).toNat)
  case atStart => exact ⟨0, Nat.zero_le _, rfl, Below.refl _ _⟩
  case round =>
    obtain ⟨j, hj, rfl, hbel⟩ := hrel
    have hsz := hbel.size
    by_cases hlt : j < n
    · obtain ⟨b, off, rfl, hl, hcells⟩ := hr (by omega)
      obtain ⟨b', off', rfl, hl', hcells'⟩ := hr' (by omega)
      have fa := flat_at cs j (by have := unhide HC; omega)
      have fb := flat_at ds j (by have := unhide HD; omega)
      have HO := hide (fun x : Cls wr.heap.size wr => Lab.eq_any (((unhide HE j (by have := unhide HN; omega)).below hbel).below x.isBelow) (((unhide HE' j (by have := unhide HN; omega)).below hbel).below x.isBelow))
      obtain ⟨c0, hX⟩ : ∃ c0, c0 = cat cs j := ⟨_, rfl⟩
      obtain ⟨d0, hY⟩ : ∃ d0, d0 = cat ds j := ⟨_, rfl⟩
      rw [← hX] at fa HO
      rw [← hY] at fb HO
      have hq0 : ∀ x : Cls wr.heap.size wr, x.val.cell? ⟨b, off + j, none⟩ = some c0 := fun x => by rw [x.cell (by omega)]; exact (hbel.cell (p := ⟨b, _, none⟩) hl).trans (hcells j _ fa)
      have hp0 : ∀ x : Cls wr.heap.size wr, x.val.cell? ⟨b', off' + j, none⟩ = some d0 := fun x => by rw [x.cell (by omega)]; exact (hbel.cell (p := ⟨b', _, none⟩) hl').trans (hcells' j _ fb)
      have hk0 : (0 : Int) ≤ (j : Int) := Int.natCast_nonneg _
      have hk1 : (j : Int) < (n : Int) := by omega
      clear hX hY fa fb
      have hne := cls_nonempty wr.heap.size wr
      go_wp2_with fail
      refine region_cls (by kernel_rfl) (by kernel_rfl) ?_
      repeat (go_big_quiet_step ((go_at_call 52; exact cls_call (Nat.le_refl _) (unhide HO _))))
      refine wpQuiet_nil ?_
      rintro wq ⟨⟨_, hq⟩, rfl⟩
      go_wp2
      go_roundw
      case rel => exact ⟨j + 1, by omega, by go_num, hbel.trans (hq.mono hsz)⟩
      case measure => simp [intOf]; omega
    · go_wp2
      go_ret
      exact ⟨rfl, hbel⟩
end Go.Proofs.Ytfccibbgjjajjaa.Lss
