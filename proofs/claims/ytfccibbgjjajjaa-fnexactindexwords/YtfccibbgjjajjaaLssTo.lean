/- Copies of slices of slices of labels. -/
import Derived.Test.YtfccibbgjjajjaaLssLaw
namespace Go.Proofs.Ytfccibbgjjajjaa.Lss
open Go.RowKit Rw
set_option linter.unusedVariables false
attribute [local go_sem ↓] Go.wp_at_zero Go.wp_at_succ
set_option maxRecDepth 100000 in
set_option maxHeartbeats 4000000 in
theorem to_any {w : World} {v : Value} {zs : List E} (h : Is w v zs) (hlen : zs.length ≤ 2097152) (ht : ∀ x ∈ zs, tiny x) :
    Calls Try.prog 11 #[v] w fun e w' => e = .returned (.slice (some ⟨w.heap.size, 0, none⟩) zs.length zs.length) ∧ Own w.heap.size w'.heap.size w' (.slice (some ⟨w.heap.size, 0, none⟩) zs.length zs.length) zs ∧ Below w.heap.size w w' := by
  obtain ⟨i0, hi, hz0, hz1, hz2⟩ := info_parts info_e
  obtain ⟨cs, hcs, hL, hE⟩ := h
  have HE := hide hE
  have HTt := hide ht
  obtain ⟨-, a, cap, rfl, hc, hm, -, hr⟩ := hL
  unfold maxLen at hm
  obtain ⟨n, hn⟩ : ∃ n, n = zs.length := ⟨_, rfl⟩
  rw [← hn] at hc hr hlen hcs ⊢
  have HN := hide hn
  have HC := hide hcs
  clear hn hE ht hcs
  go_enter Try.func11, Try.ntmps11
  go_wp2_with (at_make; refine wpList_make_full _ rfl _ _ _ rfl w.heap.size 56 i0 (.slice none 0 0) 1 Try.underlying26 hi hz0 hz1 .i64 .i64 _ _ n rfl rfl rfl rfl (by rw [hz2]; omega) (by unfold maxLen; omega) (Nat.le_refl _) ?_; intro w1 hown1 hgrow1)
  go_loopw [4] (fun i wr => ∃ (j : Nat) (r : List Value) (ds : List C), j ≤ n ∧ i = .int .i64 j ∧ r.length = n - j ∧ ds.length = j ∧ wr.ownsRow w.heap.size 56 1 (.slice (some ⟨w.heap.size, 0, none⟩) n n) n (flatOf cl ds ++ r) ∧ Hid (∀ i, i < j → wr.ownsRow (w.heap.size + 1) 70 2 (cat ds i) (at' zs i).length (Lab.flat (at' zs i))) ∧ Hid (Apart ds) ∧ Below w.heap.size w wr) (fun i _ => n - (intOf i).toNat)
  case atStart =>
    refine ⟨0, _, [], Nat.zero_le _, rfl, ?_, rfl, hown1, hide (fun i h => by omega), hide Apart.nil, below_grown (Below.refl _ _) (Nat.le_refl _) hgrow1 (by simp)⟩
    have := hown1.1
    simpa using this
  case round =>
    obtain ⟨j, r, ds, hj, rfl, hrl, hdl, hown, HD, HA, hbel⟩ := hrel
    have hsz := own_lt hown
    by_cases hlt : j < n
    · obtain ⟨u0, L, rfl, hB⟩ := split_e r (n - j - 1) (by rw [hrl]; omega)
      obtain ⟨b, off, rfl, hl, hcells⟩ := hr (by omega)
      have fa := flat_at cs j (by have := unhide HC; omega)
      have hc0 : wr.cell? ⟨b, off + j, none⟩ = some (cat cs j) := (hbel.cell (p := ⟨b, _, none⟩) hl).trans (hcells j _ fa)
      have fln : (flatOf cl ds).length = j := by rw [flatOf_length clk, hdl, Nat.mul_one]
      have hd0 : wr.cell? ⟨w.heap.size, j, none⟩ = some u0 := by rw [hown.cellAt j (by omega)]; simp [fln]
      have hf0 := hown.frozenAt j
      have hk0 : (0 : Int) ≤ (j : Int) := Int.natCast_nonneg _
      have hk1 : (j : Int) < (n : Int) := by omega
      have HO := hide (Lab.to_any ((unhide HE j (by have := unhide HN; omega)).below hbel) (unhide HTt _ (at_mem zs j (by have := unhide HN; omega))))
      obtain ⟨c0, hX⟩ : ∃ c0, c0 = cat cs j := ⟨_, rfl⟩
      rw [← hX] at hc0 HO
      clear hX fa
      have HF := hide fln
      clear fln
      obtain ⟨m, hm'⟩ : ∃ m, m = (at' zs j).length := ⟨_, rfl⟩
      rw [← hm'] at HO
      have HM := hide hm'
      clear hm'
      go_wp2_with fail
      refine (unhide HO).mono ?_
      rintro e w2 ⟨rfl, on2, hb2⟩
      obtain ⟨bc, bf⟩ := bcell hb2
      have o0 := ((own_below hown hb2).stored j (.slice (some ⟨wr.heap.size, 0, none⟩) m m)).1
      rw [set_e _ _ _ _ _ (unhide HF)] at o0
      have e2 : flatOf cl (ds ++ [(.slice (some ⟨wr.heap.size, 0, none⟩) m m)]) = flatOf cl ds ++ [(.slice (some ⟨wr.heap.size, 0, none⟩) m m)] := by rw [flatOf_append, flatOf_one]; rfl
      rw [← e2] at o0
      have R := hide ((hbel.trans (hb2.mono (by omega))).setCell (p := ⟨w.heap.size, j, none⟩) (Nat.le_refl _) (.slice (some ⟨wr.heap.size, 0, none⟩) m m))
      have O := hide o0
      have oa := hide ((OnlyAt.refl w.heap.size w2).setCell j (.slice (some ⟨wr.heap.size, 0, none⟩) m m))
      have HD' := hide (show ∀ i, i < j + 1 → World.ownsRow (w2.setCell ⟨w.heap.size, j, none⟩ (.slice (some ⟨wr.heap.size, 0, none⟩) m m)) (w.heap.size + 1) 70 2 (cat (ds ++ [(.slice (some ⟨wr.heap.size, 0, none⟩) m m)]) i) (at' zs i).length (Lab.flat (at' zs i)) from fun i hi => by
        by_cases hij : i < j
        · have h := unhide HD i hij
          rw [cat_lt _ _ _ (by omega)]
          exact (unhide oa).own (own_below h hb2) (fun k hk => by have := own_ge h k hk; omega)
        · obtain rfl : i = j := by omega
          rw [show i = ds.length from hdl.symm, cat_last, hdl, ← unhide HM]
          exact (unhide oa).own (own_mono on2 (by omega)) (fun k hk => by have := own_ge on2 k hk; omega))
      have HA' := hide ((unhide HA).snoc (c := (.slice (some ⟨wr.heap.size, 0, none⟩) m m)) (fun i hi k hk hk' => by
        have h := own_block_lt (unhide HD i (by omega)) k hk
        cases hk'
        exact absurd h (Nat.lt_irrefl _)))
      clear o0 e2 hown bc bf HD HA oa on2
      have hd0' : w2.cell? ⟨w.heap.size, j, none⟩ = some u0 := (hb2.cell (p := ⟨w.heap.size, j, none⟩) hsz).trans hd0
      have hf0' : w2.frozen? ⟨w.heap.size, j, none⟩ = false := (hb2.frozen (p := ⟨w.heap.size, j, none⟩) hsz).trans hf0
      clear hd0 hf0
      go_wp2_with fail
      go_roundw
      case rel => exact ⟨j + 1, L, ds ++ [(.slice (some ⟨wr.heap.size, 0, none⟩) m m)], by omega, by go_num, by omega, by simp [hdl], unhide O, HD', HA', unhide R⟩
      case measure => simp [intOf]; omega
    · obtain rfl : j = n := by omega
      obtain rfl : r = [] := List.eq_nil_of_length_eq_zero (by rw [hrl]; omega)
      rw [List.append_nil] at hown
      have hI := hide (show Own w.heap.size wr.heap.size wr (.slice (some ⟨w.heap.size, 0, none⟩) j j) zs from ⟨ds, by have := unhide HN; omega, by rw [← unhide HN]; exact hown, own_block_lt hown, Nat.le_refl _, unhide HA, fun i hi => by
        have h := unhide HD i (by have := unhide HN; omega)
        exact ⟨own_mono h (by omega), fun k hk => ⟨by have := own_ge h k hk; omega, own_block_lt h k hk⟩⟩⟩)
      clear hown HD
      go_wp2
      go_ret
      exact ⟨rfl, unhide hI, hbel⟩
end Go.Proofs.Ytfccibbgjjajjaa.Lss
