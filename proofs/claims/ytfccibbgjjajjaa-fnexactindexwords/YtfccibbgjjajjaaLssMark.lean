/- What the laws' own helpers do to mark slices of slices of labels. -/
import Derived.Test.YtfccibbgjjajjaaLssTo
import Derived.Test.YtfccibbgjjajjaaLssEq
import Derived.Test.YtfccibbgjjajjaaLssSz
import Derived.Test.YtfccibbgjjajjaaLabMark
namespace Go.Proofs.Ytfccibbgjjajjaa.Lss
open Go.RowKit Rw
set_option linter.unusedVariables false
attribute [local go_sem ↓] Go.wp_at_zero Go.wp_at_succ
theorem len_tot (zs : List Lab.E) : zs.length ≤ Lab.tot zs := Lab.tot_len zs
set_option maxRecDepth 100000 in
set_option maxHeartbeats 2000000 in
theorem mark_some {lo hi g n cap : Nat} {zs : List E} {w : World} (k0 : Nat) (hk1 : 1 ≤ k0) (hk2 : k0 ≤ 100000000) (hn : zs.length = n) (ht : tot zs ≤ 1048576) (h : Own lo hi w (.slice (some ⟨g, 0, none⟩) n cap) zs) :
    Calls Try.prog 15 #[.slice (some ⟨g, 0, none⟩) n cap, .int .i64 k0] w fun e w' => ∃ k : Nat, e = .returned (.int .i64 k) ∧ 1 ≤ k ∧ k ≤ k0 + 2 * tot zs ∧ Zone lo hi w w' := by
  obtain ⟨cs, h1, h2, h3, h4, h6, h5⟩ := h
  rw [hn] at h1 h2 h5
  have HN := hide hn
  have HI := hide (fun i (hi' : i < n) => (h5 i hi').2)
  have HR := hide (show ∀ i, i < n → ∃ xs : E, xs.length = (at' zs i).length ∧ w.ownsRow lo 70 2 (cat cs i) xs.length (Lab.flat xs) from fun i hi' => ⟨_, rfl, (h5 i hi').1⟩)
  have HA := hide h6
  have HC := hide h1
  have HTT := hide ht
  have HL := hide (show n ≤ tot zs by rw [← hn]; exact tot_len zs)
  have hnb : n ≤ 1048576 := by have := unhide HL; omega
  clear h5 h6 h1 hn ht
  go_enter Try.func15, Try.ntmps15
  go_wp2
  go_loopw [1, 5] (fun kv i wr => ∃ (j q : Nat), j ≤ n ∧ i = .int .i64 j ∧ kv = .int .i64 q ∧ Hid (1 ≤ q ∧ q ≤ k0 + 2 * totTo zs j) ∧ wr.ownsRow lo 56 1 (.slice (some ⟨g, 0, none⟩) n cap) n (flatOf cl cs) ∧ Hid (∀ i, i < n → ∃ xs : E, xs.length = (at' zs i).length ∧ wr.ownsRow lo 70 2 (cat cs i) xs.length (Lab.flat xs)) ∧ Zone lo hi w wr) (fun _ i _ => n - (intOf i).toNat)
  case atStart => exact ⟨0, k0, Nat.zero_le _, rfl, rfl, hide ⟨hk1, by omega⟩, h2, HR, Zone.refl _ _ _⟩
  case round =>
    clear HR h2 h3
    obtain ⟨j, q, hj, rfl, rfl, HQ, ho, HR, hzn⟩ := hrel
    by_cases hlt : j < n
    · have fa := flat_at cs j (by have := unhide HC; omega)
      have hc0 : wr.cell? ⟨g, j, none⟩ = some (cat cs j) := by rw [ho.cellAt j (by omega)]; exact fa
      have h0 : (0 : Int) ≤ (j : Int) := Int.natCast_nonneg _
      have h1 : (j : Int) < (n : Int) := by omega
      have hq := unhide HQ
      have hle : totTo zs (j + 1) ≤ tot zs := by rw [← totTo_all]; exact totTo_mono zs _ _ (by have := unhide HN; omega) (Nat.le_refl _)
      have hts := totTo_succ zs j (by have := unhide HN; omega)
      obtain ⟨xs, hxl, hxo⟩ := unhide HR j hlt
      have hll := Lab.tot_len (at' zs j)
      have HM := hide (Lab.mark_any q hq.1 (by have := unhide HTT; omega) (by have := unhide HTT; omega) hxo (in_self (cat cs j)))
      have HR' := hide (fun (w' : World) (ys : E) (hl : ys.length = xs.length) (hw : Zone (loOf (cat cs j)) (hiOf (cat cs j)) wr w') (hy : w'.ownsRow lo 70 2 (cat cs j) ys.length (Lab.flat ys)) => (show ∀ i, i < n → ∃ xs : E, xs.length = (at' zs i).length ∧ w'.ownsRow lo 70 2 (cat cs i) xs.length (Lab.flat xs) from fun i hi' => by
        by_cases hij : i = j
        · subst hij
          exact ⟨ys, hl.trans hxl, hy⟩
        · obtain ⟨x2, g1, g2⟩ := unhide HR i hi'
          exact ⟨x2, g1, hw.own g2 (out_of_ne ((unhide HA).ne (fun e => hij e.symm) (by have := unhide HC; omega) (by have := unhide HC; omega)))⟩))
      have HO' := hide (fun (w' : World) (hw : Zone (loOf (cat cs j)) (hiOf (cat cs j)) wr w') => hw.own ho (out_of_ne (own_ne_type hxo ho (by decide))))
      have HZ := hide (fun (w' : World) (hw : Zone (loOf (cat cs j)) (hiOf (cat cs j)) wr w') => hzn.trans (zone_in hw (unhide HI j hlt)))
      have HB := hide (show q + 2 * xs.length ≤ k0 + 2 * totTo zs (j + 1) by omega)
      clear fa hle hts hll hxo ho HR hzn hxl
      obtain ⟨c0, hX⟩ : ∃ c0, c0 = cat cs j := ⟨_, rfl⟩
      rw [← hX] at hc0 HM HR' HO' HZ
      clear hX
      go_wp2_with fail
      refine (unhide HM).mono ?_
      rintro e w2 ⟨rfl, o2, z2⟩
      have R1 := hide (unhide HR' w2 (Lab.marks q xs.length) (Lab.marks_length _ _) z2 (by rw [Lab.marks_length]; exact o2))
      have R2 := hide (unhide HO' w2 z2)
      have R3 := hide (unhide HZ w2 z2)
      clear HR' HO' HZ HM o2 z2
      obtain ⟨q2, hq2⟩ : ∃ q2, q2 = q + 2 * xs.length := ⟨_, rfl⟩
      rw [← hq2]
      have HQ2 := hide (show 1 ≤ q2 ∧ q2 ≤ k0 + 2 * totTo zs (j + 1) from ⟨by omega, by rw [hq2]; exact unhide HB⟩)
      clear hq2 HB hq HQ
      go_wp2_with fail
      go_roundw
      case rel => exact ⟨j + 1, q2, by omega, by go_num, rfl, HQ2, unhide R2, R1, unhide R3⟩
      case measure => simp [intOf]; omega
    · obtain rfl : j = n := by omega
      have hq := unhide HQ
      have e := totTo_all zs
      rw [unhide HN] at e
      rw [e] at hq
      have HQ' := hide hq
      clear hq e HQ ho HR
      go_wp2
      go_ret
      exact ⟨q, rfl, (unhide HQ').1, (unhide HQ').2, hzn⟩
theorem mark_nil (k0 : Int) (w : World) : Calls Try.prog 15 #[.slice none 0 0, .int .i64 k0] w fun e w' => e = .returned (.int .i64 k0) ∧ w' = w := by
  go_enter Try.func15, Try.ntmps15
  go_wp2
  refine wp_loop_rounds 1 ?_
  rw [rounds_succ]
  go_wp2
  go_ret
  exact ⟨rfl, rfl⟩
theorem mark_any {lo hi : Nat} {v : Value} {zs : List E} {w : World} (k0 : Nat) (hk1 : 1 ≤ k0) (hk2 : k0 ≤ 100000000) (ht : tot zs ≤ 1048576) (h : Own lo hi w v zs) :
    Calls Try.prog 15 #[v, .int .i64 k0] w fun e w' => ∃ k : Nat, e = .returned (.int .i64 k) ∧ 1 ≤ k ∧ k ≤ k0 + 2 * tot zs ∧ Zone lo hi w w' := by
  have hf := h
  obtain ⟨cs, -, h2, -⟩ := h
  rcases h2.2 with ⟨h1, -⟩ | ⟨g, cap, cur, h1, -⟩
  · subst h1
    refine (mark_nil k0 w).mono ?_
    rintro e w' ⟨rfl, rfl⟩
    exact ⟨k0, rfl, hk1, by omega, Zone.refl _ _ _⟩
  · subst h1
    exact mark_some k0 hk1 hk2 rfl ht hf
end Go.Proofs.Ytfccibbgjjajjaa.Lss
