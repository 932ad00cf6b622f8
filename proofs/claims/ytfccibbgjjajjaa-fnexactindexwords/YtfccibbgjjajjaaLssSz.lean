/- How much slices of slices of labels hold, counted. -/
import Derived.Test.YtfccibbgjjajjaaLssLaw
namespace Go.Proofs.Ytfccibbgjjajjaa.Lss
open Go.RowKit Rw
set_option linter.unusedVariables false
attribute [local go_sem ↓] Go.wp_at_zero Go.wp_at_succ
def tot (zs : List E) : Nat := zs.foldl (fun a x => a + Lab.tot x) zs.length
def totTo (zs : List E) (j : Nat) : Nat := (zs.take j).foldl (fun a x => a + Lab.tot x) zs.length
theorem totTo_succ (zs : List E) (j : Nat) (h : j < zs.length) : totTo zs (j + 1) = totTo zs j + Lab.tot (at' zs j) := by
  unfold totTo
  rw [at_snoc zs j h, List.foldl_append]
  rfl
theorem totTo_mono (zs : List E) : ∀ (i j : Nat), i ≤ j → j ≤ zs.length → totTo zs i ≤ totTo zs j
  | i, 0, h, _ => by obtain rfl : i = 0 := by omega
                     exact Nat.le_refl _
  | i, j + 1, h, hj => by
    by_cases e : i = j + 1
    · subst e; exact Nat.le_refl _
    · have h1 := totTo_mono zs i j (by omega) (by omega)
      rw [totTo_succ zs j (by omega)]
      omega
theorem totTo_all (zs : List E) : totTo zs zs.length = tot zs := by unfold totTo tot; rw [List.take_of_length_le (Nat.le_refl _)]
theorem tot_len (zs : List E) : zs.length ≤ tot zs := by have := totTo_mono zs 0 zs.length (Nat.zero_le _) (Nat.le_refl _); rw [totTo_all] at this; unfold totTo at this; simpa using this
theorem tot_at (zs : List E) (j : Nat) (h : j < zs.length) : Lab.tot (at' zs j) ≤ tot zs := by
  have h1 := totTo_succ zs j h
  have h2 := totTo_mono zs (j + 1) zs.length (by omega) (Nat.le_refl _)
  rw [totTo_all] at h2
  omega
set_option maxRecDepth 100000 in
set_option maxHeartbeats 2000000 in
theorem sz_any {w : World} {v : Value} {zs : List E} (left : Int) (h : Is w v zs) (hlm : zs.length ≤ maxLen) (hg : ∀ x ∈ zs, good x) (h0 : 0 ≤ left) (h1 : left ≤ 1048576) :
    Calls Try.prog 9 #[v, .int .i64 left] w fun e w' => e = .returned (.int .i64 (if left - (tot zs : Int) < 0 then -1 else left - (tot zs : Int))) ∧ Below w.heap.size w w' := by
  obtain ⟨cs, hcs, hL, hE⟩ := h
  have HE := hide hE
  obtain ⟨-, a, cap, rfl, hc, hm, -, hr⟩ := hL
  have HT := hide (tot_len zs)
  unfold maxLen at hm hlm
  obtain ⟨n, hn⟩ : ∃ n, n = zs.length := ⟨_, rfl⟩
  rw [← hn] at hc hr hlm hcs ⊢
  have HN := hide hn
  have HC := hide hcs
  have HG := hide hg
  have T0 := hide (show totTo zs 0 = n by rw [hn]; rfl)
  clear hn hg hE hcs
  by_cases hn0 : left - (n : Int) < 0
  · rw [if_pos (by have := unhide HT; have := unhide HN; omega)]
    go_enter Try.func9, Try.ntmps9
    go_wp2
    go_ret
    exact ⟨rfl, Below.refl _ _⟩
  obtain ⟨R, hR⟩ : ∃ R : Int, R = if left - (tot zs : Int) < 0 then -1 else left - (tot zs : Int) := ⟨_, rfl⟩
  rw [← hR]
  have HR := hide hR
  clear hR
  go_enter Try.func9, Try.ntmps9
  go_wp2
  go_loopw [1, 5] (fun lv i wr => ∃ (j : Nat), j ≤ n ∧ i = .int .i64 j ∧ lv = .int .i64 (left - (totTo zs j : Int)) ∧ 0 ≤ left - (totTo zs j : Int) ∧ Below w.heap.size w wr) (fun _ i _ => n - (intOf i).toNat)
  case atStart => exact ⟨0, Nat.zero_le _, rfl, by rw [unhide T0], by rw [unhide T0]; omega, Below.refl _ _⟩
  case round =>
    obtain ⟨j, hj, rfl, rfl, hleft, hbel⟩ := hrel
    have hsz := hbel.size
    by_cases hlt : j < n
    · obtain ⟨b, off, rfl, hl, hcells⟩ := hr (by omega)
      have fa := flat_at cs j (by have := unhide HC; omega)
      have HTS := hide (totTo_succ zs j (by have := unhide HN; omega))
      have HLe := hide (show totTo zs (j + 1) ≤ tot zs by rw [← totTo_all]; exact totTo_mono zs _ _ (by have := unhide HN; omega) (Nat.le_refl _))
      have HO := hide (Lab.sz_any (left - (totTo zs j : Int)) ((unhide HE j (by have := unhide HN; omega)).below hbel) (unhide HG _ (at_mem zs j (by have := unhide HN; omega))).1 (unhide HG _ (at_mem zs j (by have := unhide HN; omega))).2 hleft (by omega))
      obtain ⟨c0, hX⟩ : ∃ c0, c0 = cat cs j := ⟨_, rfl⟩
      rw [← hX] at fa HO
      have hc0 : wr.cell? ⟨b, off + j, none⟩ = some c0 := (hbel.cell (p := ⟨b, _, none⟩) hl).trans (hcells j _ fa)
      have hk0 : (0 : Int) ≤ (j : Int) := Int.natCast_nonneg _
      have hk1 : (j : Int) < (n : Int) := by omega
      clear hX fa
      obtain ⟨M, hM⟩ : ∃ M, M = Lab.tot (at' zs j) := ⟨_, rfl⟩
      rw [← hM] at HO HTS
      clear hM
      generalize totTo zs j = Q at *
      go_wp2_with fail
      refine (unhide HO).mono ?_
      rintro e w2 ⟨rfl, b2⟩
      by_cases hneg : left - (Q : Int) - (M : Int) < 0
      · rw [if_pos hneg]
        have HRn := hide (show R = -1 by rw [unhide HR, if_pos]; have := unhide HLe; have := unhide HTS; omega)
        go_wp2
        go_ret
        exact ⟨ret_int (unhide HRn).symm, hbel.trans (b2.mono hsz)⟩
      · rw [if_neg hneg]
        have hle0 : 0 ≤ left - (Q : Int) - (M : Int) := by omega
        go_wp2
        go_roundw
        case rel => exact ⟨j + 1, by omega, by go_num, by rw [unhide HTS]; go_num, by rw [unhide HTS]; omega, hbel.trans (b2.mono hsz)⟩
        case measure => simp [intOf]; omega
    · obtain rfl : j = n := by omega
      have HRp := hide (show R = left - (totTo zs j : Int) by rw [unhide HR]; have e := totTo_all zs; rw [← unhide HN] at e; rw [← e, if_neg (by omega)])
      go_wp2
      go_ret
      exact ⟨ret_int (unhide HRp).symm, hbel⟩
theorem tiny_of {zs : List E} (h : tot zs ≤ 1048576) : zs.length ≤ 2097152 ∧ ∀ x ∈ zs, tiny x := by
  refine ⟨by have := tot_len zs; omega, fun x hx => ?_⟩
  obtain ⟨i, hi, rfl⟩ := List.getElem_of_mem hx
  have h1 := tot_at zs i hi
  rw [at_get zs i hi] at h1
  have h2 := Lab.tot_len zs[i]
  exact (show (zs[i]).length ≤ 4194304 by omega)
end Go.Proofs.Ytfccibbgjjajjaa.Lss
