/- My own texts of one claim, laid together by program: Let4, Ints. -/
import Derived.Test.YtbkolpiekcifpaaG167b60a169
import Derived.Test.YtbkolpiekcifpaaG95a324441e
import Derived.Test.YtbkolpiekcifpaaG04608fa4a9
/- MatchesLet of the model. -/
namespace Go.Proofs.Ytbkolpiekcifpaa.Mat
open Go.RowKit Rw
set_option linter.unusedVariables false
attribute [local go_sem ↓] Go.wp_at_zero Go.wp_at_succ
set_option maxRecDepth 100000 in
set_option maxHeartbeats 2000000 in
theorem l3Lets_any {w : World} {v u : Value} {zs : List E} {ls : List Lab.E} (h : Is w v zs) (h' : Lab.Is w u ls) (hg : ∀ x ∈ zs, good x) (hg' : ∀ x ∈ ls, Lab.good x) :
    Calls Try.prog 49 #[v, u] w fun e w' => e = .returned (.bool (lets zs ls)) ∧ Below w.heap.size w w' := by
  have HU := hide (fun K A B (hB : B.size ≤ maxLen) W (hb : Below w.heap.size w W) => l3Let_any K A B (h'.below hb) hg' hB)
  obtain ⟨au, cu, eu⟩ : ∃ a c, u = .slice a ls.length c := by obtain ⟨-, a, c, e, -⟩ := h'; exact ⟨a, c, e⟩
  subst eu
  clear h' hg'
  obtain ⟨-, a, cap, rfl, hc, hm, -, hr⟩ := h
  unfold maxLen at hm
  obtain ⟨n, hn⟩ : ∃ n, n = zs.length := ⟨_, rfl⟩
  rw [← hn] at hc hr ⊢
  have HN := hide hn
  have HG := hide hg
  clear hn hg
  obtain ⟨R, hR⟩ : ∃ R, R = lets zs ls := ⟨_, rfl⟩
  rw [← hR]
  have HML := hide hR
  clear hR
  go_enter Try.func49, Try.ntmps49
  go_wp2_with fail
  go_loopw [5] (fun i wr => ∃ k : Nat, k ≤ n ∧ i = .int .i64 k ∧ letsTo zs ls k = true ∧ Below w.heap.size w wr) (fun i _ => n - (intOf i).toNat)
  case atStart => exact ⟨0, Nat.zero_le _, rfl, rfl, Below.refl _ _⟩
  case round =>
    obtain ⟨k, hk, rfl, hok, hbel⟩ := hrel
    have HO := hide hok
    clear hok
    have hsz := hbel.size
    by_cases hlt : k < n
    · obtain ⟨b, off, rfl, hl, hcells⟩ := hr (by omega)
      have fa := flat_at zs k (by have := unhide HN; omega)
      have gd := unhide HG (at' zs k) (by rw [at_get zs k (by have := unhide HN; omega)]; exact List.getElem_mem _)
      obtain ⟨KK, A, B, hX⟩ : ∃ K A B, (K, A, B) = at' zs k := ⟨_, _, _, rfl⟩
      rw [← hX] at fa gd
      have hc0 : wr.cell? ⟨b, off + k * 3, none⟩ = some (.int .i64 KK) := (hbel.cell (p := ⟨b, _, none⟩) hl).trans (hcells (k * 3) _ fa.1)
      have hc1 : wr.cell? ⟨b, off + k * 3 + 1, none⟩ = some (.string A) := (hbel.cell (p := ⟨b, _, none⟩) hl).trans (hcells (k * 3 + 1) _ fa.2.1)
      have hc2 : wr.cell? ⟨b, off + k * 3 + 2, none⟩ = some (.string B) := (hbel.cell (p := ⟨b, _, none⟩) hl).trans (hcells (k * 3 + 2) _ fa.2.2)
      have HX := hide hX
      have HL := hide (unhide HU KK A B gd.2.2 wr hbel)
      clear hX fa gd
      have hk0 : (0 : Int) ≤ (k : Int) := Int.natCast_nonneg _
      have hk1 : (k : Int) < (n : Int) := by omega
      cases hq : letB (KK, A, B) ls
      · have HF := hide (show R = false by rw [unhide HML]; exact lets_no zs ls k (by have := unhide HN; omega) (by rw [← unhide HX]; exact hq))
        rw [hq] at HL
        clear hq
        go_wp2_with fail
        refine (unhide HL).mono ?_
        rintro e w2 ⟨rfl, b2⟩
        have c2 := hbel.trans (b2.mono hsz)
        go_wp2_with fail
        go_ret
        exact ⟨ret_bool (unhide HF).symm, c2⟩
      · have HS := hide (show letsTo zs ls (k + 1) = true by rw [letsTo_succ zs ls k (by have := unhide HN; omega), unhide HO, ← unhide HX, hq]; rfl)
        rw [hq] at HL
        clear hq
        go_wp2_with fail
        refine (unhide HL).mono ?_
        rintro e w2 ⟨rfl, b2⟩
        have c2 := hbel.trans (b2.mono hsz)
        go_wp2_with fail
        go_roundw
        case rel => exact ⟨k + 1, by omega, by go_num, unhide HS, c2⟩
        case measure => simp [intOf]; omega
    · have HF := hide (show R = true by rw [unhide HML]; exact lets_all zs ls (by rw [← unhide HN, show n = k from by omega]; exact unhide HO))
      have hkf : decide ((k : Int) < (n : Int)) = false := by simp; omega
      go_wp2_with fail
      go_ret
      exact ⟨ret_bool (unhide HF).symm, hbel⟩
end Go.Proofs.Ytbkolpiekcifpaa.Mat

/- Slices of ints; ListOk, of the program and of the model, at every slice of ints. -/
namespace Go.Proofs.Ytbkolpiekcifpaa.Ints
open Go.RowKit ListMath Rw
set_option linter.unusedVariables false
attribute [local go_sem ↓] Go.wp_at_zero Go.wp_at_succ
def flat (zs : List Int) : List Value := zs.map fun x => .int .i64 x
theorem flat_nil : flat [] = [] := rfl
theorem flat_append (a b : List Int) : flat (a ++ b) = flat a ++ flat b := by simp [flat]
theorem flat_length (zs : List Int) : (flat zs).length = zs.length := by simp [flat]
theorem flat_get (zs : List Int) (i : Nat) (h : i < zs.length) : (flat zs)[i]? = some (.int .i64 (at' zs i)) := by simp [flat, at', List.getD, h]
theorem flat_oneCell (zs : List Int) : ∀ u ∈ flat zs, u.oneCell' = true := by
  intro u hu
  obtain ⟨x, _, rfl⟩ := List.mem_map.1 hu
  rfl
abbrev Is (w : World) (v : Value) (zs : List Int) : Prop := Lies w v zs.length 1 (flat zs)
set_option maxHeartbeats 1000000 in
theorem impl_ok {w : World} {v : Value} {zs : List Int} (h : Is w v zs) : Calls Try.prog 17 #[v] w fun e w' => e = .returned (.bool (ok zs)) ∧ w' = w := by
  obtain ⟨-, a, cap, rfl, hc, hm, -, hr⟩ := h
  unfold maxLen at hm
  obtain ⟨n, hn⟩ : ∃ n, n = zs.length := ⟨_, rfl⟩
  rw [← hn] at hc hr ⊢
  have HN := hide hn
  clear hn
  go_enter Try.func17, Try.ntmps17
  go_wp2
  go_loop [7] (fun i => ∃ k : Nat, k ≤ n ∧ i = .int .i64 k ∧ okTo zs k = true) (fun i => n - (intOf i).toNat)
  case atStart => exact ⟨0, Nat.zero_le _, rfl, rfl⟩
  case round =>
    obtain ⟨k, hk, rfl, hok⟩ := hrel
    have HO := hide hok
    clear hok
    by_cases hlt : k < n
    · obtain ⟨b, off, rfl, hl, hcells⟩ := hr (by omega)
      have hk0 : (0 : Int) ≤ (k : Int) := Int.natCast_nonneg _
      have hk1 : (k : Int) < (n : Int) := by omega
      have hc0 := hcells k _ (flat_get zs k (by have := unhide HN; omega))
      obtain ⟨X, hX⟩ : ∃ X, X = at' zs k := ⟨_, rfl⟩
      rw [← hX] at hc0
      have HX := hide hX
      clear hX
      by_cases hneg : X < 0
      · have HF := hide (ok_of_bad (zs := zs) (k := k) (by have := unhide HN; omega) (step_neg (by rw [← unhide HX]; exact hneg)))
        go_wp2
        go_ret
        exact ⟨ret_bool (unhide HF).symm, rfl⟩
      · by_cases hk00 : k = 0
        · have HS := hide (show okTo zs (k + 1) = true by rw [okTo_succ, unhide HO, hk00, step_first (by have := unhide HX; rw [hk00] at this; omega)]; rfl)
          have hd : decide (0 < k) = false := by simp; omega
          have hd2 : decide ((0 : Int) < (k : Int)) = false := by simp; omega
          clear hk00
          go_wp2
          go_round
          case rel => exact ⟨k + 1, by omega, by go_num, unhide HS⟩
          case measure => simp [intOf]; omega
        · have hkp : 0 < k := by omega
          have hp0 := hcells (k - 1) _ (flat_get zs (k - 1) (by have := unhide HN; omega))
          obtain ⟨P, hP⟩ : ∃ P, P = at' zs (k - 1) := ⟨_, rfl⟩
          rw [← hP] at hp0
          have HP := hide hP
          clear hP
          by_cases hlate : X ≤ P
          · have HF := hide (ok_of_bad (zs := zs) (k := k) (by have := unhide HN; omega) (step_late (by omega) (by rw [← unhide HX, ← unhide HP]; exact hlate)))
            go_wp2
            go_ret
            exact ⟨ret_bool (unhide HF).symm, rfl⟩
          · have HS := hide (show okTo zs (k + 1) = true by rw [okTo_succ, unhide HO, step_next (by rw [← unhide HX]; omega) (by rw [← unhide HX, ← unhide HP]; omega)]; rfl)
            go_wp2
            go_round
            case rel => exact ⟨k + 1, by omega, by go_num, unhide HS⟩
            case measure => simp [intOf]; omega
    · go_wp2
      go_ret
      refine ⟨ret_bool ?_, rfl⟩
      unfold ok
      rw [← unhide HN, show n = k from by omega, unhide HO, Bool.true_and]
      exact decide_eq_decide.2 (by omega)
end Go.Proofs.Ytbkolpiekcifpaa.Ints
