/- MatchesOk, of the program and of the model, at every slice of matches. -/
import Derived.Test.YtkmoekbicbjdmaaDoorMatLaw
import Derived.Test.YtkmoekbicbjdmaaDoorLabOk2
namespace Go.Proofs.YtkmoekbicbjdmaaDoor.Mat
open Go.RowKit Rw
open Lab (nameB wordB letters name_any word_any l3Name_any l3Letters_any in_yes in_no)
set_option linter.unusedVariables false
attribute [local go_sem ↓] Go.wp_at_zero Go.wp_at_succ
def ruleT (k : Int) : TypeId := if k = 1 then 90 else if k = 2 then 91 else if k = 3 then 92 else 93
theorem ruleOf_yes (k : Int) (s : ByteArray) (w : World) (h1 : 1 ≤ k) (h4 : k ≤ 4) : Calls Tryd.prog 49 #[.int .i64 k, .string s] w fun e w' => e = .returned (.iface (ruleT k) (.string s)) ∧ w' = w := by
  rcases (show k = 1 ∨ k = 2 ∨ k = 3 ∨ k = 4 from by omega) with rfl | rfl | rfl | rfl
  all_goals
    clear h1 h4
    go_enter Tryd.func49, Tryd.ntmps49
    go_wp2
    go_ret
    exact ⟨rfl, rfl⟩
theorem ruleOf_no (k : Int) (s : ByteArray) (w : World) (h : k < 1 ∨ 4 < k) : Calls Tryd.prog 49 #[.int .i64 k, .string s] w fun e w' => e = .returned .nilIface ∧ w' = w := by
  have e1 : (k == 1) = false := by simp; omega
  have e2 : (k == 2) = false := by simp; omega
  have e3 : (k == 3) = false := by simp; omega
  have e4 : (k == 4) = false := by simp; omega
  clear h
  go_enter Tryd.func49, Tryd.ntmps49
  go_wp2
  go_ret
  exact ⟨rfl, rfl⟩
def stepOk (zs : List E) (i : Nat) : Bool := decide (1 ≤ (at' zs i).1) && decide ((at' zs i).1 ≤ 4) && nameB (at' zs i).2.1 && wordB (at' zs i).2.2
def okTo (zs : List E) (k : Nat) : Bool := (List.range k).all (stepOk zs)
def ok (zs : List E) : Bool := okTo zs zs.length && decide (zs.length ≤ 4)
theorem okTo_succ (zs : List E) (k : Nat) : okTo zs (k + 1) = (okTo zs k && stepOk zs k) := by simp [okTo, List.range_succ]
theorem ok_of_bad {zs : List E} {k : Nat} (hk : k < zs.length) (h : stepOk zs k = false) : ok zs = false := by
  have : okTo zs zs.length = false := by unfold okTo; rw [List.all_eq_false]; exact ⟨k, List.mem_range.2 hk, by simp [h]⟩
  unfold ok; rw [this]; rfl
theorem step_yes {zs : List E} {k : Nat} (h1 : 1 ≤ (at' zs k).1) (h4 : (at' zs k).1 ≤ 4) (h2 : nameB (at' zs k).2.1 = true) (h3 : wordB (at' zs k).2.2 = true) : stepOk zs k = true := by
  unfold stepOk; rw [decide_eq_true h1, decide_eq_true h4, h2, h3]; rfl
theorem step_kind {zs : List E} {k : Nat} (h : (at' zs k).1 < 1 ∨ 4 < (at' zs k).1) : stepOk zs k = false := by
  unfold stepOk
  rcases h with h | h
  · rw [decide_eq_false (by omega)]; rfl
  · rw [decide_eq_false (show ¬ (at' zs k).1 ≤ 4 by omega), Bool.and_false]; rfl
theorem step_name {zs : List E} {k : Nat} (h : nameB (at' zs k).2.1 = false) : stepOk zs k = false := by unfold stepOk; rw [h, Bool.and_false]; rfl
theorem step_word {zs : List E} {k : Nat} (h : wordB (at' zs k).2.2 = false) : stepOk zs k = false := by unfold stepOk; rw [h, Bool.and_false]
set_option maxRecDepth 100000 in
set_option maxHeartbeats 4000000 in
theorem impl_ok {w : World} {v : Value} {zs : List E} (h : Is w v zs) (hg : ∀ x ∈ zs, good x) (hlen : zs.length ≤ maxLen) : Calls Tryd.prog 20 #[v] w fun e w' => e = .returned (.bool (ok zs)) ∧ Below w.heap.size w w' := by
  obtain ⟨-, a, cap, rfl, hc, hm, -, hr⟩ := h
  unfold maxLen at hm hlen
  obtain ⟨n, hn⟩ : ∃ n, n = zs.length := ⟨_, rfl⟩
  rw [← hn] at hc hr hlen ⊢
  have HN := hide hn
  have HG := hide hg
  clear hn hg
  go_enter Tryd.func20, Tryd.ntmps20
  go_wp2_with fail
  go_loopw [7] (fun i wr => ∃ k : Nat, k ≤ n ∧ i = .int .i64 k ∧ okTo zs k = true ∧ Below w.heap.size w wr) (fun i _ => n - (intOf i).toNat)
  case atStart => exact ⟨0, Nat.zero_le _, rfl, rfl, Below.refl _ _⟩
  case round =>
    obtain ⟨k, hk, rfl, hok, hbel⟩ := hrel
    have HO := hide hok
    clear hok
    have hsz := hbel.size
    by_cases hlt : k < n
    · obtain ⟨b, off, rfl, hl, hcells⟩ := hr (by omega)
      have fa := flat_at zs k (by have := unhide HN; omega)
      have gd := unhide HG (at' zs k) (by rw [at_get zs k (by have := unhide HN; omega)]; exact List.getElem_mem _)
      obtain ⟨K, A, B, hX⟩ : ∃ K A B, (K, A, B) = at' zs k := ⟨_, _, _, rfl⟩
      rw [← hX] at fa gd
      obtain ⟨-, gA, gB⟩ := gd
      have hc0 : wr.cell? ⟨b, off + k * 3, none⟩ = some (.int .i64 K) := (hbel.cell (p := ⟨b, _, none⟩) hl).trans (hcells (k * 3) _ fa.1)
      have hc1 : wr.cell? ⟨b, off + k * 3 + 1, none⟩ = some (.string A) := (hbel.cell (p := ⟨b, _, none⟩) hl).trans (hcells (k * 3 + 1) _ fa.2.1)
      have hc2 : wr.cell? ⟨b, off + k * 3 + 2, none⟩ = some (.string B) := (hbel.cell (p := ⟨b, _, none⟩) hl).trans (hcells (k * 3 + 2) _ fa.2.2)
      have HX := hide hX
      clear hX fa
      have hk0 : (0 : Int) ≤ (k : Int) := Int.natCast_nonneg _
      have hk1 : (k : Int) < (n : Int) := by omega
      obtain ⟨W, hW⟩ : ∃ W, W = wr.alloc (.cells #[.int .i64 K, .string A, .string B] 61) := ⟨_, rfl⟩
      have hWb : Below w.heap.size w W := by rw [hW]; exact hbel.alloc hsz _
      have hW1 : W.cell? ⟨wr.heap.size, 1, none⟩ = some (.string A) := by rw [hW]; simp
      have hW2 : W.cell? ⟨wr.heap.size, 2, none⟩ = some (.string B) := by rw [hW]; simp
      have hWs : W.heap.size = wr.heap.size + 1 := by rw [hW]; simp
      have HWs := hide hWs
      have HW := hide hW
      clear hW hWs
      have HNm := hide (fun X => name_any A X gA)
      have HWd := hide (fun X => word_any B X gB)
      clear gA gB
      by_cases hK : 1 ≤ K ∧ K ≤ 4
      · have HR := hide (fun X => ruleOf_yes K B X hK.1 hK.2)
        have HK := hide hK
        clear hK
        go_wp2_with fail
        rw [← unhide HW]
        refine (unhide HR W).mono ?_
        rintro e w0 ⟨rfl, hw0⟩
        subst hw0
        go_wp2_with fail
        refine (unhide HNm _).mono ?_
        rintro e w1 ⟨rfl, b1⟩
        have hw2 : w1.cell? ⟨wr.heap.size, 2, none⟩ = some (.string B) := (b1.cell (p := ⟨_, _, none⟩) (by have := unhide HWs; show wr.heap.size < _; omega)).trans hW2
        have c1 := hWb.trans (b1.mono hWb.size)
        cases hnm : nameB A
        · have HF := hide (ok_of_bad (zs := zs) (k := k) (by have := unhide HN; omega) (step_name (by rw [← unhide HX]; exact hnm)))
          clear hnm
          go_wp2_with fail
          go_ret
          exact ⟨ret_bool (unhide HF).symm, c1⟩
        have KN := hide hnm
        clear hnm
        go_wp2_with fail
        refine (unhide HWd w1).mono ?_
        rintro e w2 ⟨rfl, b2⟩
        have c2 := c1.trans (b2.mono c1.size)
        cases hwd : wordB B
        · have HF := hide (ok_of_bad (zs := zs) (k := k) (by have := unhide HN; omega) (step_word (by rw [← unhide HX]; exact hwd)))
          clear hwd
          go_wp2_with fail
          go_ret
          exact ⟨ret_bool (unhide HF).symm, c2⟩
        · have HS := hide (show okTo zs (k + 1) = true by rw [okTo_succ, unhide HO, step_yes (by rw [← unhide HX]; exact (unhide HK).1) (by rw [← unhide HX]; exact (unhide HK).2) (by rw [← unhide HX]; exact unhide KN) (by rw [← unhide HX]; exact hwd)]; rfl)
          clear hwd
          go_wp2_with fail
          go_roundw
          case rel => exact ⟨k + 1, by omega, by go_num, unhide HS, c2⟩
          case measure => simp [intOf]; omega
      · have HR := hide (fun X => ruleOf_no K B X (by omega))
        have HF := hide (ok_of_bad (zs := zs) (k := k) (by have := unhide HN; omega) (step_kind (by rw [← unhide HX]; show K < 1 ∨ 4 < K; omega)))
        clear hK
        go_wp2_with fail
        rw [← unhide HW]
        refine (unhide HR W).mono ?_
        rintro e w0 ⟨rfl, hw0⟩
        subst hw0
        go_wp2_with fail
        go_ret
        exact ⟨ret_bool (unhide HF).symm, hWb⟩
    · go_wp2_with fail
      go_ret
      refine ⟨ret_bool ?_, hbel⟩
      unfold ok
      rw [← unhide HN, show n = k from by omega, unhide HO, Bool.true_and]
      exact decide_eq_decide.2 (by omega)
set_option maxRecDepth 100000 in
set_option maxHeartbeats 4000000 in
theorem spec_ok {w : World} {v : Value} {zs : List E} (h : Is w v zs) (hg : ∀ x ∈ zs, good x) (hlen : zs.length ≤ maxLen) : Calls Tryd.prog 21 #[v] w fun e w' => e = .returned (.bool (ok zs)) ∧ Below w.heap.size w w' := by
  obtain ⟨-, a, cap, rfl, hc, hm, -, hr⟩ := h
  unfold maxLen at hm hlen
  obtain ⟨n, hn⟩ : ∃ n, n = zs.length := ⟨_, rfl⟩
  rw [← hn] at hc hr hlen ⊢
  have HN := hide hn
  have HG := hide hg
  clear hn hg
  go_enter Tryd.func21, Tryd.ntmps21
  go_wp2_with fail
  go_loop [3] (fun i => ∃ k : Nat, k ≤ n ∧ i = .int .i64 k ∧ okTo zs k = true) (fun i => n - (intOf i).toNat)
  case atStart => exact ⟨0, Nat.zero_le _, rfl, rfl⟩
  case round =>
    obtain ⟨k, hk, rfl, hok⟩ := hrel
    have HO := hide hok
    clear hok
    by_cases hlt : k < n
    · obtain ⟨b, off, rfl, hl, hcells⟩ := hr (by omega)
      have fa := flat_at zs k (by have := unhide HN; omega)
      have gd := unhide HG (at' zs k) (by rw [at_get zs k (by have := unhide HN; omega)]; exact List.getElem_mem _)
      obtain ⟨K, A, B, hX⟩ : ∃ K A B, (K, A, B) = at' zs k := ⟨_, _, _, rfl⟩
      rw [← hX] at fa gd
      obtain ⟨-, gA, gB⟩ := gd
      have hc0 : w.cell? ⟨b, off + k * 3, none⟩ = some (.int .i64 K) := hcells (k * 3) _ fa.1
      have hc1 : w.cell? ⟨b, off + k * 3 + 1, none⟩ = some (.string A) := hcells (k * 3 + 1) _ fa.2.1
      have hc2 : w.cell? ⟨b, off + k * 3 + 2, none⟩ = some (.string B) := hcells (k * 3 + 2) _ fa.2.2
      have HX := hide hX
      clear hX fa
      have hk0 : (0 : Int) ≤ (k : Int) := Int.natCast_nonneg _
      have hk1 : (k : Int) < (n : Int) := by omega
      have HNm := hide (fun X => l3Name_any A X gA)
      have HWd := hide (fun X => l3Letters_any B 8 X gB)
      have HWB := hide (show (letters B && decide ((B.size : Int) ≤ 8)) = wordB B by unfold wordB; rw [Bool.and_comm]; congr 1; exact decide_eq_decide.2 (by omega))
      rw [unhide HWB] at HWd
      clear gA gB
      by_cases hK : 1 ≤ K ∧ K ≤ 4
      · have HI := hide (fun X => in_yes K 1 4 X hK.1 hK.2)
        have HK := hide hK
        clear hK
        go_wp2_with fail
        refine (unhide HI _).mono ?_
        rintro e w0 ⟨rfl, hw0⟩
        subst hw0
        go_wp2_with fail
        refine (unhide HNm _).mono ?_
        rintro e w1 ⟨rfl, hw1⟩
        subst hw1
        cases hnm : nameB A
        · have HF := hide (ok_of_bad (zs := zs) (k := k) (by have := unhide HN; omega) (step_name (by rw [← unhide HX]; exact hnm)))
          clear hnm
          go_wp2_with fail
          go_ret
          exact ⟨ret_bool (unhide HF).symm, Below.refl _ _⟩
        have KN := hide hnm
        clear hnm
        go_wp2_with fail
        refine (unhide HWd _).mono ?_
        rintro e w2 ⟨rfl, hw2⟩
        subst hw2
        cases hwd : wordB B
        · have HF := hide (ok_of_bad (zs := zs) (k := k) (by have := unhide HN; omega) (step_word (by rw [← unhide HX]; exact hwd)))
          clear hwd
          go_wp2_with fail
          go_ret
          exact ⟨ret_bool (unhide HF).symm, Below.refl _ _⟩
        · have HS := hide (show okTo zs (k + 1) = true by rw [okTo_succ, unhide HO, step_yes (by rw [← unhide HX]; exact (unhide HK).1) (by rw [← unhide HX]; exact (unhide HK).2) (by rw [← unhide HX]; exact unhide KN) (by rw [← unhide HX]; exact hwd)]; rfl)
          clear hwd
          go_wp2_with fail
          go_round
          case rel => exact ⟨k + 1, by omega, by go_num, unhide HS⟩
          case measure => simp [intOf]; omega
      · have HI := hide (fun X => in_no K 1 4 X (by omega))
        have HF := hide (ok_of_bad (zs := zs) (k := k) (by have := unhide HN; omega) (step_kind (by rw [← unhide HX]; show K < 1 ∨ 4 < K; omega)))
        clear hK
        go_wp2_with fail
        refine (unhide HI _).mono ?_
        rintro e w0 ⟨rfl, hw0⟩
        subst hw0
        go_wp2_with fail
        go_ret
        exact ⟨ret_bool (unhide HF).symm, Below.refl _ _⟩
    · go_wp2_with fail
      go_ret
      refine ⟨ret_bool ?_, Below.refl _ _⟩
      unfold ok
      rw [← unhide HN, show n = k from by omega, unhide HO, Bool.true_and]
      exact decide_eq_decide.2 (by omega)
end Go.Proofs.YtkmoekbicbjdmaaDoor.Mat
