/- My own texts of one claim, laid together by program: Let3, Let4. -/
import Derived.Test.YtomncodkbcngmaaG07b082864e
/- MatchesLet of the model, at every slice of matches and of labels. -/
namespace Go.Proofs.Ytomncodkbcngmaa.Mat
open Go.RowKit Rw
set_option linter.unusedVariables false
attribute [local go_sem ↓] Go.wp_at_zero Go.wp_at_succ
set_option maxRecDepth 100000 in
set_option maxHeartbeats 4000000 in
theorem l3Let_any {w : World} {v : Value} {ls : List Lab.E} (K : Int) (A B : ByteArray) (h : Lab.Is w v ls) (hg : ∀ x ∈ ls, Lab.good x) (hB : B.size ≤ maxLen) :
    Calls Try.prog 98 #[.agg #[.int .i64 K, .string A, .string B], v] w fun e w' => e = .returned (.bool (letB (K, A, B) ls)) ∧ Below w.heap.size w w' := by
  have HU := hide (fun W (hb : Below w.heap.size w W) => l3Word_any A (h.below hb))
  have hXs := wordOf_size hg A
  obtain ⟨av, cv, ev⟩ : ∃ a c, v = .slice a ls.length c := by obtain ⟨-, a, c, e, -⟩ := h; exact ⟨a, c, e⟩
  subst ev
  clear h hg
  obtain ⟨R, hR⟩ : ∃ R, R = letB (K, A, B) ls := ⟨_, rfl⟩
  rw [← hR]
  unfold letB at hR
  simp only at hR
  have HR := hide hR
  clear hR
  generalize wordOf ls A = X at HU HR hXs
  unfold maxLen at hB hXs
  have HPE := hide (prefB_eq X B)
  obtain ⟨W, hW⟩ : ∃ W, W = w.alloc (.cells #[.int .i64 K, .string A, .string B] 69) := ⟨_, rfl⟩
  have hWb : Below w.heap.size w W := by rw [hW]; exact (Below.refl _ _).alloc (Nat.le_refl _) _
  have hWs : W.heap.size = w.heap.size + 1 := by rw [hW]; simp
  have q2 : ∀ x : Cls W.heap.size W, x.val.cell? ⟨w.heap.size, 2, none⟩ = some (.string B) := fun x => by rw [x.cell (by omega), hW]; simp
  have q0 : ∀ x : Cls W.heap.size W, x.val.cell? ⟨w.heap.size, 0, none⟩ = some (.int .i64 K) := fun x => by rw [x.cell (by omega), hW]; simp
  have HW := hide hW
  have HWs := hide hWs
  clear hW hWs
  have hne := cls_nonempty W.heap.size W
  have b0 : (0 : Int) ≤ (B.size : Int) := Int.natCast_nonneg _
  by_cases hlen : B.size ≤ X.size
  · have hge : (B.size : Int) ≤ (X.size : Int) := by omega
    cases hs : sameS (X.extract 0 B.size) B
    · have HPB := hide (show prefB X B = false by rw [unhide HPE, hs, decide_eq_true hlen]; rfl)
      have heq : ∀ W, (binOp .eql 9 (.string (X.extract 0 B.size)) (.string B)).run Try.prog W = .ok (.bool false) W := fun W => by rw [run_eqS, hs]
      have heq2 : ((X.extract 0 B.size).toList == B.toList) = false := hs
      clear hs
      go_enter Try.func98, Try.ntmps98
      go_wp2_with fail
      rw [← unhide HW]
      refine (unhide HU _ hWb).mono ?_
      rintro e w1 ⟨rfl, hw1⟩
      subst hw1
      go_wp2_with fail
      refine region_cls (by kernel_rfl) (by kernel_rfl) ?_
      repeat (go_big_quiet_step (fail))
      refine wpQuiet_nil ?_
      rintro wq ⟨⟨_, hq⟩, rfl⟩
      have k0 : wq.cell? ⟨w.heap.size, 0, none⟩ = some (.int .i64 K) := q0 ⟨wq, hq⟩
      have k2 : wq.cell? ⟨w.heap.size, 2, none⟩ = some (.string B) := q2 ⟨wq, hq⟩
      have cq := hWb.trans (hq.mono hWb.size)
      clear q0 q2 hq hne
      by_cases h1 : K = 1
      · subst h1
        have HF := hide (show R = sameS X B by rw [unhide HR]; rfl)
        go_wp2
        go_ret
        exact ⟨ret_bool (unhide HF).symm, cq⟩
      have e1 : (K == 1) = false := by simpa using h1
      by_cases h2 : K = 2
      · subst h2
        have HF := hide (show R = !sameS X B by rw [unhide HR]; rfl)
        go_wp2
        go_ret
        exact ⟨ret_bool (unhide HF).symm, cq⟩
      have e2 : (K == 2) = false := by simpa using h2
      by_cases h3 : K = 3
      · subst h3
        have HF := hide (show R = false by rw [unhide HR]; exact unhide HPB)
        go_wp2
        go_ret
        exact ⟨ret_bool (unhide HF).symm, cq⟩
      have e3 : (K == 3) = false := by simpa using h3
      have HF := hide (show R = true by rw [unhide HR, if_neg h1, if_neg h2, if_neg h3, unhide HPB]; rfl)
      go_wp2
      go_ret
      exact ⟨ret_bool (unhide HF).symm, cq⟩
    · have HPB := hide (show prefB X B = true by rw [unhide HPE, hs, decide_eq_true hlen]; rfl)
      have heq : ∀ W, (binOp .eql 9 (.string (X.extract 0 B.size)) (.string B)).run Try.prog W = .ok (.bool true) W := fun W => by rw [run_eqS, hs]
      have heq2 : ((X.extract 0 B.size).toList == B.toList) = true := hs
      clear hs
      go_enter Try.func98, Try.ntmps98
      go_wp2_with fail
      rw [← unhide HW]
      refine (unhide HU _ hWb).mono ?_
      rintro e w1 ⟨rfl, hw1⟩
      subst hw1
      go_wp2_with fail
      refine region_cls (by kernel_rfl) (by kernel_rfl) ?_
      repeat (go_big_quiet_step (fail))
      refine wpQuiet_nil ?_
      rintro wq ⟨⟨_, hq⟩, rfl⟩
      have k0 : wq.cell? ⟨w.heap.size, 0, none⟩ = some (.int .i64 K) := q0 ⟨wq, hq⟩
      have k2 : wq.cell? ⟨w.heap.size, 2, none⟩ = some (.string B) := q2 ⟨wq, hq⟩
      have cq := hWb.trans (hq.mono hWb.size)
      clear q0 q2 hq hne
      by_cases h1 : K = 1
      · subst h1
        have HF := hide (show R = sameS X B by rw [unhide HR]; rfl)
        go_wp2
        go_ret
        exact ⟨ret_bool (unhide HF).symm, cq⟩
      have e1 : (K == 1) = false := by simpa using h1
      by_cases h2 : K = 2
      · subst h2
        have HF := hide (show R = !sameS X B by rw [unhide HR]; rfl)
        go_wp2
        go_ret
        exact ⟨ret_bool (unhide HF).symm, cq⟩
      have e2 : (K == 2) = false := by simpa using h2
      by_cases h3 : K = 3
      · subst h3
        have HF := hide (show R = true by rw [unhide HR]; exact unhide HPB)
        go_wp2
        go_ret
        exact ⟨ret_bool (unhide HF).symm, cq⟩
      have e3 : (K == 3) = false := by simpa using h3
      have HF := hide (show R = false by rw [unhide HR, if_neg h1, if_neg h2, if_neg h3, unhide HPB]; rfl)
      go_wp2
      go_ret
      exact ⟨ret_bool (unhide HF).symm, cq⟩
  · have hge : decide ((B.size : Int) ≤ (X.size : Int)) = false := by simp; omega
    have HPB := hide (show prefB X B = false by rw [unhide HPE, decide_eq_false hlen]; rfl)
    go_enter Try.func98, Try.ntmps98
    go_wp2_with fail
    rw [← unhide HW]
    refine (unhide HU _ hWb).mono ?_
    rintro e w1 ⟨rfl, hw1⟩
    subst hw1
    go_wp2_with fail
    refine region_cls (by kernel_rfl) (by kernel_rfl) ?_
    repeat (go_big_quiet_step (fail))
    refine wpQuiet_nil ?_
    rintro wq ⟨⟨_, hq⟩, rfl⟩
    have k0 : wq.cell? ⟨w.heap.size, 0, none⟩ = some (.int .i64 K) := q0 ⟨wq, hq⟩
    have k2 : wq.cell? ⟨w.heap.size, 2, none⟩ = some (.string B) := q2 ⟨wq, hq⟩
    have cq := hWb.trans (hq.mono hWb.size)
    clear q0 q2 hq hne
    by_cases h1 : K = 1
    · subst h1
      have HF := hide (show R = sameS X B by rw [unhide HR]; rfl)
      go_wp2
      go_ret
      exact ⟨ret_bool (unhide HF).symm, cq⟩
    have e1 : (K == 1) = false := by simpa using h1
    by_cases h2 : K = 2
    · subst h2
      have HF := hide (show R = !sameS X B by rw [unhide HR]; rfl)
      go_wp2
      go_ret
      exact ⟨ret_bool (unhide HF).symm, cq⟩
    have e2 : (K == 2) = false := by simpa using h2
    by_cases h3 : K = 3
    · subst h3
      have HF := hide (show R = false by rw [unhide HR]; exact unhide HPB)
      go_wp2
      go_ret
      exact ⟨ret_bool (unhide HF).symm, cq⟩
    have e3 : (K == 3) = false := by simpa using h3
    have HF := hide (show R = true by rw [unhide HR, if_neg h1, if_neg h2, if_neg h3, unhide HPB]; rfl)
    go_wp2
    go_ret
    exact ⟨ret_bool (unhide HF).symm, cq⟩
end Go.Proofs.Ytomncodkbcngmaa.Mat

/- MatchesLet of the model. -/
namespace Go.Proofs.Ytomncodkbcngmaa.Mat
open Go.RowKit Rw
set_option linter.unusedVariables false
attribute [local go_sem ↓] Go.wp_at_zero Go.wp_at_succ
set_option maxRecDepth 100000 in
set_option maxHeartbeats 2000000 in
theorem l3Lets_any {w : World} {v u : Value} {zs : List E} {ls : List Lab.E} (h : Is w v zs) (h' : Lab.Is w u ls) (hg : ∀ x ∈ zs, good x) (hg' : ∀ x ∈ ls, Lab.good x) :
    Calls Try.prog 78 #[v, u] w fun e w' => e = .returned (.bool (lets zs ls)) ∧ Below w.heap.size w w' := by
  have HU := hide (fun K A B (hB : B.size ≤ maxLen) W (hb : Below w.heap.size w W) => l3Let_any K A B (h'.below hb) hg' hB)
  obtain ⟨au, cu, eu⟩ : ∃ a c, u = .slice a ls.length c := by obtain ⟨-, a, c, e, -⟩ := h'; exact ⟨a, c, e⟩
  subst eu
  clear h' hg'
  obtain ⟨-, a, cap, rfl, hc, hm, -, hr⟩ := h
  unfold maxLen at hm
  obtain ⟨n, hn⟩ : ∃ n, n = zs.length := ⟨_, rfl⟩
  rw [← hn] at hc hr ⊢
  have HN := hide hn
  have HG := hide hg
  clear hn hg
  obtain ⟨R, hR⟩ : ∃ R, R = lets zs ls := ⟨_, rfl⟩
  rw [← hR]
  have HML := hide hR
  clear hR
  go_enter Try.func78, Try.ntmps78
  go_wp2_with fail
  go_loopw [5] (fun i wr => ∃ k : Nat, k ≤ n ∧ i = .int .i64 k ∧ letsTo zs ls k = true ∧ Below w.heap.size w wr) (fun i _ => n - (intOf i).toNat)
  case atStart => exact ⟨0, Nat.zero_le _, rfl, rfl, Below.refl _ _⟩
  case round =>
    obtain ⟨k, hk, rfl, hok, hbel⟩ := hrel
    have HO := hide hok
    clear hok
    have hsz := hbel.size
    by_cases hlt : k < n
    · obtain ⟨b, off, rfl, hl, hcells⟩ := hr (by omega)
      have fa := flat_at zs k (by have := unhide HN; omega)
      have gd := unhide HG (at' zs k) (by rw [at_get zs k (by have := unhide HN; omega)]; exact List.getElem_mem _)
      obtain ⟨KK, A, B, hX⟩ : ∃ K A B, (K, A, B) = at' zs k := ⟨_, _, _, rfl⟩
      rw [← hX] at fa gd
      have hc0 : wr.cell? ⟨b, off + k * 3, none⟩ = some (.int .i64 KK) := (hbel.cell (p := ⟨b, _, none⟩) hl).trans (hcells (k * 3) _ fa.1)
      have hc1 : wr.cell? ⟨b, off + k * 3 + 1, none⟩ = some (.string A) := (hbel.cell (p := ⟨b, _, none⟩) hl).trans (hcells (k * 3 + 1) _ fa.2.1)
      have hc2 : wr.cell? ⟨b, off + k * 3 + 2, none⟩ = some (.string B) := (hbel.cell (p := ⟨b, _, none⟩) hl).trans (hcells (k * 3 + 2) _ fa.2.2)
      have HX := hide hX
      have HL := hide (unhide HU KK A B gd.2.2 wr hbel)
      clear hX fa gd
      have hk0 : (0 : Int) ≤ (k : Int) := Int.natCast_nonneg _
      have hk1 : (k : Int) < (n : Int) := by omega
      cases hq : letB (KK, A, B) ls
      · have HF := hide (show R = false by rw [unhide HML]; exact lets_no zs ls k (by have := unhide HN; omega) (by rw [← unhide HX]; exact hq))
        rw [hq] at HL
        clear hq
        go_wp2_with fail
        refine (unhide HL).mono ?_
        rintro e w2 ⟨rfl, b2⟩
        have c2 := hbel.trans (b2.mono hsz)
        go_wp2_with fail
        go_ret
        exact ⟨ret_bool (unhide HF).symm, c2⟩
      · have HS := hide (show letsTo zs ls (k + 1) = true by rw [letsTo_succ zs ls k (by have := unhide HN; omega), unhide HO, ← unhide HX, hq]; rfl)
        rw [hq] at HL
        clear hq
        go_wp2_with fail
        refine (unhide HL).mono ?_
        rintro e w2 ⟨rfl, b2⟩
        have c2 := hbel.trans (b2.mono hsz)
        go_wp2_with fail
        go_roundw
        case rel => exact ⟨k + 1, by omega, by go_num, unhide HS, c2⟩
        case measure => simp [intOf]; omega
    · have HF := hide (show R = true by rw [unhide HML]; exact lets_all zs ls (by rw [← unhide HN, show n = k from by omega]; exact unhide HO))
      have hkf : decide ((k : Int) < (n : Int)) = false := by simp; omega
      go_wp2_with fail
      go_ret
      exact ⟨ret_bool (unhide HF).symm, hbel⟩
end Go.Proofs.Ytomncodkbcngmaa.Mat
