/- My own texts of one claim, laid together by program: Let2, Let3. -/
import Derived.Test.YtbkolpiekcifpaaGdfb79642f1
/- MatchesLet of the program, at every slice of matches and of labels. -/
namespace Go.Proofs.Ytbkolpiekcifpaa.Mat
open Go.RowKit Rw
set_option linter.unusedVariables false
attribute [local go_sem ↓] Go.wp_at_zero Go.wp_at_succ
set_option maxRecDepth 100000 in
set_option maxHeartbeats 2000000 in
theorem impl_let {w : World} {v u : Value} {zs : List E} {ls : List Lab.E} (h : Is w v zs) (h' : Lab.Is w u ls) (hg : ∀ x ∈ zs, good x) (hg' : ∀ x ∈ ls, Lab.good x) (hz : zs.length ≤ maxLen) :
    Calls Try.prog 41 #[v, u] w fun e w' => e = .returned (.bool (mlet zs ls)) ∧ Below w.heap.size w w' := by
  have H1 := hide (impl_ok h hg hz)
  have H2 := hide (fun W (hb : Below w.heap.size w W) => Lab.impl_ok (h'.below hb) hg')
  have HU := hide (fun nm W (hb : Below w.heap.size w W) => wordUnder_any nm (h'.below hb))
  obtain ⟨au, cu, eu⟩ : ∃ a c, u = .slice a ls.length c := by obtain ⟨-, a, c, e, -⟩ := h'; exact ⟨a, c, e⟩
  subst eu
  clear h' hg'
  cases ho : ok zs
  · have HR := hide (show mlet zs ls = false by unfold mlet; rw [ho]; rfl)
    rw [ho] at H1
    clear ho
    go_enter Try.func41, Try.ntmps41
    go_wp2_with fail
    refine (unhide H1).mono ?_
    rintro e w1 ⟨rfl, b1⟩
    go_wp2_with fail
    go_ret
    exact ⟨ret_bool (unhide HR).symm, b1⟩
  rw [ho] at H1
  cases ho' : Lab.ok ls
  · have HR := hide (show mlet zs ls = false by unfold mlet; rw [ho', Bool.and_false]; rfl)
    rw [ho'] at H2
    clear ho ho'
    go_enter Try.func41, Try.ntmps41
    go_wp2_with fail
    refine (unhide H1).mono ?_
    rintro e w1 ⟨rfl, b1⟩
    go_wp2_with fail
    refine (unhide H2 _ b1).mono ?_
    rintro e w2 ⟨rfl, b2⟩
    have c2 := b1.trans (b2.mono b1.size)
    go_wp2_with fail
    go_ret
    exact ⟨ret_bool (unhide HR).symm, c2⟩
  rw [ho'] at H2
  have HML := hide (show mlet zs ls = lets zs ls by unfold mlet; rw [ho, ho']; rfl)
  have HOK := hide ho
  clear ho ho' hg
  obtain ⟨-, a, cap, rfl, hc, hm, -, hr⟩ := h
  unfold maxLen at hm hz
  obtain ⟨n, hn⟩ : ∃ n, n = zs.length := ⟨_, rfl⟩
  rw [← hn] at hc hr hz H1 ⊢
  have HN := hide hn
  clear hn
  obtain ⟨R, hR⟩ : ∃ R, R = mlet zs ls := ⟨_, rfl⟩
  rw [← hR]
  rw [← hR] at HML
  clear hR
  go_enter Try.func41, Try.ntmps41
  go_wp2_with fail
  refine (unhide H1).mono ?_
  rintro e w1 ⟨rfl, b1⟩
  go_wp2_with fail
  refine (unhide H2 _ b1).mono ?_
  rintro e w2 ⟨rfl, b2⟩
  have c2 := b1.trans (b2.mono b1.size)
  clear b1 b2 H1 H2
  go_wp2_with fail
  go_loopw [17] (fun i wr => ∃ k : Nat, k ≤ n ∧ i = .int .i64 k ∧ letsTo zs ls k = true ∧ Below w.heap.size w wr) (fun i _ => n - (intOf i).toNat)
  case atStart => exact ⟨0, Nat.zero_le _, rfl, rfl, c2⟩
  case round =>
    clear c2
    obtain ⟨k, hk, rfl, hok, hbel⟩ := hrel
    have HO := hide hok
    clear hok
    have hsz := hbel.size
    by_cases hlt : k < n
    · obtain ⟨b, off, rfl, hl, hcells⟩ := hr (by omega)
      have fa := flat_at zs k (by have := unhide HN; omega)
      have hkd := ok_kind (unhide HOK) (k := k) (by have := unhide HN; omega)
      obtain ⟨KK, A, B, hX⟩ : ∃ K A B, (K, A, B) = at' zs k := ⟨_, _, _, rfl⟩
      rw [← hX] at fa hkd
      have hc0 : wr.cell? ⟨b, off + k * 3, none⟩ = some (.int .i64 KK) := (hbel.cell (p := ⟨b, _, none⟩) hl).trans (hcells (k * 3) _ fa.1)
      have hc1 : wr.cell? ⟨b, off + k * 3 + 1, none⟩ = some (.string A) := (hbel.cell (p := ⟨b, _, none⟩) hl).trans (hcells (k * 3 + 1) _ fa.2.1)
      have hc2 : wr.cell? ⟨b, off + k * 3 + 2, none⟩ = some (.string B) := (hbel.cell (p := ⟨b, _, none⟩) hl).trans (hcells (k * 3 + 2) _ fa.2.2)
      have HX := hide hX
      clear hX fa
      have hk0 : (0 : Int) ≤ (k : Int) := Int.natCast_nonneg _
      have hk1 : (k : Int) < (n : Int) := by omega
      obtain ⟨W, hW⟩ : ∃ W, W = wr.alloc (.cells #[.int .i64 KK, .string A, .string B] 42) := ⟨_, rfl⟩
      have hWb : Below w.heap.size w W := by rw [hW]; exact hbel.alloc hsz _
      have hWs : W.heap.size = wr.heap.size + 1 := by rw [hW]; simp
      have q0 : ∀ x : Cls W.heap.size W, x.val.cell? ⟨wr.heap.size, 0, none⟩ = some (.int .i64 KK) := fun x => by rw [x.cell (by omega), hW]; simp
      have q1 : ∀ x : Cls W.heap.size W, x.val.cell? ⟨wr.heap.size, 1, none⟩ = some (.string A) := fun x => by rw [x.cell (by omega), hW]; simp
      have q2 : ∀ x : Cls W.heap.size W, x.val.cell? ⟨wr.heap.size, 2, none⟩ = some (.string B) := fun x => by rw [x.cell (by omega), hW]; simp
      have HWs := hide hWs
      have HW := hide hW
      clear hW hWs
      have hne := cls_nonempty W.heap.size W
      have HWu := hide (fun (x : Cls W.heap.size W) => unhide HU A x.val (hWb.trans (x.isBelow.mono hWb.size)))
      have HLB := hide (show letB (at' zs k) ls = letB (KK, A, B) ls by rw [← unhide HX])
      obtain ⟨X, hXw⟩ : ∃ X, X = wordOf ls A := ⟨_, rfl⟩
      rw [← hXw] at HWu
      have HXW := hide hXw
      clear hXw
      rcases (show KK = 1 ∨ KK = 2 ∨ KK = 3 ∨ KK = 4 from by have := hkd.1; have := hkd.2; simp only at *; omega) with rfl | rfl | rfl | rfl
      · have HRu := hide (fun X => show Calls Try.prog 67 #[.int .i64 1, .string B] X fun e w' => e = .returned (.iface 109 (.string B)) ∧ w' = X from ruleOf_yes 1 B X (by omega) (by omega))
        have hna : ∀ W, (nilAhead 253 109 (.string B) "loop.example/almanack/impl.lets").run Try.prog W = .ok (some false) W := fun W => rfl
        have hme : ∀ W, (method 253 109 (.string B) "loop.example/almanack/impl.lets").run Try.prog W = .ok (118, .string B) W := fun W => rfl
        clear hkd
        cases hq : sameS X B
        · have HLt := hide (fun W => show Calls Try.prog 118 #[.string B, .string X] W fun e w' => e = .returned (.bool false) ∧ w' = W from is_lets B X false hq W)
          have HQ := hide (show letB (at' zs k) ls = false by rw [unhide HLB]; unfold letB; simp only [← unhide HXW]; rw [hq]; rfl)
          have HF := hide (show R = false by rw [unhide HML]; exact lets_no zs ls k (by have := unhide HN; omega) (unhide HQ))
          clear hq
          go_wp2_with fail
          rw [← unhide HW]
          refine region_cls (by kernel_rfl) (by kernel_rfl) ?_
          repeat (go_big_quiet_step ((first | (go_at_call 67; exact cls_same (unhide HRu _)) | (go_at_call 44; exact cls_call (Nat.le_refl _) (unhide HWu _)) | (go_at_call 118; exact cls_same (unhide HLt _)))))
          refine wpQuiet_nil ?_
          rintro wq ⟨⟨_, hq⟩, rfl⟩
          have cq := hWb.trans (hq.mono hWb.size)
          go_wp2
          go_ret
          exact ⟨ret_bool (unhide HF).symm, cq⟩
        · have HLt := hide (fun W => show Calls Try.prog 118 #[.string B, .string X] W fun e w' => e = .returned (.bool true) ∧ w' = W from is_lets B X true hq W)
          have HQ := hide (show letB (at' zs k) ls = true by rw [unhide HLB]; unfold letB; simp only [← unhide HXW]; rw [hq]; rfl)
          have HS := hide (show letsTo zs ls (k + 1) = true by rw [letsTo_succ zs ls k (by have := unhide HN; omega), unhide HO, unhide HQ]; rfl)
          clear hq
          go_wp2_with fail
          rw [← unhide HW]
          refine region_cls (by kernel_rfl) (by kernel_rfl) ?_
          repeat (go_big_quiet_step ((first | (go_at_call 67; exact cls_same (unhide HRu _)) | (go_at_call 44; exact cls_call (Nat.le_refl _) (unhide HWu _)) | (go_at_call 118; exact cls_same (unhide HLt _)))))
          refine wpQuiet_nil ?_
          rintro wq ⟨⟨_, hq⟩, rfl⟩
          have cq := hWb.trans (hq.mono hWb.size)
          go_wp2
          go_roundw
          case rel => exact ⟨k + 1, by omega, by go_num, unhide HS, cq⟩
          case measure => simp [intOf]; omega
      · have HRu := hide (fun X => show Calls Try.prog 67 #[.int .i64 2, .string B] X fun e w' => e = .returned (.iface 110 (.string B)) ∧ w' = X from ruleOf_yes 2 B X (by omega) (by omega))
        have hna : ∀ W, (nilAhead 253 110 (.string B) "loop.example/almanack/impl.lets").run Try.prog W = .ok (some false) W := fun W => rfl
        have hme : ∀ W, (method 253 110 (.string B) "loop.example/almanack/impl.lets").run Try.prog W = .ok (119, .string B) W := fun W => rfl
        clear hkd
        cases hq : sameS X B
        · have HLt := hide (fun W => show Calls Try.prog 119 #[.string B, .string X] W fun e w' => e = .returned (.bool true) ∧ w' = W from not_lets B X false hq W)
          have HQ := hide (show letB (at' zs k) ls = true by rw [unhide HLB]; unfold letB; simp only [← unhide HXW]; rw [hq]; rfl)
          have HS := hide (show letsTo zs ls (k + 1) = true by rw [letsTo_succ zs ls k (by have := unhide HN; omega), unhide HO, unhide HQ]; rfl)
          clear hq
          go_wp2_with fail
          rw [← unhide HW]
          refine region_cls (by kernel_rfl) (by kernel_rfl) ?_
          repeat (go_big_quiet_step ((first | (go_at_call 67; exact cls_same (unhide HRu _)) | (go_at_call 44; exact cls_call (Nat.le_refl _) (unhide HWu _)) | (go_at_call 119; exact cls_same (unhide HLt _)))))
          refine wpQuiet_nil ?_
          rintro wq ⟨⟨_, hq⟩, rfl⟩
          have cq := hWb.trans (hq.mono hWb.size)
          go_wp2
          go_roundw
          case rel => exact ⟨k + 1, by omega, by go_num, unhide HS, cq⟩
          case measure => simp [intOf]; omega
        · have HLt := hide (fun W => show Calls Try.prog 119 #[.string B, .string X] W fun e w' => e = .returned (.bool false) ∧ w' = W from not_lets B X true hq W)
          have HQ := hide (show letB (at' zs k) ls = false by rw [unhide HLB]; unfold letB; simp only [← unhide HXW]; rw [hq]; rfl)
          have HF := hide (show R = false by rw [unhide HML]; exact lets_no zs ls k (by have := unhide HN; omega) (unhide HQ))
          clear hq
          go_wp2_with fail
          rw [← unhide HW]
          refine region_cls (by kernel_rfl) (by kernel_rfl) ?_
          repeat (go_big_quiet_step ((first | (go_at_call 67; exact cls_same (unhide HRu _)) | (go_at_call 44; exact cls_call (Nat.le_refl _) (unhide HWu _)) | (go_at_call 119; exact cls_same (unhide HLt _)))))
          refine wpQuiet_nil ?_
          rintro wq ⟨⟨_, hq⟩, rfl⟩
          have cq := hWb.trans (hq.mono hWb.size)
          go_wp2
          go_ret
          exact ⟨ret_bool (unhide HF).symm, cq⟩
      · have HRu := hide (fun X => show Calls Try.prog 67 #[.int .i64 3, .string B] X fun e w' => e = .returned (.iface 111 (.string B)) ∧ w' = X from ruleOf_yes 3 B X (by omega) (by omega))
        have hna : ∀ W, (nilAhead 253 111 (.string B) "loop.example/almanack/impl.lets").run Try.prog W = .ok (some false) W := fun W => rfl
        have hme : ∀ W, (method 253 111 (.string B) "loop.example/almanack/impl.lets").run Try.prog W = .ok (120, .string B) W := fun W => rfl
        clear hkd
        cases hq : prefB X B
        · have HLt := hide (fun W => show Calls Try.prog 120 #[.string B, .string X] W fun e w' => e = .returned (.bool false) ∧ w' = W from begin_lets B X false hq W)
          have HQ := hide (show letB (at' zs k) ls = false by rw [unhide HLB]; unfold letB; simp only [← unhide HXW]; rw [hq]; rfl)
          have HF := hide (show R = false by rw [unhide HML]; exact lets_no zs ls k (by have := unhide HN; omega) (unhide HQ))
          clear hq
          go_wp2_with fail
          rw [← unhide HW]
          refine region_cls (by kernel_rfl) (by kernel_rfl) ?_
          repeat (go_big_quiet_step ((first | (go_at_call 67; exact cls_same (unhide HRu _)) | (go_at_call 44; exact cls_call (Nat.le_refl _) (unhide HWu _)) | (go_at_call 120; exact cls_same (unhide HLt _)))))
          refine wpQuiet_nil ?_
          rintro wq ⟨⟨_, hq⟩, rfl⟩
          have cq := hWb.trans (hq.mono hWb.size)
          go_wp2
          go_ret
          exact ⟨ret_bool (unhide HF).symm, cq⟩
        · have HLt := hide (fun W => show Calls Try.prog 120 #[.string B, .string X] W fun e w' => e = .returned (.bool true) ∧ w' = W from begin_lets B X true hq W)
          have HQ := hide (show letB (at' zs k) ls = true by rw [unhide HLB]; unfold letB; simp only [← unhide HXW]; rw [hq]; rfl)
          have HS := hide (show letsTo zs ls (k + 1) = true by rw [letsTo_succ zs ls k (by have := unhide HN; omega), unhide HO, unhide HQ]; rfl)
          clear hq
          go_wp2_with fail
          rw [← unhide HW]
          refine region_cls (by kernel_rfl) (by kernel_rfl) ?_
          repeat (go_big_quiet_step ((first | (go_at_call 67; exact cls_same (unhide HRu _)) | (go_at_call 44; exact cls_call (Nat.le_refl _) (unhide HWu _)) | (go_at_call 120; exact cls_same (unhide HLt _)))))
          refine wpQuiet_nil ?_
          rintro wq ⟨⟨_, hq⟩, rfl⟩
          have cq := hWb.trans (hq.mono hWb.size)
          go_wp2
          go_roundw
          case rel => exact ⟨k + 1, by omega, by go_num, unhide HS, cq⟩
          case measure => simp [intOf]; omega
      · have HRu := hide (fun X => show Calls Try.prog 67 #[.int .i64 4, .string B] X fun e w' => e = .returned (.iface 112 (.string B)) ∧ w' = X from ruleOf_yes 4 B X (by omega) (by omega))
        have hna : ∀ W, (nilAhead 253 112 (.string B) "loop.example/almanack/impl.lets").run Try.prog W = .ok (some false) W := fun W => rfl
        have hme : ∀ W, (method 253 112 (.string B) "loop.example/almanack/impl.lets").run Try.prog W = .ok (123, .string B) W := fun W => rfl
        clear hkd
        cases hq : prefB X B
        · have HLt := hide (fun W => show Calls Try.prog 123 #[.string B, .string X] W fun e w' => e = .returned (.bool true) ∧ w' = W from never_lets B X false hq W)
          have HQ := hide (show letB (at' zs k) ls = true by rw [unhide HLB]; unfold letB; simp only [← unhide HXW]; rw [hq]; rfl)
          have HS := hide (show letsTo zs ls (k + 1) = true by rw [letsTo_succ zs ls k (by have := unhide HN; omega), unhide HO, unhide HQ]; rfl)
          clear hq
          go_wp2_with fail
          rw [← unhide HW]
          refine region_cls (by kernel_rfl) (by kernel_rfl) ?_
          repeat (go_big_quiet_step ((first | (go_at_call 67; exact cls_same (unhide HRu _)) | (go_at_call 44; exact cls_call (Nat.le_refl _) (unhide HWu _)) | (go_at_call 123; exact cls_same (unhide HLt _)))))
          refine wpQuiet_nil ?_
          rintro wq ⟨⟨_, hq⟩, rfl⟩
          have cq := hWb.trans (hq.mono hWb.size)
          go_wp2
          go_roundw
          case rel => exact ⟨k + 1, by omega, by go_num, unhide HS, cq⟩
          case measure => simp [intOf]; omega
        · have HLt := hide (fun W => show Calls Try.prog 123 #[.string B, .string X] W fun e w' => e = .returned (.bool false) ∧ w' = W from never_lets B X true hq W)
          have HQ := hide (show letB (at' zs k) ls = false by rw [unhide HLB]; unfold letB; simp only [← unhide HXW]; rw [hq]; rfl)
          have HF := hide (show R = false by rw [unhide HML]; exact lets_no zs ls k (by have := unhide HN; omega) (unhide HQ))
          clear hq
          go_wp2_with fail
          rw [← unhide HW]
          refine region_cls (by kernel_rfl) (by kernel_rfl) ?_
          repeat (go_big_quiet_step ((first | (go_at_call 67; exact cls_same (unhide HRu _)) | (go_at_call 44; exact cls_call (Nat.le_refl _) (unhide HWu _)) | (go_at_call 123; exact cls_same (unhide HLt _)))))
          refine wpQuiet_nil ?_
          rintro wq ⟨⟨_, hq⟩, rfl⟩
          have cq := hWb.trans (hq.mono hWb.size)
          go_wp2
          go_ret
          exact ⟨ret_bool (unhide HF).symm, cq⟩
    · have HF := hide (show R = true by rw [unhide HML]; exact lets_all zs ls (by rw [← unhide HN, show n = k from by omega]; exact unhide HO))
      go_wp2_with fail
      go_ret
      exact ⟨ret_bool (unhide HF).symm, hbel⟩
end Go.Proofs.Ytbkolpiekcifpaa.Mat

/- MatchesLet of the model, at every slice of matches and of labels. -/
namespace Go.Proofs.Ytbkolpiekcifpaa.Mat
open Go.RowKit Rw
set_option linter.unusedVariables false
attribute [local go_sem ↓] Go.wp_at_zero Go.wp_at_succ
set_option maxRecDepth 100000 in
set_option maxHeartbeats 4000000 in
theorem l3Let_any {w : World} {v : Value} {ls : List Lab.E} (K : Int) (A B : ByteArray) (h : Lab.Is w v ls) (hg : ∀ x ∈ ls, Lab.good x) (hB : B.size ≤ maxLen) :
    Calls Try.prog 73 #[.agg #[.int .i64 K, .string A, .string B], v] w fun e w' => e = .returned (.bool (letB (K, A, B) ls)) ∧ Below w.heap.size w w' := by
  have HU := hide (fun W (hb : Below w.heap.size w W) => l3Word_any A (h.below hb))
  have hXs := wordOf_size hg A
  obtain ⟨av, cv, ev⟩ : ∃ a c, v = .slice a ls.length c := by obtain ⟨-, a, c, e, -⟩ := h; exact ⟨a, c, e⟩
  subst ev
  clear h hg
  obtain ⟨R, hR⟩ : ∃ R, R = letB (K, A, B) ls := ⟨_, rfl⟩
  rw [← hR]
  unfold letB at hR
  simp only at hR
  have HR := hide hR
  clear hR
  generalize wordOf ls A = X at HU HR hXs
  unfold maxLen at hB hXs
  have HPE := hide (prefB_eq X B)
  obtain ⟨W, hW⟩ : ∃ W, W = w.alloc (.cells #[.int .i64 K, .string A, .string B] 42) := ⟨_, rfl⟩
  have hWb : Below w.heap.size w W := by rw [hW]; exact (Below.refl _ _).alloc (Nat.le_refl _) _
  have hWs : W.heap.size = w.heap.size + 1 := by rw [hW]; simp
  have q2 : ∀ x : Cls W.heap.size W, x.val.cell? ⟨w.heap.size, 2, none⟩ = some (.string B) := fun x => by rw [x.cell (by omega), hW]; simp
  have q0 : ∀ x : Cls W.heap.size W, x.val.cell? ⟨w.heap.size, 0, none⟩ = some (.int .i64 K) := fun x => by rw [x.cell (by omega), hW]; simp
  have HW := hide hW
  have HWs := hide hWs
  clear hW hWs
  have hne := cls_nonempty W.heap.size W
  have b0 : (0 : Int) ≤ (B.size : Int) := Int.natCast_nonneg _
  by_cases hlen : B.size ≤ X.size
  · have hge : (B.size : Int) ≤ (X.size : Int) := by omega
    cases hs : sameS (X.extract 0 B.size) B
    · have HPB := hide (show prefB X B = false by rw [unhide HPE, hs, decide_eq_true hlen]; rfl)
      have heq : ∀ W, (binOp .eql 9 (.string (X.extract 0 B.size)) (.string B)).run Try.prog W = .ok (.bool false) W := fun W => by rw [run_eqS, hs]
      have heq2 : ((X.extract 0 B.size).toList == B.toList) = false := hs
      clear hs
      go_enter Try.func73, Try.ntmps73
      go_wp2_with fail
      rw [← unhide HW]
      refine (unhide HU _ hWb).mono ?_
      rintro e w1 ⟨rfl, hw1⟩
      subst hw1
      go_wp2_with fail
      refine region_cls (by kernel_rfl) (by kernel_rfl) ?_
      repeat (go_big_quiet_step (fail))
      refine wpQuiet_nil ?_
      rintro wq ⟨⟨_, hq⟩, rfl⟩
      have k0 : wq.cell? ⟨w.heap.size, 0, none⟩ = some (.int .i64 K) := q0 ⟨wq, hq⟩
      have k2 : wq.cell? ⟨w.heap.size, 2, none⟩ = some (.string B) := q2 ⟨wq, hq⟩
      have cq := hWb.trans (hq.mono hWb.size)
      clear q0 q2 hq hne
      by_cases h1 : K = 1
      · subst h1
        have HF := hide (show R = sameS X B by rw [unhide HR]; rfl)
        go_wp2
        go_ret
        exact ⟨ret_bool (unhide HF).symm, cq⟩
      have e1 : (K == 1) = false := by simpa using h1
      by_cases h2 : K = 2
      · subst h2
        have HF := hide (show R = !sameS X B by rw [unhide HR]; rfl)
        go_wp2
        go_ret
        exact ⟨ret_bool (unhide HF).symm, cq⟩
      have e2 : (K == 2) = false := by simpa using h2
      by_cases h3 : K = 3
      · subst h3
        have HF := hide (show R = false by rw [unhide HR]; exact unhide HPB)
        go_wp2
        go_ret
        exact ⟨ret_bool (unhide HF).symm, cq⟩
      have e3 : (K == 3) = false := by simpa using h3
      have HF := hide (show R = true by rw [unhide HR, if_neg h1, if_neg h2, if_neg h3, unhide HPB]; rfl)
      go_wp2
      go_ret
      exact ⟨ret_bool (unhide HF).symm, cq⟩
    · have HPB := hide (show prefB X B = true by rw [unhide HPE, hs, decide_eq_true hlen]; rfl)
      have heq : ∀ W, (binOp .eql 9 (.string (X.extract 0 B.size)) (.string B)).run Try.prog W = .ok (.bool true) W := fun W => by rw [run_eqS, hs]
      have heq2 : ((X.extract 0 B.size).toList == B.toList) = true := hs
      clear hs
      go_enter Try.func73, Try.ntmps73
      go_wp2_with fail
      rw [← unhide HW]
      refine (unhide HU _ hWb).mono ?_
      rintro e w1 ⟨rfl, hw1⟩
      subst hw1
      go_wp2_with fail
      refine region_cls (by kernel_rfl) (by kernel_rfl) ?_
      repeat (go_big_quiet_step (fail))
      refine wpQuiet_nil ?_
      rintro wq ⟨⟨_, hq⟩, rfl⟩
      have k0 : wq.cell? ⟨w.heap.size, 0, none⟩ = some (.int .i64 K) := q0 ⟨wq, hq⟩
      have k2 : wq.cell? ⟨w.heap.size, 2, none⟩ = some (.string B) := q2 ⟨wq, hq⟩
      have cq := hWb.trans (hq.mono hWb.size)
      clear q0 q2 hq hne
      by_cases h1 : K = 1
      · subst h1
        have HF := hide (show R = sameS X B by rw [unhide HR]; rfl)
        go_wp2
        go_ret
        exact ⟨ret_bool (unhide HF).symm, cq⟩
      have e1 : (K == 1) = false := by simpa using h1
      by_cases h2 : K = 2
      · subst h2
        have HF := hide (show R = !sameS X B by rw [unhide HR]; rfl)
        go_wp2
        go_ret
        exact ⟨ret_bool (unhide HF).symm, cq⟩
      have e2 : (K == 2) = false := by simpa using h2
      by_cases h3 : K = 3
      · subst h3
        have HF := hide (show R = true by rw [unhide HR]; exact unhide HPB)
        go_wp2
        go_ret
        exact ⟨ret_bool (unhide HF).symm, cq⟩
      have e3 : (K == 3) = false := by simpa using h3
      have HF := hide (show R = false by rw [unhide HR, if_neg h1, if_neg h2, if_neg h3, unhide HPB]; rfl)
      go_wp2
      go_ret
      exact ⟨ret_bool (unhide HF).symm, cq⟩
  · have hge : decide ((B.size : Int) ≤ (X.size : Int)) = false := by simp; omega
    have HPB := hide (show prefB X B = false by rw [unhide HPE, decide_eq_false hlen]; rfl)
    go_enter Try.func73, Try.ntmps73
    go_wp2_with fail
    rw [← unhide HW]
    refine (unhide HU _ hWb).mono ?_
    rintro e w1 ⟨rfl, hw1⟩
    subst hw1
    go_wp2_with fail
    refine region_cls (by kernel_rfl) (by kernel_rfl) ?_
    repeat (go_big_quiet_step (fail))
    refine wpQuiet_nil ?_
    rintro wq ⟨⟨_, hq⟩, rfl⟩
    have k0 : wq.cell? ⟨w.heap.size, 0, none⟩ = some (.int .i64 K) := q0 ⟨wq, hq⟩
    have k2 : wq.cell? ⟨w.heap.size, 2, none⟩ = some (.string B) := q2 ⟨wq, hq⟩
    have cq := hWb.trans (hq.mono hWb.size)
    clear q0 q2 hq hne
    by_cases h1 : K = 1
    · subst h1
      have HF := hide (show R = sameS X B by rw [unhide HR]; rfl)
      go_wp2
      go_ret
      exact ⟨ret_bool (unhide HF).symm, cq⟩
    have e1 : (K == 1) = false := by simpa using h1
    by_cases h2 : K = 2
    · subst h2
      have HF := hide (show R = !sameS X B by rw [unhide HR]; rfl)
      go_wp2
      go_ret
      exact ⟨ret_bool (unhide HF).symm, cq⟩
    have e2 : (K == 2) = false := by simpa using h2
    by_cases h3 : K = 3
    · subst h3
      have HF := hide (show R = false by rw [unhide HR]; exact unhide HPB)
      go_wp2
      go_ret
      exact ⟨ret_bool (unhide HF).symm, cq⟩
    have e3 : (K == 3) = false := by simpa using h3
    have HF := hide (show R = true by rw [unhide HR, if_neg h1, if_neg h2, if_neg h3, unhide HPB]; rfl)
    go_wp2
    go_ret
    exact ⟨ret_bool (unhide HF).symm, cq⟩
end Go.Proofs.Ytbkolpiekcifpaa.Mat
