/- My own texts of one claim, laid together by program: Let, Let2. -/
import Derived.Test.YtdggffcibcggoaaG130b5cbe0a
/- The word under a name; what a rule lets; MatchesLet of the program. -/
namespace Go.Proofs.Ytdggffcibcggoaa.Mat
open Go.RowKit Rw
set_option linter.unusedVariables false
attribute [local go_sem ↓] Go.wp_at_zero Go.wp_at_succ
theorem run_eqS (a b : ByteArray) (W : World) : (binOp .eql 9 (.string a) (.string b)).run Try.prog W = .ok (.bool (sameS a b)) W := rfl
set_option maxRecDepth 100000 in
set_option maxHeartbeats 2000000 in
theorem wordUnder_any {w : World} {v : Value} {ls : List Lab.E} (nm : ByteArray) (h : Lab.Is w v ls) :
    Calls Try.prog 99 #[v, .string nm] w fun e w' => e = .returned (.string (wordOf ls nm)) ∧ Below w.heap.size w w' := by
  obtain ⟨-, a, cap, rfl, hc, hm, -, hr⟩ := h
  unfold maxLen at hm
  obtain ⟨n, hn⟩ : ∃ n, n = ls.length := ⟨_, rfl⟩
  rw [← hn] at hc hr ⊢
  have HN := hide hn
  clear hn
  obtain ⟨R, hR⟩ : ∃ R, R = wordOf ls nm := ⟨_, rfl⟩
  rw [← hR]
  have HR := hide hR
  clear hR
  go_enter Try.func99, Try.ntmps99
  go_wp2_with fail
  go_loopw [9] (fun i wr => ∃ k : Nat, k ≤ n ∧ i = .int .i64 k ∧ (ls.take k).find? (fun x => sameS x.1 nm) = none ∧ Below w.heap.size w wr) (fun i _ => n - (intOf i).toNat)
  case atStart => exact ⟨0, Nat.zero_le _, rfl, rfl, Below.refl _ _⟩
  case round =>
    obtain ⟨k, hk, rfl, hno, hbel⟩ := hrel
    have HO := hide hno
    clear hno
    have hsz := hbel.size
    by_cases hlt : k < n
    · obtain ⟨b, off, rfl, hl, hcells⟩ := hr (by omega)
      have fa := Lab.flat_at ls k (by have := unhide HN; omega)
      obtain ⟨A, B, hX⟩ : ∃ A B, (A, B) = Lab.at' ls k := ⟨_, _, rfl⟩
      rw [← hX] at fa
      have hc0 : wr.cell? ⟨b, off + k * 2, none⟩ = some (.string A) := (hbel.cell (p := ⟨b, _, none⟩) hl).trans (hcells (k * 2) _ fa.1)
      have hc1 : wr.cell? ⟨b, off + k * 2 + 1, none⟩ = some (.string B) := (hbel.cell (p := ⟨b, _, none⟩) hl).trans (hcells (k * 2 + 1) _ fa.2)
      have HX := hide hX
      clear hX fa
      have hk0 : (0 : Int) ≤ (k : Int) := Int.natCast_nonneg _
      have hk1 : (k : Int) < (n : Int) := by omega
      cases hs : sameS A nm
      · have HF := hide (find_none ls nm k (by have := unhide HN; omega) (unhide HO) (by rw [← unhide HX]; exact hs))
        have l1 : (A.toList == nm.toList) = false := hs
        clear hs
        go_wp2_with fail
        go_roundw
        case rel => exact ⟨k + 1, by omega, by go_num, unhide HF, hbel.alloc hsz _⟩
        case measure => simp [intOf]; omega
      · have HF := hide (show R = B by rw [unhide HR, word_hit ls nm k (by have := unhide HN; omega) (unhide HO) (by rw [← unhide HX]; exact hs), ← unhide HX])
        have e := sameS_iff.1 hs
        subst e
        clear hs
        go_wp2_with fail
        go_ret
        exact ⟨ret_string (unhide HF).symm, hbel.alloc hsz _⟩
    · have HF := hide (show R = ByteArray.empty by
        rw [unhide HR]
        have := unhide HO
        rw [List.take_of_length_le (by have := unhide HN; omega)] at this
        exact word_miss ls nm this)
      have hkf : decide ((k : Int) < (n : Int)) = false := by simp; omega
      go_wp2_with fail
      go_ret
      exact ⟨ret_string (unhide HF).symm, hbel⟩
set_option maxRecDepth 100000 in
set_option maxHeartbeats 2000000 in
theorem l3Word_any {w : World} {v : Value} {ls : List Lab.E} (nm : ByteArray) (h : Lab.Is w v ls) :
    Calls Try.prog 165 #[v, .string nm] w fun e w' => e = .returned (.string (wordOf ls nm)) ∧ w' = w := by
  obtain ⟨-, a, cap, rfl, hc, hm, -, hr⟩ := h
  unfold maxLen at hm
  obtain ⟨n, hn⟩ : ∃ n, n = ls.length := ⟨_, rfl⟩
  rw [← hn] at hc hr ⊢
  have HN := hide hn
  clear hn
  obtain ⟨R, hR⟩ : ∃ R, R = wordOf ls nm := ⟨_, rfl⟩
  rw [← hR]
  have HR := hide hR
  clear hR
  go_enter Try.func165, Try.ntmps165
  go_wp2_with fail
  go_loop [5] (fun i => ∃ k : Nat, k ≤ n ∧ i = .int .i64 k ∧ (ls.take k).find? (fun x => sameS x.1 nm) = none) (fun i => n - (intOf i).toNat)
  case atStart => exact ⟨0, Nat.zero_le _, rfl, rfl⟩
  case round =>
    obtain ⟨k, hk, rfl, hno⟩ := hrel
    have HO := hide hno
    clear hno
    by_cases hlt : k < n
    · obtain ⟨b, off, rfl, hl, hcells⟩ := hr (by omega)
      have fa := Lab.flat_at ls k (by have := unhide HN; omega)
      obtain ⟨A, B, hX⟩ : ∃ A B, (A, B) = Lab.at' ls k := ⟨_, _, rfl⟩
      rw [← hX] at fa
      have hc0 : w.cell? ⟨b, off + k * 2, none⟩ = some (.string A) := hcells (k * 2) _ fa.1
      have hc1 : w.cell? ⟨b, off + k * 2 + 1, none⟩ = some (.string B) := hcells (k * 2 + 1) _ fa.2
      have HX := hide hX
      clear hX fa
      have hk0 : (0 : Int) ≤ (k : Int) := Int.natCast_nonneg _
      have hk1 : (k : Int) < (n : Int) := by omega
      cases hs : sameS A nm
      · have HF := hide (find_none ls nm k (by have := unhide HN; omega) (unhide HO) (by rw [← unhide HX]; exact hs))
        have l1 : (A.toList == nm.toList) = false := hs
        clear hs
        go_wp2_with fail
        go_round
        case rel => exact ⟨k + 1, by omega, by go_num, unhide HF⟩
        case measure => simp [intOf]; omega
      · have HF := hide (show R = B by rw [unhide HR, word_hit ls nm k (by have := unhide HN; omega) (unhide HO) (by rw [← unhide HX]; exact hs), ← unhide HX])
        have e := sameS_iff.1 hs
        subst e
        clear hs
        go_wp2_with fail
        go_ret
        exact ⟨ret_string (unhide HF).symm, rfl⟩
    · have HF := hide (show R = ByteArray.empty by
        rw [unhide HR]
        have := unhide HO
        rw [List.take_of_length_le (by have := unhide HN; omega)] at this
        exact word_miss ls nm this)
      have hkf : decide ((k : Int) < (n : Int)) = false := by simp; omega
      go_wp2_with fail
      go_ret
      exact ⟨ret_string (unhide HF).symm, rfl⟩
theorem is_lets (r x : ByteArray) (q : Bool) (h : sameS x r = q) (w : World) : Calls Try.prog 194 #[.string r, .string x] w fun e w' => e = .returned (.bool q) ∧ w' = w := by
  have HH := hide h
  go_enter Try.func194, Try.ntmps194
  go_wp2
  go_ret
  exact ⟨ret_bool (unhide HH), rfl⟩
theorem not_lets (r x : ByteArray) (q : Bool) (h : sameS x r = q) (w : World) : Calls Try.prog 195 #[.string r, .string x] w fun e w' => e = .returned (.bool (!q)) ∧ w' = w := by
  have HH := hide h
  go_enter Try.func195, Try.ntmps195
  go_wp2
  go_ret
  exact ⟨ret_bool (by rw [← unhide HH]; rfl), rfl⟩
theorem begin_lets (r x : ByteArray) (q : Bool) (h : prefB x r = q) (w : World) : Calls Try.prog 196 #[.string r, .string x] w fun e w' => e = .returned (.bool q) ∧ w' = w := by
  have H := hide (show Calls Try.prog 197 #[.string x, .string r] w fun e w' => e = .returned (.bool q) ∧ w' = w from by rw [← h]; exact Try.strings_HasPrefix x r w)
  go_enter Try.func196, Try.ntmps196
  go_wp2_with fail
  refine (unhide H).mono ?_
  rintro e w1 ⟨rfl, hw⟩
  subst hw
  go_wp2_with fail
  go_ret
  exact ⟨rfl, rfl⟩
theorem never_lets (r x : ByteArray) (q : Bool) (h : prefB x r = q) (w : World) : Calls Try.prog 199 #[.string r, .string x] w fun e w' => e = .returned (.bool (!q)) ∧ w' = w := by
  have H := hide (show Calls Try.prog 197 #[.string x, .string r] w fun e w' => e = .returned (.bool q) ∧ w' = w from by rw [← h]; exact Try.strings_HasPrefix x r w)
  go_enter Try.func199, Try.ntmps199
  go_wp2_with fail
  refine (unhide H).mono ?_
  rintro e w1 ⟨rfl, hw⟩
  subst hw
  go_wp2_with fail
  go_ret
  exact ⟨rfl, rfl⟩
end Go.Proofs.Ytdggffcibcggoaa.Mat

/- MatchesLet of the program, at every slice of matches and of labels. -/
namespace Go.Proofs.Ytdggffcibcggoaa.Mat
open Go.RowKit Rw
set_option linter.unusedVariables false
attribute [local go_sem ↓] Go.wp_at_zero Go.wp_at_succ
set_option maxRecDepth 100000 in
set_option maxHeartbeats 2000000 in
theorem impl_let {w : World} {v u : Value} {zs : List E} {ls : List Lab.E} (h : Is w v zs) (h' : Lab.Is w u ls) (hg : ∀ x ∈ zs, good x) (hg' : ∀ x ∈ ls, Lab.good x) (hz : zs.length ≤ maxLen) :
    Calls Try.prog 40 #[v, u] w fun e w' => e = .returned (.bool (mlet zs ls)) ∧ Below w.heap.size w w' := by
  have H1 := hide (impl_ok h hg hz)
  have H2 := hide (fun W (hb : Below w.heap.size w W) => Lab.impl_ok (h'.below hb) hg')
  have HU := hide (fun nm W (hb : Below w.heap.size w W) => wordUnder_any nm (h'.below hb))
  obtain ⟨au, cu, eu⟩ : ∃ a c, u = .slice a ls.length c := by obtain ⟨-, a, c, e, -⟩ := h'; exact ⟨a, c, e⟩
  subst eu
  clear h' hg'
  cases ho : ok zs
  · have HR := hide (show mlet zs ls = false by unfold mlet; rw [ho]; rfl)
    rw [ho] at H1
    clear ho
    go_enter Try.func40, Try.ntmps40
    go_wp2_with fail
    refine (unhide H1).mono ?_
    rintro e w1 ⟨rfl, b1⟩
    go_wp2_with fail
    go_ret
    exact ⟨ret_bool (unhide HR).symm, b1⟩
  rw [ho] at H1
  cases ho' : Lab.ok ls
  · have HR := hide (show mlet zs ls = false by unfold mlet; rw [ho', Bool.and_false]; rfl)
    rw [ho'] at H2
    clear ho ho'
    go_enter Try.func40, Try.ntmps40
    go_wp2_with fail
    refine (unhide H1).mono ?_
    rintro e w1 ⟨rfl, b1⟩
    go_wp2_with fail
    refine (unhide H2 _ b1).mono ?_
    rintro e w2 ⟨rfl, b2⟩
    have c2 := b1.trans (b2.mono b1.size)
    go_wp2_with fail
    go_ret
    exact ⟨ret_bool (unhide HR).symm, c2⟩
  rw [ho'] at H2
  have HML := hide (show mlet zs ls = lets zs ls by unfold mlet; rw [ho, ho']; rfl)
  have HOK := hide ho
  clear ho ho' hg
  obtain ⟨-, a, cap, rfl, hc, hm, -, hr⟩ := h
  unfold maxLen at hm hz
  obtain ⟨n, hn⟩ : ∃ n, n = zs.length := ⟨_, rfl⟩
  rw [← hn] at hc hr hz H1 ⊢
  have HN := hide hn
  clear hn
  obtain ⟨R, hR⟩ : ∃ R, R = mlet zs ls := ⟨_, rfl⟩
  rw [← hR]
  rw [← hR] at HML
  clear hR
  go_enter Try.func40, Try.ntmps40
  go_wp2_with fail
  refine (unhide H1).mono ?_
  rintro e w1 ⟨rfl, b1⟩
  go_wp2_with fail
  refine (unhide H2 _ b1).mono ?_
  rintro e w2 ⟨rfl, b2⟩
  have c2 := b1.trans (b2.mono b1.size)
  clear b1 b2 H1 H2
  go_wp2_with fail
  go_loopw [17] (fun i wr => ∃ k : Nat, k ≤ n ∧ i = .int .i64 k ∧ letsTo zs ls k = true ∧ Below w.heap.size w wr) (fun i _ => n - (intOf i).toNat)
  case atStart => exact ⟨0, Nat.zero_le _, rfl, rfl, c2⟩
  case round =>
    clear c2
    obtain ⟨k, hk, rfl, hok, hbel⟩ := hrel
    have HO := hide hok
    clear hok
    have hsz := hbel.size
    by_cases hlt : k < n
    · obtain ⟨b, off, rfl, hl, hcells⟩ := hr (by omega)
      have fa := flat_at zs k (by have := unhide HN; omega)
      have hkd := ok_kind (unhide HOK) (k := k) (by have := unhide HN; omega)
      obtain ⟨KK, A, B, hX⟩ : ∃ K A B, (K, A, B) = at' zs k := ⟨_, _, _, rfl⟩
      rw [← hX] at fa hkd
      have hc0 : wr.cell? ⟨b, off + k * 3, none⟩ = some (.int .i64 KK) := (hbel.cell (p := ⟨b, _, none⟩) hl).trans (hcells (k * 3) _ fa.1)
      have hc1 : wr.cell? ⟨b, off + k * 3 + 1, none⟩ = some (.string A) := (hbel.cell (p := ⟨b, _, none⟩) hl).trans (hcells (k * 3 + 1) _ fa.2.1)
      have hc2 : wr.cell? ⟨b, off + k * 3 + 2, none⟩ = some (.string B) := (hbel.cell (p := ⟨b, _, none⟩) hl).trans (hcells (k * 3 + 2) _ fa.2.2)
      have HX := hide hX
      clear hX fa
      have hk0 : (0 : Int) ≤ (k : Int) := Int.natCast_nonneg _
      have hk1 : (k : Int) < (n : Int) := by omega
      obtain ⟨W, hW⟩ : ∃ W, W = wr.alloc (.cells #[.int .i64 KK, .string A, .string B] 119) := ⟨_, rfl⟩
      have hWb : Below w.heap.size w W := by rw [hW]; exact hbel.alloc hsz _
      have hWs : W.heap.size = wr.heap.size + 1 := by rw [hW]; simp
      have q0 : ∀ x : Cls W.heap.size W, x.val.cell? ⟨wr.heap.size, 0, none⟩ = some (.int .i64 KK) := fun x => by rw [x.cell (by omega), hW]; simp
      have q1 : ∀ x : Cls W.heap.size W, x.val.cell? ⟨wr.heap.size, 1, none⟩ = some (.string A) := fun x => by rw [x.cell (by omega), hW]; simp
      have q2 : ∀ x : Cls W.heap.size W, x.val.cell? ⟨wr.heap.size, 2, none⟩ = some (.string B) := fun x => by rw [x.cell (by omega), hW]; simp
      have HWs := hide hWs
      have HW := hide hW
      clear hW hWs
      have hne := cls_nonempty W.heap.size W
      have HWu := hide (fun (x : Cls W.heap.size W) => unhide HU A x.val (hWb.trans (x.isBelow.mono hWb.size)))
      have HLB := hide (show letB (at' zs k) ls = letB (KK, A, B) ls by rw [← unhide HX])
      obtain ⟨X, hXw⟩ : ∃ X, X = wordOf ls A := ⟨_, rfl⟩
      rw [← hXw] at HWu
      have HXW := hide hXw
      clear hXw
      rcases (show KK = 1 ∨ KK = 2 ∨ KK = 3 ∨ KK = 4 from by have := hkd.1; have := hkd.2; simp only at *; omega) with rfl | rfl | rfl | rfl
      · have HRu := hide (fun X => show Calls Try.prog 98 #[.int .i64 1, .string B] X fun e w' => e = .returned (.iface 160 (.string B)) ∧ w' = X from ruleOf_yes 1 B X (by omega) (by omega))
        have hna : ∀ W, (nilAhead 311 160 (.string B) "loop.example/almanack/impl.lets").run Try.prog W = .ok (some false) W := fun W => rfl
        have hme : ∀ W, (method 311 160 (.string B) "loop.example/almanack/impl.lets").run Try.prog W = .ok (194, .string B) W := fun W => rfl
        clear hkd
        cases hq : sameS X B
        · have HLt := hide (fun W => show Calls Try.prog 194 #[.string B, .string X] W fun e w' => e = .returned (.bool false) ∧ w' = W from is_lets B X false hq W)
          have HQ := hide (show letB (at' zs k) ls = false by rw [unhide HLB]; unfold letB; simp only [← unhide HXW]; rw [hq]; rfl)
          have HF := hide (show R = false by rw [unhide HML]; exact lets_no zs ls k (by have := unhide HN; omega) (unhide HQ))
          clear hq
          go_wp2_with fail
          rw [← unhide HW]
          refine region_cls (by kernel_rfl) (by kernel_rfl) ?_
          repeat (go_big_quiet_step ((first | (go_at_call 98; exact cls_same (unhide HRu _)) | (go_at_call 99; exact cls_call (Nat.le_refl _) (unhide HWu _)) | (go_at_call 194; exact cls_same (unhide HLt _)))))
          refine wpQuiet_nil ?_
          rintro wq ⟨⟨_, hq⟩, rfl⟩
          have cq := hWb.trans (hq.mono hWb.size)
          go_wp2
          go_ret
          exact ⟨ret_bool (unhide HF).symm, cq⟩
        · have HLt := hide (fun W => show Calls Try.prog 194 #[.string B, .string X] W fun e w' => e = .returned (.bool true) ∧ w' = W from is_lets B X true hq W)
          have HQ := hide (show letB (at' zs k) ls = true by rw [unhide HLB]; unfold letB; simp only [← unhide HXW]; rw [hq]; rfl)
          have HS := hide (show letsTo zs ls (k + 1) = true by rw [letsTo_succ zs ls k (by have := unhide HN; omega), unhide HO, unhide HQ]; rfl)
          clear hq
          go_wp2_with fail
          rw [← unhide HW]
          refine region_cls (by kernel_rfl) (by kernel_rfl) ?_
          repeat (go_big_quiet_step ((first | (go_at_call 98; exact cls_same (unhide HRu _)) | (go_at_call 99; exact cls_call (Nat.le_refl _) (unhide HWu _)) | (go_at_call 194; exact cls_same (unhide HLt _)))))
          refine wpQuiet_nil ?_
          rintro wq ⟨⟨_, hq⟩, rfl⟩
          have cq := hWb.trans (hq.mono hWb.size)
          go_wp2
          go_roundw
          case rel => exact ⟨k + 1, by omega, by go_num, unhide HS, cq⟩
          case measure => simp [intOf]; omega
      · have HRu := hide (fun X => show Calls Try.prog 98 #[.int .i64 2, .string B] X fun e w' => e = .returned (.iface 161 (.string B)) ∧ w' = X from ruleOf_yes 2 B X (by omega) (by omega))
        have hna : ∀ W, (nilAhead 311 161 (.string B) "loop.example/almanack/impl.lets").run Try.prog W = .ok (some false) W := fun W => rfl
        have hme : ∀ W, (method 311 161 (.string B) "loop.example/almanack/impl.lets").run Try.prog W = .ok (195, .string B) W := fun W => rfl
        clear hkd
        cases hq : sameS X B
        · have HLt := hide (fun W => show Calls Try.prog 195 #[.string B, .string X] W fun e w' => e = .returned (.bool true) ∧ w' = W from not_lets B X false hq W)
          have HQ := hide (show letB (at' zs k) ls = true by rw [unhide HLB]; unfold letB; simp only [← unhide HXW]; rw [hq]; rfl)
          have HS := hide (show letsTo zs ls (k + 1) = true by rw [letsTo_succ zs ls k (by have := unhide HN; omega), unhide HO, unhide HQ]; rfl)
          clear hq
          go_wp2_with fail
          rw [← unhide HW]
          refine region_cls (by kernel_rfl) (by kernel_rfl) ?_
          repeat (go_big_quiet_step ((first | (go_at_call 98; exact cls_same (unhide HRu _)) | (go_at_call 99; exact cls_call (Nat.le_refl _) (unhide HWu _)) | (go_at_call 195; exact cls_same (unhide HLt _)))))
          refine wpQuiet_nil ?_
          rintro wq ⟨⟨_, hq⟩, rfl⟩
          have cq := hWb.trans (hq.mono hWb.size)
          go_wp2
          go_roundw
          case rel => exact ⟨k + 1, by omega, by go_num, unhide HS, cq⟩
          case measure => simp [intOf]; omega
        · have HLt := hide (fun W => show Calls Try.prog 195 #[.string B, .string X] W fun e w' => e = .returned (.bool false) ∧ w' = W from not_lets B X true hq W)
          have HQ := hide (show letB (at' zs k) ls = false by rw [unhide HLB]; unfold letB; simp only [← unhide HXW]; rw [hq]; rfl)
          have HF := hide (show R = false by rw [unhide HML]; exact lets_no zs ls k (by have := unhide HN; omega) (unhide HQ))
          clear hq
          go_wp2_with fail
          rw [← unhide HW]
          refine region_cls (by kernel_rfl) (by kernel_rfl) ?_
          repeat (go_big_quiet_step ((first | (go_at_call 98; exact cls_same (unhide HRu _)) | (go_at_call 99; exact cls_call (Nat.le_refl _) (unhide HWu _)) | (go_at_call 195; exact cls_same (unhide HLt _)))))
          refine wpQuiet_nil ?_
          rintro wq ⟨⟨_, hq⟩, rfl⟩
          have cq := hWb.trans (hq.mono hWb.size)
          go_wp2
          go_ret
          exact ⟨ret_bool (unhide HF).symm, cq⟩
      · have HRu := hide (fun X => show Calls Try.prog 98 #[.int .i64 3, .string B] X fun e w' => e = .returned (.iface 162 (.string B)) ∧ w' = X from ruleOf_yes 3 B X (by omega) (by omega))
        have hna : ∀ W, (nilAhead 311 162 (.string B) "loop.example/almanack/impl.lets").run Try.prog W = .ok (some false) W := fun W => rfl
        have hme : ∀ W, (method 311 162 (.string B) "loop.example/almanack/impl.lets").run Try.prog W = .ok (196, .string B) W := fun W => rfl
        clear hkd
        cases hq : prefB X B
        · have HLt := hide (fun W => show Calls Try.prog 196 #[.string B, .string X] W fun e w' => e = .returned (.bool false) ∧ w' = W from begin_lets B X false hq W)
          have HQ := hide (show letB (at' zs k) ls = false by rw [unhide HLB]; unfold letB; simp only [← unhide HXW]; rw [hq]; rfl)
          have HF := hide (show R = false by rw [unhide HML]; exact lets_no zs ls k (by have := unhide HN; omega) (unhide HQ))
          clear hq
          go_wp2_with fail
          rw [← unhide HW]
          refine region_cls (by kernel_rfl) (by kernel_rfl) ?_
          repeat (go_big_quiet_step ((first | (go_at_call 98; exact cls_same (unhide HRu _)) | (go_at_call 99; exact cls_call (Nat.le_refl _) (unhide HWu _)) | (go_at_call 196; exact cls_same (unhide HLt _)))))
          refine wpQuiet_nil ?_
          rintro wq ⟨⟨_, hq⟩, rfl⟩
          have cq := hWb.trans (hq.mono hWb.size)
          go_wp2
          go_ret
          exact ⟨ret_bool (unhide HF).symm, cq⟩
        · have HLt := hide (fun W => show Calls Try.prog 196 #[.string B, .string X] W fun e w' => e = .returned (.bool true) ∧ w' = W from begin_lets B X true hq W)
          have HQ := hide (show letB (at' zs k) ls = true by rw [unhide HLB]; unfold letB; simp only [← unhide HXW]; rw [hq]; rfl)
          have HS := hide (show letsTo zs ls (k + 1) = true by rw [letsTo_succ zs ls k (by have := unhide HN; omega), unhide HO, unhide HQ]; rfl)
          clear hq
          go_wp2_with fail
          rw [← unhide HW]
          refine region_cls (by kernel_rfl) (by kernel_rfl) ?_
          repeat (go_big_quiet_step ((first | (go_at_call 98; exact cls_same (unhide HRu _)) | (go_at_call 99; exact cls_call (Nat.le_refl _) (unhide HWu _)) | (go_at_call 196; exact cls_same (unhide HLt _)))))
          refine wpQuiet_nil ?_
          rintro wq ⟨⟨_, hq⟩, rfl⟩
          have cq := hWb.trans (hq.mono hWb.size)
          go_wp2
          go_roundw
          case rel => exact ⟨k + 1, by omega, by go_num, unhide HS, cq⟩
          case measure => simp [intOf]; omega
      · have HRu := hide (fun X => show Calls Try.prog 98 #[.int .i64 4, .string B] X fun e w' => e = .returned (.iface 163 (.string B)) ∧ w' = X from ruleOf_yes 4 B X (by omega) (by omega))
        have hna : ∀ W, (nilAhead 311 163 (.string B) "loop.example/almanack/impl.lets").run Try.prog W = .ok (some false) W := fun W => rfl
        have hme : ∀ W, (method 311 163 (.string B) "loop.example/almanack/impl.lets").run Try.prog W = .ok (199, .string B) W := fun W => rfl
        clear hkd
        cases hq : prefB X B
        · have HLt := hide (fun W => show Calls Try.prog 199 #[.string B, .string X] W fun e w' => e = .returned (.bool true) ∧ w' = W from never_lets B X false hq W)
          have HQ := hide (show letB (at' zs k) ls = true by rw [unhide HLB]; unfold letB; simp only [← unhide HXW]; rw [hq]; rfl)
          have HS := hide (show letsTo zs ls (k + 1) = true by rw [letsTo_succ zs ls k (by have := unhide HN; omega), unhide HO, unhide HQ]; rfl)
          clear hq
          go_wp2_with fail
          rw [← unhide HW]
          refine region_cls (by kernel_rfl) (by kernel_rfl) ?_
          repeat (go_big_quiet_step ((first | (go_at_call 98; exact cls_same (unhide HRu _)) | (go_at_call 99; exact cls_call (Nat.le_refl _) (unhide HWu _)) | (go_at_call 199; exact cls_same (unhide HLt _)))))
          refine wpQuiet_nil ?_
          rintro wq ⟨⟨_, hq⟩, rfl⟩
          have cq := hWb.trans (hq.mono hWb.size)
          go_wp2
          go_roundw
          case rel => exact ⟨k + 1, by omega, by go_num, unhide HS, cq⟩
          case measure => simp [intOf]; omega
        · have HLt := hide (fun W => show Calls Try.prog 199 #[.string B, .string X] W fun e w' => e = .returned (.bool false) ∧ w' = W from never_lets B X true hq W)
          have HQ := hide (show letB (at' zs k) ls = false by rw [unhide HLB]; unfold letB; simp only [← unhide HXW]; rw [hq]; rfl)
          have HF := hide (show R = false by rw [unhide HML]; exact lets_no zs ls k (by have := unhide HN; omega) (unhide HQ))
          clear hq
          go_wp2_with fail
          rw [← unhide HW]
          refine region_cls (by kernel_rfl) (by kernel_rfl) ?_
          repeat (go_big_quiet_step ((first | (go_at_call 98; exact cls_same (unhide HRu _)) | (go_at_call 99; exact cls_call (Nat.le_refl _) (unhide HWu _)) | (go_at_call 199; exact cls_same (unhide HLt _)))))
          refine wpQuiet_nil ?_
          rintro wq ⟨⟨_, hq⟩, rfl⟩
          have cq := hWb.trans (hq.mono hWb.size)
          go_wp2
          go_ret
          exact ⟨ret_bool (unhide HF).symm, cq⟩
    · have HF := hide (show R = true by rw [unhide HML]; exact lets_all zs ls (by rw [← unhide HN, show n = k from by omega]; exact unhide HO))
      go_wp2_with fail
      go_ret
      exact ⟨ret_bool (unhide HF).symm, hbel⟩
end Go.Proofs.Ytdggffcibcggoaa.Mat
