/- My own texts of one claim, laid together by program: LabCmp2, LabCmp3, RowOk, Let. -/
import Derived.Test.YtncjagdnebpaaaaG6719f0bc30
import Derived.Test.YtncjagdnebpaaaaG4464f45ed3
import Derived.Test.YtncjagdnebpaaaaG0b5a214c69
/- LabelsCmp, of the program and of the model, at every two slices of labels. -/
namespace Go.Proofs.Ytncjagdnebpaaaa.Lab
open Go.RowKit Rw
set_option linter.unusedVariables false
attribute [local go_sem ↓] Go.wp_at_zero Go.wp_at_succ
theorem ag {zs : List E} {k : Nat} (h : k < zs.length) (A B : ByteArray) (e : (A, B) = at' zs k) : (flat zs)[k * 2]? = some (.string A) ∧ (flat zs)[k * 2 + 1]? = some (.string B) := by
  have := flat_at zs k h
  rwa [← e] at this
set_option maxRecDepth 100000 in
set_option maxHeartbeats 4000000 in
theorem compareFunc_any {w : World} {v u : Value} {zs ys : List E} (h : Is w v zs) (h' : Is w u ys) :
    Calls Try.prog 50 #[v, u, .func (.func 51) #[] #[]] w fun e w' => e = .returned (.int .i64 (cmpL zs ys)) ∧ Below w.heap.size w w' := by
  obtain ⟨-, a, cap, rfl, hc, hm, -, hr⟩ := h
  obtain ⟨-, a', cap', rfl, hc', hm', -, hr'⟩ := h'
  unfold maxLen at hm hm'
  obtain ⟨n, hn⟩ : ∃ n, n = zs.length := ⟨_, rfl⟩
  obtain ⟨m, hmm⟩ : ∃ m, m = ys.length := ⟨_, rfl⟩
  rw [← hn] at hc hr ⊢
  rw [← hmm] at hc' hr' ⊢
  have HN := hide hn
  have HM := hide hmm
  clear hn hmm
  obtain ⟨R, hR⟩ : ∃ R, R = cmpL zs ys := ⟨_, rfl⟩
  rw [← hR]
  have HR := hide hR
  clear hR
  go_enter Try.func50, Try.ntmps50
  go_wp2_with fail
  go_loopw [13] (fun i wr => ∃ k : Nat, k ≤ n ∧ k ≤ m ∧ i = .int .i64 k ∧ CLeft zs ys k ∧ Below w.heap.size w wr) (fun i _ => n - (intOf i).toNat)
  case atStart => exact ⟨0, Nat.zero_le _, Nat.zero_le _, rfl, left_start zs ys, Below.refl _ _⟩
  case round =>
    obtain ⟨k, hk, hkm, rfl, hcl, hbel⟩ := hrel
    have HO := hide hcl
    clear hcl
    have hsz := hbel.size
    have hk0 : (0 : Int) ≤ (k : Int) := Int.natCast_nonneg _
    by_cases hlt : k < n
    · obtain ⟨b, off, rfl, hl, hcells⟩ := hr (by omega)
      obtain ⟨A, B, hX⟩ : ∃ A B, (A, B) = at' zs k := ⟨_, _, rfl⟩
      have fa := ag (by have := unhide HN; omega) A B hX
      have hc0 : wr.cell? ⟨b, off + k * 2, none⟩ = some (.string A) := (hbel.cell (p := ⟨b, _, none⟩) hl).trans (hcells (k * 2) _ fa.1)
      have hc1 : wr.cell? ⟨b, off + k * 2 + 1, none⟩ = some (.string B) := (hbel.cell (p := ⟨b, _, none⟩) hl).trans (hcells (k * 2 + 1) _ fa.2)
      have HX := hide hX
      clear hX fa
      have hk1 : (k : Int) < (n : Int) := by omega
      by_cases hlm : k < m
      · obtain ⟨b', off', rfl, hl', hcells'⟩ := hr' (by omega)
        obtain ⟨C, D, hY⟩ : ∃ C D, (C, D) = at' ys k := ⟨_, _, rfl⟩
        have fb := ag (by have := unhide HM; omega) C D hY
        have hbl1 : b' < wr.heap.size := by omega
        have hd0 : wr.cell? ⟨b', off' + k * 2, none⟩ = some (.string C) := (hbel.cell (p := ⟨b', _, none⟩) hl').trans (hcells' (k * 2) _ fb.1)
        have hd1 : wr.cell? ⟨b', off' + k * 2 + 1, none⟩ = some (.string D) := (hbel.cell (p := ⟨b', _, none⟩) hl').trans (hcells' (k * 2 + 1) _ fb.2)
        have hA : ∀ o j, (wr.alloc o).cell? ⟨b', j, none⟩ = wr.cell? ⟨b', j, none⟩ := fun o j => World.cell?_alloc_lt _ _ _ hbl1
        have hd0' : ∀ o, (wr.alloc o).cell? ⟨b', off' + k * 2, none⟩ = some (.string C) := fun o => (hA o _).trans hd0
        have hd1' : ∀ o, (wr.alloc o).cell? ⟨b', off' + k * 2 + 1, none⟩ = some (.string D) := fun o => (hA o _).trans hd1
        have HY := hide hY
        clear hY fb hA
        have hk2 : (k : Int) < (m : Int) := by omega
        have hge : decide ((m : Int) ≤ (k : Int)) = false := by simp; omega
        have HC := hide (fun W => labelCmp_any A B C D W)
        have HCE := hide (show cmpE (A, B) (C, D) = cmpE (at' zs k) (at' ys k) by rw [← unhide HX, ← unhide HY])
        have hrg := cmpE_range (A, B) (C, D)
        generalize cmpE (A, B) (C, D) = X at HC HCE hrg
        go_wp2_with fail
        refine (unhide HC _).mono ?_
        rintro e w2 ⟨rfl, b2⟩
        have c2 : Below w.heap.size w w2 := ((hbel.alloc hsz _).alloc (by simp; omega) _).trans (b2.mono (by simp; omega))
        clear b2 hd0' hd1'
        by_cases hX0 : X = 0
        · have HL := hide (left_next (unhide HO) (by have := unhide HN; omega) (by have := unhide HM; omega) (by rw [← unhide HCE]; exact hX0))
          subst hX0
          go_wp2_with fail
          go_roundw
          case rel => exact ⟨k + 1, by omega, by omega, by go_num, unhide HL, c2⟩
          case measure => simp [intOf]; omega
        · have hXn : (X != 0) = true := by simpa using hX0
          have hXb : (X == 0) = false := by simpa using hX0
          have HL := hide (show R = X by rw [unhide HR, left_stop (unhide HO) (by have := unhide HN; omega) (by have := unhide HM; omega) (by rw [← unhide HCE]; exact hX0), ← unhide HCE])
          go_wp2_with fail
          go_ret
          exact ⟨ret_int (unhide HL).symm, c2⟩
      · have hge : (m : Int) ≤ (k : Int) := by omega
        have HL := hide (show R = 1 by rw [unhide HR]; exact left_long (unhide HO) (by have := unhide HN; omega) (by have := unhide HM; omega))
        go_wp2_with fail
        go_ret
        exact ⟨ret_int (unhide HL).symm, hbel.alloc hsz _⟩
    · have hkf : decide ((k : Int) < (n : Int)) = false := by simp; omega
      by_cases hlm : n < m
      · have hnm : (n : Int) < (m : Int) := by omega
        have HL := hide (show R = -1 by rw [unhide HR]; exact left_short (unhide HO) (by have := unhide HN; omega) (by have := unhide HM; omega))
        go_wp2_with fail
        go_ret
        exact ⟨ret_int (unhide HL).symm, hbel⟩
      · have hnm : decide ((n : Int) < (m : Int)) = false := by simp; omega
        have HL := hide (show R = 0 by rw [unhide HR]; exact left_same (unhide HO) (by have := unhide HN; omega) (by have := unhide HM; omega))
        go_wp2_with fail
        go_ret
        exact ⟨ret_int (unhide HL).symm, hbel⟩
theorem run_lss (a b : ByteArray) (W : World) : (binOp .lss 9 (.string a) (.string b)).run Try.prog W = .ok (.bool (ltS a b)) W := rfl
theorem run_gtr (a b : ByteArray) (W : World) : (binOp .gtr 9 (.string a) (.string b)).run Try.prog W = .ok (.bool (!(ltS a b || a.toList == b.toList))) W := rfl
theorem l3Texts_any (a b : ByteArray) (w : World) : Calls Try.prog 52 #[.string a, .string b] w fun e w' => e = .returned (.int .i64 (cmpS a b)) ∧ w' = w := by
  rw [cmpS_eq]
  cases h1 : ltS a b
  · by_cases h2 : a.toList = b.toList
    · have l1 : ∀ W, (binOp .lss 9 (.string a) (.string b)).run Try.prog W = .ok (.bool false) W := fun W => by rw [run_lss, h1]
      have l2 : ∀ W, (binOp .gtr 9 (.string a) (.string b)).run Try.prog W = .ok (.bool false) W := fun W => by rw [run_gtr, h1, h2]; simp
      have l3 : Op.bytesLess a.toList b.toList = false := h1
      rw [if_neg (by simp), if_pos h2]
      have l4 : (a.toList == b.toList) = true := by simpa using h2
      clear h1 h2
      go_enter Try.func52, Try.ntmps52
      go_wp2
      go_ret
      exact ⟨rfl, rfl⟩
    · have l1 : ∀ W, (binOp .lss 9 (.string a) (.string b)).run Try.prog W = .ok (.bool false) W := fun W => by rw [run_lss, h1]
      have l4 : (a.toList == b.toList) = false := by simpa using h2
      have l2 : ∀ W, (binOp .gtr 9 (.string a) (.string b)).run Try.prog W = .ok (.bool true) W := fun W => by rw [run_gtr, h1, l4]; rfl
      have l3 : Op.bytesLess a.toList b.toList = false := h1
      rw [if_neg (by simp), if_neg h2]
      clear h1 h2
      go_enter Try.func52, Try.ntmps52
      go_wp2
      go_ret
      exact ⟨rfl, rfl⟩
  · have l1 : ∀ W, (binOp .lss 9 (.string a) (.string b)).run Try.prog W = .ok (.bool true) W := fun W => by rw [run_lss, h1]
    have l3 : Op.bytesLess a.toList b.toList = true := h1
    rw [if_pos rfl]
    clear h1
    go_enter Try.func52, Try.ntmps52
    go_wp2
    go_ret
    exact ⟨rfl, rfl⟩
end Go.Proofs.Ytncjagdnebpaaaa.Lab

/- LabelsCmp, of the program and of the model. -/
namespace Go.Proofs.Ytncjagdnebpaaaa.Lab
open Go.RowKit Rw
set_option linter.unusedVariables false
attribute [local go_sem ↓] Go.wp_at_zero Go.wp_at_succ
set_option maxRecDepth 100000 in
set_option maxHeartbeats 4000000 in
theorem l3Cmp_any {w : World} {v u : Value} {zs ys : List E} (h : Is w v zs) (h' : Is w u ys) :
    Calls Try.prog 32 #[v, u] w fun e w' => e = .returned (.int .i64 (cmpL zs ys)) ∧ Below w.heap.size w w' := by
  obtain ⟨-, a, cap, rfl, hc, hm, -, hr⟩ := h
  obtain ⟨-, a', cap', rfl, hc', hm', -, hr'⟩ := h'
  unfold maxLen at hm hm'
  obtain ⟨n, hn⟩ : ∃ n, n = zs.length := ⟨_, rfl⟩
  obtain ⟨m, hmm⟩ : ∃ m, m = ys.length := ⟨_, rfl⟩
  rw [← hn] at hc hr ⊢
  rw [← hmm] at hc' hr' ⊢
  have HN := hide hn
  have HM := hide hmm
  clear hn hmm
  obtain ⟨R, hR⟩ : ∃ R, R = cmpL zs ys := ⟨_, rfl⟩
  rw [← hR]
  have HR := hide hR
  clear hR
  go_enter Try.func32, Try.ntmps32
  go_wp2_with fail
  go_loopw [5] (fun i wr => ∃ k : Nat, k ≤ n ∧ k ≤ m ∧ i = .int .i64 k ∧ CLeft zs ys k ∧ Below w.heap.size w wr) (fun i _ => n - (intOf i).toNat)
  case atStart => exact ⟨0, Nat.zero_le _, Nat.zero_le _, rfl, left_start zs ys, Below.refl _ _⟩
  case round =>
    obtain ⟨k, hk, hkm, rfl, hcl, hbel⟩ := hrel
    have HO := hide hcl
    clear hcl
    have hsz := hbel.size
    have hk0 : (0 : Int) ≤ (k : Int) := Int.natCast_nonneg _
    by_cases hlt : k < n ∧ k < m
    · obtain ⟨hlt, hlm⟩ := hlt
      obtain ⟨b, off, rfl, hl, hcells⟩ := hr (by omega)
      obtain ⟨b', off', rfl, hl', hcells'⟩ := hr' (by omega)
      obtain ⟨A, B, hX⟩ : ∃ A B, (A, B) = at' zs k := ⟨_, _, rfl⟩
      obtain ⟨C, D, hY⟩ : ∃ C D, (C, D) = at' ys k := ⟨_, _, rfl⟩
      have fa := ag (by have := unhide HN; omega) A B hX
      have fb := ag (by have := unhide HM; omega) C D hY
      have hb1 : b < wr.heap.size := by omega
      have hb1' : b' < wr.heap.size := by omega
      have hc0 : wr.cell? ⟨b, off + k * 2, none⟩ = some (.string A) := (hbel.cell (p := ⟨b, _, none⟩) hl).trans (hcells (k * 2) _ fa.1)
      have hc1 : wr.cell? ⟨b, off + k * 2 + 1, none⟩ = some (.string B) := (hbel.cell (p := ⟨b, _, none⟩) hl).trans (hcells (k * 2 + 1) _ fa.2)
      have hd0 : wr.cell? ⟨b', off' + k * 2, none⟩ = some (.string C) := (hbel.cell (p := ⟨b', _, none⟩) hl').trans (hcells' (k * 2) _ fb.1)
      have hd1 : wr.cell? ⟨b', off' + k * 2 + 1, none⟩ = some (.string D) := (hbel.cell (p := ⟨b', _, none⟩) hl').trans (hcells' (k * 2 + 1) _ fb.2)
      have HX := hide hX
      have HY := hide hY
      clear hX hY fa fb
      have hk1 : (k : Int) < (n : Int) := by omega
      have hk2 : (k : Int) < (m : Int) := by omega
      have HC1 := hide (fun W => l3Texts_any A C W)
      have HC2 := hide (fun W => l3Texts_any B D W)
      have HCE := hide (show cmpE (at' zs k) (at' ys k) = if cmpS A C ≠ 0 then cmpS A C else cmpS B D by rw [← unhide HX, ← unhide HY]; rfl)
      have hrg := cmpS_range A C
      have hrg2 := cmpS_range B D
      generalize cmpS A C = X at HC1 HCE hrg
      generalize cmpS B D = Y at HC2 HCE hrg2
      have hb0 := Below.refl wr.heap.size wr
      have q0 : ∀ x : Cls wr.heap.size wr, x.val.cell? ⟨b, off + k * 2, none⟩ = some (.string A) := fun x => by rw [x.cell hb1]; exact hc0
      have q1 : ∀ x : Cls wr.heap.size wr, x.val.cell? ⟨b', off' + k * 2, none⟩ = some (.string C) := fun x => by rw [x.cell hb1']; exact hd0
      have hne := cls_nonempty wr.heap.size wr
      go_wp2_with fail
      refine region_cls (by kernel_rfl) (by kernel_rfl) ?_
      repeat (go_big_quiet_step ((go_at_call 52; exact cls_same (unhide HC1 _))))
      refine wpQuiet_nil ?_
      rintro w2 ⟨⟨_, b2⟩, rfl⟩
      clear q0 q1 hne
      have c2 := hbel.trans (b2.mono hsz)
      have hs2 := b2.size
      by_cases hX0 : X = 0
      · subst hX0
        have q2 : ∀ x : Cls w2.heap.size w2, x.val.cell? ⟨b, off + k * 2 + 1, none⟩ = some (.string B) := fun x => by rw [x.cell (by omega)]; exact (b2.cell (p := ⟨b, _, none⟩) hb1).trans hc1
        have q3 : ∀ x : Cls w2.heap.size w2, x.val.cell? ⟨b', off' + k * 2 + 1, none⟩ = some (.string D) := fun x => by rw [x.cell (by omega)]; exact (b2.cell (p := ⟨b', _, none⟩) hb1').trans hd1
        have hne := cls_nonempty w2.heap.size w2
        go_wp2_with fail
        refine region_cls (by kernel_rfl) (by kernel_rfl) ?_
        repeat (go_big_quiet_step ((go_at_call 52; exact cls_same (unhide HC2 _))))
        refine wpQuiet_nil ?_
        rintro w3 ⟨⟨_, b3⟩, rfl⟩
        clear q2 q3 hne
        have c3 := c2.trans (b3.mono c2.size)
        by_cases hY0 : Y = 0
        · have HL := hide (left_next (unhide HO) (by have := unhide HN; omega) (by have := unhide HM; omega) (by rw [unhide HCE]; simp [hY0]))
          subst hY0
          go_wp2_with fail
          go_roundw
          case rel => exact ⟨k + 1, by omega, by omega, by go_num, unhide HL, c3⟩
          case measure => simp [intOf]; omega
        · have hYn : (Y != 0) = true := by simpa using hY0
          have hYb : (Y == 0) = false := by simpa using hY0
          have HL := hide (show R = Y by rw [unhide HR, left_stop (unhide HO) (by have := unhide HN; omega) (by have := unhide HM; omega) (by rw [unhide HCE]; simpa using hY0), unhide HCE]; simp)
          go_wp2_with fail
          go_ret
          exact ⟨ret_int (unhide HL).symm, c3⟩
      · have hXn : (X != 0) = true := by simpa using hX0
        have hXb : (X == 0) = false := by simpa using hX0
        have HL := hide (show R = X by rw [unhide HR, left_stop (unhide HO) (by have := unhide HN; omega) (by have := unhide HM; omega) (by rw [unhide HCE, if_pos hX0]; exact hX0), unhide HCE, if_pos hX0])
        go_wp2_with fail
        go_ret
        exact ⟨ret_int (unhide HL).symm, c2⟩
    · rcases (show n < m ∨ m < n ∨ n = m from by omega) with hnm | hnm | hnm
      · have h1 : (n : Int) < (m : Int) := by omega
        have hkf : decide ((k : Int) < (n : Int)) = false := by simp; omega
        have HL := hide (show R = -1 by rw [unhide HR]; exact left_short (unhide HO) (by have := unhide HN; omega) (by have := unhide HM; omega))
        go_wp2_with fail
        go_ret
        exact ⟨ret_int (unhide HL).symm, hbel⟩
      · have h1 : decide ((n : Int) < (m : Int)) = false := by simp; omega
        have h2 : (m : Int) < (n : Int) := by omega
        have hkn : (k : Int) < (n : Int) := by omega
        have hkf : decide ((k : Int) < (m : Int)) = false := by simp; omega
        have HL := hide (show R = 1 by rw [unhide HR]; exact left_long (unhide HO) (by have := unhide HN; omega) (by have := unhide HM; omega))
        go_wp2_with fail
        go_ret
        exact ⟨ret_int (unhide HL).symm, hbel⟩
      · have h1 : decide ((n : Int) < (m : Int)) = false := by simp; omega
        have h2 : decide ((m : Int) < (n : Int)) = false := by simp; omega
        have hkf : decide ((k : Int) < (n : Int)) = false := by simp; omega
        have HL := hide (show R = 0 by rw [unhide HR]; exact left_same (unhide HO) (by have := unhide HN; omega) (by have := unhide HM; omega))
        go_wp2_with fail
        go_ret
        exact ⟨ret_int (unhide HL).symm, hbel⟩
set_option maxHeartbeats 1000000 in
theorem impl_cmp {w : World} {v u : Value} {zs ys : List E} (h : Is w v zs) (h' : Is w u ys) (hg : ∀ x ∈ zs, good x) (hg' : ∀ x ∈ ys, good x) (hz : zs.length ≤ maxLen) (hy : ys.length ≤ maxLen) :
    Calls Try.prog 29 #[v, u] w fun e w' => e = .returned (.int .i64 (cmp zs ys)) ∧ Below w.heap.size w w' := by
  have H1 := hide (impl_ok h hg)
  have H2 := hide (fun W (hb : Below w.heap.size w W) => impl_ok (h'.below hb) hg')
  have H3 := hide (fun W (hb : Below w.heap.size w W) => compareFunc_any (h.below hb) (h'.below hb))
  clear h h' hg hg'
  cases ho : ok zs
  · have HR := hide (show cmp zs ys = 0 from cmp_bad (.inl ho))
    rw [ho] at H1
    clear ho
    go_enter Try.func29, Try.ntmps29
    go_wp2_with fail
    refine (unhide H1).mono ?_
    rintro e w1 ⟨rfl, b1⟩
    go_wp2_with fail
    go_ret
    exact ⟨ret_int (unhide HR).symm, b1⟩
  · rw [ho] at H1
    cases ho' : ok ys
    · have HR := hide (show cmp zs ys = 0 from cmp_bad (.inr ho'))
      rw [ho'] at H2
      clear ho ho'
      go_enter Try.func29, Try.ntmps29
      go_wp2_with fail
      refine (unhide H1).mono ?_
      rintro e w1 ⟨rfl, b1⟩
      go_wp2_with fail
      refine (unhide H2 _ b1).mono ?_
      rintro e w2 ⟨rfl, b2⟩
      have c2 := b1.trans (b2.mono b1.size)
      go_wp2_with fail
      go_ret
      exact ⟨ret_int (unhide HR).symm, c2⟩
    · have HR := hide (show cmp zs ys = cmpL zs ys from cmp_ok ho ho')
      rw [ho'] at H2
      clear ho ho'
      go_enter Try.func29, Try.ntmps29
      go_wp2_with fail
      refine (unhide H1).mono ?_
      rintro e w1 ⟨rfl, b1⟩
      go_wp2_with fail
      refine (unhide H2 _ b1).mono ?_
      rintro e w2 ⟨rfl, b2⟩
      have c2 := b1.trans (b2.mono b1.size)
      go_wp2_with fail
      refine (unhide H3 _ c2).mono ?_
      rintro e w3 ⟨rfl, b3⟩
      have c3 := c2.trans (b3.mono c2.size)
      go_wp2_with fail
      go_ret
      exact ⟨ret_int (unhide HR).symm, c3⟩
end Go.Proofs.Ytncjagdnebpaaaa.Lab

/- RowsOk of the program, at every slice of rows. -/
namespace Go.Proofs.Ytncjagdnebpaaaa.Row
open Go.RowKit Rw
set_option linter.unusedVariables false
attribute [local go_sem ↓] Go.wp_at_zero Go.wp_at_succ
set_option maxRecDepth 100000 in
set_option maxHeartbeats 8000000 in
theorem impl_ok {w : World} {v : Value} {zs : List E} (h : Is w v zs) (hg : ∀ x ∈ zs, good x) (hlen : zs.length ≤ maxLen) : Calls Try.prog 8 #[v] w fun e w' => e = .returned (.bool (ok zs)) ∧ Below w.heap.size w w' := by
  obtain ⟨cs, hcs, hL, hE⟩ := h
  have HE := hide hE
  have HG := hide hg
  obtain ⟨-, a, cap, rfl, hc, hm, -, hr⟩ := hL
  unfold maxLen at hm hlen
  obtain ⟨n, hn⟩ : ∃ n, n = zs.length := ⟨_, rfl⟩
  rw [← hn] at hc hr hcs hlen ⊢
  have HN := hide hn
  have HC := hide hcs
  clear hn hE hg hcs
  by_cases hbig : 10 < n
  · have HR := hide (show ok zs = false from ok_long (by have := unhide HN; omega))
    go_enter Try.func8, Try.ntmps8
    go_wp2
    go_ret
    exact ⟨ret_bool (unhide HR).symm, Below.refl _ _⟩
  go_enter Try.func8, Try.ntmps8
  go_wp2_with fail
  go_loopw [10] (fun i wr => ∃ (j : Nat), j ≤ n ∧ i = .int .i64 j ∧ Hid (okTo zs j = true) ∧ Below w.heap.size w wr) (fun i _ => n - (intOf i).toNat)
  case atStart => exact ⟨0, Nat.zero_le _, rfl, hide rfl, Below.refl _ _⟩
  case round =>
    obtain ⟨j, hj, rfl, HO, hbel⟩ := hrel
    have hsz := hbel.size
    by_cases hlt : j < n
    · obtain ⟨b, off, rfl, hl, hcells⟩ := hr (by omega)
      have fa := flat_at cs j (by have := unhide HC; omega)
      have hc0 : wr.cell? ⟨b, off + j * 2, none⟩ = some (cat cs j).1 := (hbel.cell (p := ⟨b, _, none⟩) hl).trans (hcells (j * 2) _ fa.1)
      have hc1 : wr.cell? ⟨b, off + j * 2 + 1, none⟩ = some (cat cs j).2 := (hbel.cell (p := ⟨b, _, none⟩) hl).trans (hcells (j * 2 + 1) _ fa.2)
      have hEj := (unhide HE j (by have := unhide HN; omega)).below hbel
      have hGj := unhide HG _ (at_mem zs j (by have := unhide HN; omega))
      obtain ⟨a1, q1, f1, g1, g1'⟩ := hEj.1.form
      obtain ⟨a2, q2, f2, g2, g2'⟩ := hEj.2.form
      obtain ⟨l1, hl1⟩ : ∃ l, l = (at' zs j).1.length := ⟨_, rfl⟩
      obtain ⟨l2, hl2⟩ : ∃ l, l = (at' zs j).2.length := ⟨_, rfl⟩
      unfold maxLen at g1' g2'
      rw [f1, ← hl1] at hc0
      rw [f2, ← hl2] at hc1
      rw [← hl1] at g1
      rw [← hl2] at g2
      have HI1 := hide (show Lab.Is wr (.slice a1 l1 q1) (at' zs j).1 by rw [hl1, ← f1]; exact hEj.1)
      have HI2 := hide (show Sam.Is wr (.slice a2 l2 q2) (at' zs j).2 by rw [hl2, ← f2]; exact hEj.2)
      have HL1 := hide hl1
      have HL2 := hide hl2
      have hk0 : (0 : Int) ≤ (j : Int) := Int.natCast_nonneg _
      have hk1 : (j : Int) < (n : Int) := by omega
      clear fa hEj f1 f2 hl1 hl2
      obtain ⟨wa, hwa⟩ : ∃ wa, wa = wr.alloc (.cells #[.slice a1 l1 q1, .slice a2 l2 q2] 44) := ⟨_, rfl⟩
      have ba : Below wr.heap.size wr wa := by rw [hwa]; exact (Below.refl _ _).alloc (Nat.le_refl _) _
      have za : wr.heap.size < wa.heap.size := by rw [hwa]; simp
      have ca0 : wa.cell? ⟨wr.heap.size, 0, none⟩ = some (.slice a1 l1 q1) := by rw [hwa]; simp [go_sem]
      have ca1 : wa.cell? ⟨wr.heap.size, 1, none⟩ = some (.slice a2 l2 q2) := by rw [hwa]; simp [go_sem]
      have HI1a := hide ((unhide HI1).below ba)
      have HI2a := hide ((unhide HI2).below ba)
      have hbela : Below w.heap.size w wa := hbel.trans (ba.mono hsz)
      have hsza := hbela.size
      have hq0 : ∀ x : Cls wa.heap.size wa, x.val.cell? ⟨wr.heap.size, 0, none⟩ = some (.slice a1 l1 q1) := fun x => by rw [x.cell (by omega)]; exact ca0
      have hne := cls_nonempty wa.heap.size wa
      cases hlab : Lab.ok (at' zs j).1
      · have HF := hide (ok_of_bad (zs := zs) (k := j) (by have := unhide HN; omega) (step_lab hlab))
        have HOk := hide (show ∀ x : Cls wa.heap.size wa, Calls Try.prog 19 #[.slice a1 l1 q1] x.val fun e w' => e = .returned (.bool false) ∧ Below x.val.heap.size x.val w' from fun x => by have h := Lab.impl_ok ((unhide HI1a).below x.isBelow) hGj.1.2; rw [hlab] at h; exact h)
        clear hlab
        go_wp2_with fail
        rw [← hwa]
        clear hwa
        refine region_cls (by kernel_rfl) (by kernel_rfl) ?_
        repeat (go_big_quiet_step ((go_at_call 19; exact cls_call (Nat.le_refl _) (unhide HOk _))))
        refine wpQuiet_nil ?_
        rintro wq ⟨⟨_, hq⟩, rfl⟩
        have hbq := hbela.trans (hq.mono hsza)
        have hszq := hbq.size
        go_wp2_with fail
        go_ret
        exact ⟨ret_bool (unhide HF).symm, hbq⟩
      · have HLk := hide hlab
        have HOk := hide (show ∀ x : Cls wa.heap.size wa, Calls Try.prog 19 #[.slice a1 l1 q1] x.val fun e w' => e = .returned (.bool true) ∧ Below x.val.heap.size x.val w' from fun x => by have h := Lab.impl_ok ((unhide HI1a).below x.isBelow) hGj.1.2; rw [hlab] at h; exact h)
        rcases j with _ | j
        · clear hlab
          simp only [Nat.zero_mul, Nat.add_zero] at hc0 hc1
          go_wp2_with fail
          rw [← hwa]
          clear hwa
          refine region_cls (by kernel_rfl) (by kernel_rfl) ?_
          repeat (go_big_quiet_step ((go_at_call 19; exact cls_call (Nat.le_refl _) (unhide HOk _))))
          refine wpQuiet_nil ?_
          rintro wq ⟨⟨_, hq⟩, rfl⟩
          have hbq := hbela.trans (hq.mono hsza)
          have hszq := hbq.size

          have cq1 : wq.cell? ⟨wr.heap.size, 1, none⟩ = some (.slice a2 l2 q2) := (hq.cell (p := ⟨wr.heap.size, 1, none⟩) (by show wr.heap.size < wa.heap.size; omega)).trans ca1
          have HI2q := hide ((unhide HI2a).below hq)
          clear hq0 hne
          rcases (show l2 < 1 ∨ 1000 < l2 ∨ (1 ≤ l2 ∧ l2 ≤ 1000) from by omega) with hs | hs | ⟨hs1, hs2⟩
          · have HF := hide (ok_of_bad (zs := zs) (k := 0) (by have := unhide HN; omega) (step_len (.inl (by rw [← unhide HL2]; exact hs))))
            obtain rfl : l2 = 0 := by omega
            go_wp2_with fail
            go_ret
            exact ⟨ret_bool (unhide HF).symm, hbq⟩
          · have HF := hide (ok_of_bad (zs := zs) (k := 0) (by have := unhide HN; omega) (step_len (.inr (by rw [← unhide HL2]; exact hs))))
            have hs3 : ¬ l2 < 1 := by omega
            go_wp2_with fail
            go_ret
            exact ⟨ret_bool (unhide HF).symm, hbq⟩
          · have hs3 : ¬ l2 < 1 := by omega
            have hs4 : ¬ 1000 < l2 := by omega
            cases hsam : SampMath.ok (at' zs (0)).2
            · have HF := hide (ok_of_bad (zs := zs) (k := 0) (by have := unhide HN; omega) (step_sam hsam))
              have HSo := hide (Sam.impl_ok (unhide HI2q))
              rw [hsam] at HSo
              clear hsam
              go_wp2_with fail
              refine (unhide HSo).mono ?_
              rintro e w5 ⟨rfl, b5⟩
              go_wp2_with fail
              go_ret
              exact ⟨ret_bool (unhide HF).symm, hbq.trans (b5.mono hszq)⟩
            · have HU := hide (show okTo zs (0 + 1) = true by rw [okTo_succ, unhide HO, step_yes (unhide HLk) (by rw [← unhide HL2]; exact hs1) (by rw [← unhide HL2]; exact hs2) hsam (.inl rfl)]; rfl)
              have HSo := hide (Sam.impl_ok (unhide HI2q))
              rw [hsam] at HSo
              clear hsam
              go_wp2_with fail
              refine (unhide HSo).mono ?_
              rintro e w5 ⟨rfl, b5⟩
              go_wp2
              go_roundw
              case rel => exact ⟨0 + 1, by omega, by go_num, HU, hbq.trans (b5.mono hszq)⟩
              case measure => simp [intOf]; omega
        · have hprev := step_is (okTo_at (unhide HO) (show j < j + 1 by omega))
          have fp := flat_at cs j (by have := unhide HC; omega)
          have hEp := (unhide HE j (by have := unhide HN; omega)).below hbela
          have hGp := unhide HG _ (at_mem zs j (by have := unhide HN; omega))
          have hp0 : ∀ x : Cls wa.heap.size wa, x.val.cell? ⟨b, off + j * 2, none⟩ = some (cat cs j).1 := fun x => by rw [x.cell (by omega)]; exact (hbela.cell (p := ⟨b, _, none⟩) hl).trans (hcells (j * 2) _ fp.1)
          have HCm := hide (show ∀ x : Cls wa.heap.size wa, Calls Try.prog 29 #[(cat cs j).1, .slice a1 l1 q1] x.val fun e w' => e = .returned (.int .i64 (Lab.cmpL (at' zs j).1 (at' zs (j + 1)).1)) ∧ Below x.val.heap.size x.val w' from fun x => by
            have h := Lab.impl_cmp (hEp.1.below x.isBelow) ((unhide HI1a).below x.isBelow) hGp.1.2 hGj.1.2 hGp.1.1 hGj.1.1
            rwa [Lab.cmp_ok hprev.1 hlab] at h)
          obtain ⟨a0, q0, f0, -, -⟩ := hEp.1.form
          obtain ⟨l0, hl0⟩ : ∃ l, l = (at' zs j).1.length := ⟨_, rfl⟩
          rw [← hl0] at f0
          rw [f0] at hp0 HCm
          clear hprev fp hEp hGp hlab f0 hl0
          have hj0 : (0 : Int) ≤ (j : Int) := Int.natCast_nonneg _
          have hj1 : (j : Int) < (n : Int) := by omega
          have hj2 : (((j + 1 : Nat) : Int)) - 1 = (j : Int) := by omega
          have HSt := hide (fun h => step_cmp (zs := zs) (k := j + 1) (by omega) h)
          simp only [Nat.add_sub_cancel] at HSt
          have hrg := Lab.cmpL_range (at' zs j).1 (at' zs (j + 1)).1
          obtain ⟨M, hM0⟩ : ∃ M, M = Lab.cmpL (at' zs j).1 (at' zs (j + 1)).1 := ⟨_, rfl⟩
          rw [← hM0] at HCm HSt hrg
          have HM0 := hide hM0
          clear hM0
          by_cases hM : M < 0
          · have HMM := hide hM
            have hM2 : ¬ 0 ≤ M := by omega
            go_wp2_with fail
            rw [← hwa]
            clear hwa
            refine region_cls (by kernel_rfl) (by kernel_rfl) ?_
            repeat (go_big_quiet_step (first | (go_at_call 19; exact cls_call (Nat.le_refl _) (unhide HOk _)) | (go_at_call 29; exact cls_call (Nat.le_refl _) (unhide HCm _))))
            refine wpQuiet_nil ?_
            rintro wq ⟨⟨_, hq⟩, rfl⟩
            have hbq := hbela.trans (hq.mono hsza)
            have hszq := hbq.size
            clear hp0
            have cq1 : wq.cell? ⟨wr.heap.size, 1, none⟩ = some (.slice a2 l2 q2) := (hq.cell (p := ⟨wr.heap.size, 1, none⟩) (by show wr.heap.size < wa.heap.size; omega)).trans ca1
            have HI2q := hide ((unhide HI2a).below hq)
            clear hq0 hne
            rcases (show l2 < 1 ∨ 1000 < l2 ∨ (1 ≤ l2 ∧ l2 ≤ 1000) from by omega) with hs | hs | ⟨hs1, hs2⟩
            · have HF := hide (ok_of_bad (zs := zs) (k := j + 1) (by have := unhide HN; omega) (step_len (.inl (by rw [← unhide HL2]; exact hs))))
              obtain rfl : l2 = 0 := by omega
              go_wp2_with fail
              go_ret
              exact ⟨ret_bool (unhide HF).symm, hbq⟩
            · have HF := hide (ok_of_bad (zs := zs) (k := j + 1) (by have := unhide HN; omega) (step_len (.inr (by rw [← unhide HL2]; exact hs))))
              have hs3 : ¬ l2 < 1 := by omega
              go_wp2_with fail
              go_ret
              exact ⟨ret_bool (unhide HF).symm, hbq⟩
            · have hs3 : ¬ l2 < 1 := by omega
              have hs4 : ¬ 1000 < l2 := by omega
              cases hsam : SampMath.ok (at' zs (j + 1)).2
              · have HF := hide (ok_of_bad (zs := zs) (k := j + 1) (by have := unhide HN; omega) (step_sam hsam))
                have HSo := hide (Sam.impl_ok (unhide HI2q))
                rw [hsam] at HSo
                clear hsam
                go_wp2_with fail
                refine (unhide HSo).mono ?_
                rintro e w5 ⟨rfl, b5⟩
                go_wp2_with fail
                go_ret
                exact ⟨ret_bool (unhide HF).symm, hbq.trans (b5.mono hszq)⟩
              · have HU := hide (show okTo zs (j + 1 + 1) = true by rw [okTo_succ, unhide HO, step_yes (unhide HLk) (by rw [← unhide HL2]; exact hs1) (by rw [← unhide HL2]; exact hs2) hsam (.inr (by show Lab.cmpL (at' zs j).1 _ < 0; rw [← unhide HM0]; exact unhide HMM))]; rfl)
                have HSo := hide (Sam.impl_ok (unhide HI2q))
                rw [hsam] at HSo
                clear hsam
                go_wp2_with fail
                refine (unhide HSo).mono ?_
                rintro e w5 ⟨rfl, b5⟩
                go_wp2
                go_roundw
                case rel => exact ⟨j + 1 + 1, by omega, by go_num, HU, hbq.trans (b5.mono hszq)⟩
                case measure => simp [intOf]; omega
          · have HF := hide (ok_of_bad (zs := zs) (k := j + 1) (by have := unhide HN; omega) (unhide HSt hM))
            have hM2 : 0 ≤ M := by omega
            go_wp2_with fail
            rw [← hwa]
            clear hwa
            refine region_cls (by kernel_rfl) (by kernel_rfl) ?_
            repeat (go_big_quiet_step (first | (go_at_call 19; exact cls_call (Nat.le_refl _) (unhide HOk _)) | (go_at_call 29; exact cls_call (Nat.le_refl _) (unhide HCm _))))
            refine wpQuiet_nil ?_
            rintro wq ⟨⟨_, hq⟩, rfl⟩
            have hbq := hbela.trans (hq.mono hsza)
            have hszq := hbq.size
            go_wp2_with fail
            go_ret
            exact ⟨ret_bool (unhide HF).symm, hbq⟩
    · obtain rfl : j = n := by omega
      have HU := hide (show ok zs = true by unfold ok; rw [← unhide HN, unhide HO, decide_eq_true (by omega)]; rfl)
      go_wp2
      go_ret
      exact ⟨ret_bool (unhide HU).symm, hbel⟩
end Go.Proofs.Ytncjagdnebpaaaa.Row

/- The word under a name; what a rule lets; MatchesLet of the program. -/
namespace Go.Proofs.Ytncjagdnebpaaaa.Mat
open Go.RowKit Rw
set_option linter.unusedVariables false
attribute [local go_sem ↓] Go.wp_at_zero Go.wp_at_succ
theorem run_eqS (a b : ByteArray) (W : World) : (binOp .eql 9 (.string a) (.string b)).run Try.prog W = .ok (.bool (sameS a b)) W := rfl
end Go.Proofs.Ytncjagdnebpaaaa.Mat
