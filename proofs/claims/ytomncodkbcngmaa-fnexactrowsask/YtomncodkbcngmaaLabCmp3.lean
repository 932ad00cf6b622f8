/- LabelsCmp, of the program and of the model. -/
import Derived.Test.YtomncodkbcngmaaLabCmp2
namespace Go.Proofs.Ytomncodkbcngmaa.Lab
open Go.RowKit Rw
set_option linter.unusedVariables false
attribute [local go_sem ↓] Go.wp_at_zero Go.wp_at_succ
set_option maxRecDepth 100000 in
set_option maxHeartbeats 4000000 in
theorem l3Cmp_any {w : World} {v u : Value} {zs ys : List E} (h : Is w v zs) (h' : Is w u ys) :
    Calls Try.prog 74 #[v, u] w fun e w' => e = .returned (.int .i64 (cmpL zs ys)) ∧ Below w.heap.size w w' := by
  obtain ⟨-, a, cap, rfl, hc, hm, -, hr⟩ := h
  obtain ⟨-, a', cap', rfl, hc', hm', -, hr'⟩ := h'
  unfold maxLen at hm hm'
  obtain ⟨n, hn⟩ : ∃ n, n = zs.length := ⟨_, rfl⟩
  obtain ⟨m, hmm⟩ : ∃ m, m = ys.length := ⟨_, rfl⟩
  rw [← hn] at hc hr ⊢
  rw [← hmm] at hc' hr' ⊢
  have HN := hide hn
  have HM := hide hmm
  clear hn hmm
  obtain ⟨R, hR⟩ : ∃ R, R = cmpL zs ys := ⟨_, rfl⟩
  rw [← hR]
  have HR := hide hR
  clear hR
  go_enter Try.func74, Try.ntmps74
  go_wp2_with fail
  go_loopw [5] (fun i wr => ∃ k : Nat, k ≤ n ∧ k ≤ m ∧ i = .int .i64 k ∧ CLeft zs ys k ∧ Below w.heap.size w wr) (fun i _ => n - (intOf i).toNat)
  case atStart => exact ⟨0, Nat.zero_le _, Nat.zero_le _, rfl, left_start zs ys, Below.refl _ _⟩
  case round =>
    obtain ⟨k, hk, hkm, rfl, hcl, hbel⟩ := hrel
    have HO := hide hcl
    clear hcl
    have hsz := hbel.size
    have hk0 : (0 : Int) ≤ (k : Int) := Int.natCast_nonneg _
    by_cases hlt : k < n ∧ k < m
    · obtain ⟨hlt, hlm⟩ := hlt
      obtain ⟨b, off, rfl, hl, hcells⟩ := hr (by omega)
      obtain ⟨b', off', rfl, hl', hcells'⟩ := hr' (by omega)
      obtain ⟨A, B, hX⟩ : ∃ A B, (A, B) = at' zs k := ⟨_, _, rfl⟩
      obtain ⟨C, D, hY⟩ : ∃ C D, (C, D) = at' ys k := ⟨_, _, rfl⟩
      have fa := ag (by have := unhide HN; omega) A B hX
      have fb := ag (by have := unhide HM; omega) C D hY
      have hb1 : b < wr.heap.size := by omega
      have hb1' : b' < wr.heap.size := by omega
      have hc0 : wr.cell? ⟨b, off + k * 2, none⟩ = some (.string A) := (hbel.cell (p := ⟨b, _, none⟩) hl).trans (hcells (k * 2) _ fa.1)
      have hc1 : wr.cell? ⟨b, off + k * 2 + 1, none⟩ = some (.string B) := (hbel.cell (p := ⟨b, _, none⟩) hl).trans (hcells (k * 2 + 1) _ fa.2)
      have hd0 : wr.cell? ⟨b', off' + k * 2, none⟩ = some (.string C) := (hbel.cell (p := ⟨b', _, none⟩) hl').trans (hcells' (k * 2) _ fb.1)
      have hd1 : wr.cell? ⟨b', off' + k * 2 + 1, none⟩ = some (.string D) := (hbel.cell (p := ⟨b', _, none⟩) hl').trans (hcells' (k * 2 + 1) _ fb.2)
      have HX := hide hX
      have HY := hide hY
      clear hX hY fa fb
      have hk1 : (k : Int) < (n : Int) := by omega
      have hk2 : (k : Int) < (m : Int) := by omega
      have HC1 := hide (fun W => l3Texts_any A C W)
      have HC2 := hide (fun W => l3Texts_any B D W)
      have HCE := hide (show cmpE (at' zs k) (at' ys k) = if cmpS A C ≠ 0 then cmpS A C else cmpS B D by rw [← unhide HX, ← unhide HY]; rfl)
      have hrg := cmpS_range A C
      have hrg2 := cmpS_range B D
      generalize cmpS A C = X at HC1 HCE hrg
      generalize cmpS B D = Y at HC2 HCE hrg2
      have hb0 := Below.refl wr.heap.size wr
      have q0 : ∀ x : Cls wr.heap.size wr, x.val.cell? ⟨b, off + k * 2, none⟩ = some (.string A) := fun x => by rw [x.cell hb1]; exact hc0
      have q1 : ∀ x : Cls wr.heap.size wr, x.val.cell? ⟨b', off' + k * 2, none⟩ = some (.string C) := fun x => by rw [x.cell hb1']; exact hd0
      have hne := cls_nonempty wr.heap.size wr
      go_wp2_with fail
      refine region_cls (by kernel_rfl) (by kernel_rfl) ?_
      repeat (go_big_quiet_step ((go_at_call 97; exact cls_same (unhide HC1 _))))
      refine wpQuiet_nil ?_
      rintro w2 ⟨⟨_, b2⟩, rfl⟩
      clear q0 q1 hne
      have c2 := hbel.trans (b2.mono hsz)
      have hs2 := b2.size
      by_cases hX0 : X = 0
      · subst hX0
        have q2 : ∀ x : Cls w2.heap.size w2, x.val.cell? ⟨b, off + k * 2 + 1, none⟩ = some (.string B) := fun x => by rw [x.cell (by omega)]; exact (b2.cell (p := ⟨b, _, none⟩) hb1).trans hc1
        have q3 : ∀ x : Cls w2.heap.size w2, x.val.cell? ⟨b', off' + k * 2 + 1, none⟩ = some (.string D) := fun x => by rw [x.cell (by omega)]; exact (b2.cell (p := ⟨b', _, none⟩) hb1').trans hd1
        have hne := cls_nonempty w2.heap.size w2
        go_wp2_with fail
        refine region_cls (by kernel_rfl) (by kernel_rfl) ?_
        repeat (go_big_quiet_step ((go_at_call 97; exact cls_same (unhide HC2 _))))
        refine wpQuiet_nil ?_
        rintro w3 ⟨⟨_, b3⟩, rfl⟩
        clear q2 q3 hne
        have c3 := c2.trans (b3.mono c2.size)
        by_cases hY0 : Y = 0
        · have HL := hide (left_next (unhide HO) (by have := unhide HN; omega) (by have := unhide HM; omega) (by rw [unhide HCE]; simp [hY0]))
          subst hY0
          go_wp2_with fail
          go_roundw
          case rel => exact ⟨k + 1, by omega, by omega, by go_num, unhide HL, c3⟩
          case measure => simp [intOf]; omega
        · have hYn : (Y != 0) = true := by simpa using hY0
          have hYb : (Y == 0) = false := by simpa using hY0
          have HL := hide (show R = Y by rw [unhide HR, left_stop (unhide HO) (by have := unhide HN; omega) (by have := unhide HM; omega) (by rw [unhide HCE]; simpa using hY0), unhide HCE]; simp)
          go_wp2_with fail
          go_ret
          exact ⟨ret_int (unhide HL).symm, c3⟩
      · have hXn : (X != 0) = true := by simpa using hX0
        have hXb : (X == 0) = false := by simpa using hX0
        have HL := hide (show R = X by rw [unhide HR, left_stop (unhide HO) (by have := unhide HN; omega) (by have := unhide HM; omega) (by rw [unhide HCE, if_pos hX0]; exact hX0), unhide HCE, if_pos hX0])
        go_wp2_with fail
        go_ret
        exact ⟨ret_int (unhide HL).symm, c2⟩
    · rcases (show n < m ∨ m < n ∨ n = m from by omega) with hnm | hnm | hnm
      · have h1 : (n : Int) < (m : Int) := by omega
        have hkf : decide ((k : Int) < (n : Int)) = false := by simp; omega
        have HL := hide (show R = -1 by rw [unhide HR]; exact left_short (unhide HO) (by have := unhide HN; omega) (by have := unhide HM; omega))
        go_wp2_with fail
        go_ret
        exact ⟨ret_int (unhide HL).symm, hbel⟩
      · have h1 : decide ((n : Int) < (m : Int)) = false := by simp; omega
        have h2 : (m : Int) < (n : Int) := by omega
        have hkn : (k : Int) < (n : Int) := by omega
        have hkf : decide ((k : Int) < (m : Int)) = false := by simp; omega
        have HL := hide (show R = 1 by rw [unhide HR]; exact left_long (unhide HO) (by have := unhide HN; omega) (by have := unhide HM; omega))
        go_wp2_with fail
        go_ret
        exact ⟨ret_int (unhide HL).symm, hbel⟩
      · have h1 : decide ((n : Int) < (m : Int)) = false := by simp; omega
        have h2 : decide ((m : Int) < (n : Int)) = false := by simp; omega
        have hkf : decide ((k : Int) < (n : Int)) = false := by simp; omega
        have HL := hide (show R = 0 by rw [unhide HR]; exact left_same (unhide HO) (by have := unhide HN; omega) (by have := unhide HM; omega))
        go_wp2_with fail
        go_ret
        exact ⟨ret_int (unhide HL).symm, hbel⟩
set_option maxHeartbeats 1000000 in
theorem impl_cmp {w : World} {v u : Value} {zs ys : List E} (h : Is w v zs) (h' : Is w u ys) (hg : ∀ x ∈ zs, good x) (hg' : ∀ x ∈ ys, good x) (hz : zs.length ≤ maxLen) (hy : ys.length ≤ maxLen) :
    Calls Try.prog 80 #[v, u] w fun e w' => e = .returned (.int .i64 (cmp zs ys)) ∧ Below w.heap.size w w' := by
  have H1 := hide (impl_ok h hg)
  have H2 := hide (fun W (hb : Below w.heap.size w W) => impl_ok (h'.below hb) hg')
  have H3 := hide (fun W (hb : Below w.heap.size w W) => compareFunc_any (h.below hb) (h'.below hb))
  clear h h' hg hg'
  cases ho : ok zs
  · have HR := hide (show cmp zs ys = 0 from cmp_bad (.inl ho))
    rw [ho] at H1
    clear ho
    go_enter Try.func80, Try.ntmps80
    go_wp2_with fail
    refine (unhide H1).mono ?_
    rintro e w1 ⟨rfl, b1⟩
    go_wp2_with fail
    go_ret
    exact ⟨ret_int (unhide HR).symm, b1⟩
  · rw [ho] at H1
    cases ho' : ok ys
    · have HR := hide (show cmp zs ys = 0 from cmp_bad (.inr ho'))
      rw [ho'] at H2
      clear ho ho'
      go_enter Try.func80, Try.ntmps80
      go_wp2_with fail
      refine (unhide H1).mono ?_
      rintro e w1 ⟨rfl, b1⟩
      go_wp2_with fail
      refine (unhide H2 _ b1).mono ?_
      rintro e w2 ⟨rfl, b2⟩
      have c2 := b1.trans (b2.mono b1.size)
      go_wp2_with fail
      go_ret
      exact ⟨ret_int (unhide HR).symm, c2⟩
    · have HR := hide (show cmp zs ys = cmpL zs ys from cmp_ok ho ho')
      rw [ho'] at H2
      clear ho ho'
      go_enter Try.func80, Try.ntmps80
      go_wp2_with fail
      refine (unhide H1).mono ?_
      rintro e w1 ⟨rfl, b1⟩
      go_wp2_with fail
      refine (unhide H2 _ b1).mono ?_
      rintro e w2 ⟨rfl, b2⟩
      have c2 := b1.trans (b2.mono b1.size)
      go_wp2_with fail
      refine (unhide H3 _ c2).mono ?_
      rintro e w3 ⟨rfl, b3⟩
      have c3 := c2.trans (b3.mono c2.size)
      go_wp2_with fail
      go_ret
      exact ⟨ret_int (unhide HR).symm, c3⟩
end Go.Proofs.Ytomncodkbcngmaa.Lab
