/- LabelsCmp, of the program and of the model, at every two slices of labels. -/
import Derived.Test.YtomncodkbcngmaaLabCmp
namespace Go.Proofs.Ytomncodkbcngmaa.Lab
open Go.RowKit Rw
set_option linter.unusedVariables false
attribute [local go_sem ↓] Go.wp_at_zero Go.wp_at_succ
theorem ag {zs : List E} {k : Nat} (h : k < zs.length) (A B : ByteArray) (e : (A, B) = at' zs k) : (flat zs)[k * 2]? = some (.string A) ∧ (flat zs)[k * 2 + 1]? = some (.string B) := by
  have := flat_at zs k h
  rwa [← e] at this
set_option maxRecDepth 100000 in
set_option maxHeartbeats 4000000 in
theorem compareFunc_any {w : World} {v u : Value} {zs ys : List E} (h : Is w v zs) (h' : Is w u ys) :
    Calls Try.prog 99 #[v, u, .func (.func 100) #[] #[]] w fun e w' => e = .returned (.int .i64 (cmpL zs ys)) ∧ Below w.heap.size w w' := by
  obtain ⟨-, a, cap, rfl, hc, hm, -, hr⟩ := h
  obtain ⟨-, a', cap', rfl, hc', hm', -, hr'⟩ := h'
  unfold maxLen at hm hm'
  obtain ⟨n, hn⟩ : ∃ n, n = zs.length := ⟨_, rfl⟩
  obtain ⟨m, hmm⟩ : ∃ m, m = ys.length := ⟨_, rfl⟩
  rw [← hn] at hc hr ⊢
  rw [← hmm] at hc' hr' ⊢
  have HN := hide hn
  have HM := hide hmm
  clear hn hmm
  obtain ⟨R, hR⟩ : ∃ R, R = cmpL zs ys := ⟨_, rfl⟩
  rw [← hR]
  have HR := hide hR
  clear hR
  go_enter Try.func99, Try.ntmps99
  go_wp2_with fail
  go_loopw [13] (fun i wr => ∃ k : Nat, k ≤ n ∧ k ≤ m ∧ i = .int .i64 k ∧ CLeft zs ys k ∧ Below w.heap.size w wr) (fun i _ => n - (intOf i).toNat)
  case atStart => exact ⟨0, Nat.zero_le _, Nat.zero_le _, rfl, left_start zs ys, Below.refl _ _⟩
  case round =>
    obtain ⟨k, hk, hkm, rfl, hcl, hbel⟩ := hrel
    have HO := hide hcl
    clear hcl
    have hsz := hbel.size
    have hk0 : (0 : Int) ≤ (k : Int) := Int.natCast_nonneg _
    by_cases hlt : k < n
    · obtain ⟨b, off, rfl, hl, hcells⟩ := hr (by omega)
      obtain ⟨A, B, hX⟩ : ∃ A B, (A, B) = at' zs k := ⟨_, _, rfl⟩
      have fa := ag (by have := unhide HN; omega) A B hX
      have hc0 : wr.cell? ⟨b, off + k * 2, none⟩ = some (.string A) := (hbel.cell (p := ⟨b, _, none⟩) hl).trans (hcells (k * 2) _ fa.1)
      have hc1 : wr.cell? ⟨b, off + k * 2 + 1, none⟩ = some (.string B) := (hbel.cell (p := ⟨b, _, none⟩) hl).trans (hcells (k * 2 + 1) _ fa.2)
      have HX := hide hX
      clear hX fa
      have hk1 : (k : Int) < (n : Int) := by omega
      by_cases hlm : k < m
      · obtain ⟨b', off', rfl, hl', hcells'⟩ := hr' (by omega)
        obtain ⟨C, D, hY⟩ : ∃ C D, (C, D) = at' ys k := ⟨_, _, rfl⟩
        have fb := ag (by have := unhide HM; omega) C D hY
        have hbl1 : b' < wr.heap.size := by omega
        have hd0 : wr.cell? ⟨b', off' + k * 2, none⟩ = some (.string C) := (hbel.cell (p := ⟨b', _, none⟩) hl').trans (hcells' (k * 2) _ fb.1)
        have hd1 : wr.cell? ⟨b', off' + k * 2 + 1, none⟩ = some (.string D) := (hbel.cell (p := ⟨b', _, none⟩) hl').trans (hcells' (k * 2 + 1) _ fb.2)
        have hA : ∀ o j, (wr.alloc o).cell? ⟨b', j, none⟩ = wr.cell? ⟨b', j, none⟩ := fun o j => World.cell?_alloc_lt _ _ _ hbl1
        have hd0' : ∀ o, (wr.alloc o).cell? ⟨b', off' + k * 2, none⟩ = some (.string C) := fun o => (hA o _).trans hd0
        have hd1' : ∀ o, (wr.alloc o).cell? ⟨b', off' + k * 2 + 1, none⟩ = some (.string D) := fun o => (hA o _).trans hd1
        have HY := hide hY
        clear hY fb hA
        have hk2 : (k : Int) < (m : Int) := by omega
        have hge : decide ((m : Int) ≤ (k : Int)) = false := by simp; omega
        have HC := hide (fun W => labelCmp_any A B C D W)
        have HCE := hide (show cmpE (A, B) (C, D) = cmpE (at' zs k) (at' ys k) by rw [← unhide HX, ← unhide HY])
        have hrg := cmpE_range (A, B) (C, D)
        generalize cmpE (A, B) (C, D) = X at HC HCE hrg
        go_wp2_with fail
        refine (unhide HC _).mono ?_
        rintro e w2 ⟨rfl, b2⟩
        have c2 : Below w.heap.size w w2 := ((hbel.alloc hsz _).alloc (by simp; omega) _).trans (b2.mono (by simp; omega))
        clear b2 hd0' hd1'
        by_cases hX0 : X = 0
        · have HL := hide (left_next (unhide HO) (by have := unhide HN; omega) (by have := unhide HM; omega) (by rw [← unhide HCE]; exact hX0))
          subst hX0
          go_wp2_with fail
          go_roundw
          case rel => exact ⟨k + 1, by omega, by omega, by go_num, unhide HL, c2⟩
          case measure => simp [intOf]; omega
        · have hXn : (X != 0) = true := by simpa using hX0
          have hXb : (X == 0) = false := by simpa using hX0
          have HL := hide (show R = X by rw [unhide HR, left_stop (unhide HO) (by have := unhide HN; omega) (by have := unhide HM; omega) (by rw [← unhide HCE]; exact hX0), ← unhide HCE])
          go_wp2_with fail
          go_ret
          exact ⟨ret_int (unhide HL).symm, c2⟩
      · have hge : (m : Int) ≤ (k : Int) := by omega
        have HL := hide (show R = 1 by rw [unhide HR]; exact left_long (unhide HO) (by have := unhide HN; omega) (by have := unhide HM; omega))
        go_wp2_with fail
        go_ret
        exact ⟨ret_int (unhide HL).symm, hbel.alloc hsz _⟩
    · have hkf : decide ((k : Int) < (n : Int)) = false := by simp; omega
      by_cases hlm : n < m
      · have hnm : (n : Int) < (m : Int) := by omega
        have HL := hide (show R = -1 by rw [unhide HR]; exact left_short (unhide HO) (by have := unhide HN; omega) (by have := unhide HM; omega))
        go_wp2_with fail
        go_ret
        exact ⟨ret_int (unhide HL).symm, hbel⟩
      · have hnm : decide ((n : Int) < (m : Int)) = false := by simp; omega
        have HL := hide (show R = 0 by rw [unhide HR]; exact left_same (unhide HO) (by have := unhide HN; omega) (by have := unhide HM; omega))
        go_wp2_with fail
        go_ret
        exact ⟨ret_int (unhide HL).symm, hbel⟩
theorem run_lss (a b : ByteArray) (W : World) : (binOp .lss 9 (.string a) (.string b)).run Try.prog W = .ok (.bool (ltS a b)) W := rfl
theorem run_gtr (a b : ByteArray) (W : World) : (binOp .gtr 9 (.string a) (.string b)).run Try.prog W = .ok (.bool (!(ltS a b || a.toList == b.toList))) W := rfl
theorem l3Texts_any (a b : ByteArray) (w : World) : Calls Try.prog 97 #[.string a, .string b] w fun e w' => e = .returned (.int .i64 (cmpS a b)) ∧ w' = w := by
  rw [cmpS_eq]
  cases h1 : ltS a b
  · by_cases h2 : a.toList = b.toList
    · have l1 : ∀ W, (binOp .lss 9 (.string a) (.string b)).run Try.prog W = .ok (.bool false) W := fun W => by rw [run_lss, h1]
      have l2 : ∀ W, (binOp .gtr 9 (.string a) (.string b)).run Try.prog W = .ok (.bool false) W := fun W => by rw [run_gtr, h1, h2]; simp
      have l3 : Op.bytesLess a.toList b.toList = false := h1
      rw [if_neg (by simp), if_pos h2]
      have l4 : (a.toList == b.toList) = true := by simpa using h2
      clear h1 h2
      go_enter Try.func97, Try.ntmps97
      go_wp2
      go_ret
      exact ⟨rfl, rfl⟩
    · have l1 : ∀ W, (binOp .lss 9 (.string a) (.string b)).run Try.prog W = .ok (.bool false) W := fun W => by rw [run_lss, h1]
      have l4 : (a.toList == b.toList) = false := by simpa using h2
      have l2 : ∀ W, (binOp .gtr 9 (.string a) (.string b)).run Try.prog W = .ok (.bool true) W := fun W => by rw [run_gtr, h1, l4]; rfl
      have l3 : Op.bytesLess a.toList b.toList = false := h1
      rw [if_neg (by simp), if_neg h2]
      clear h1 h2
      go_enter Try.func97, Try.ntmps97
      go_wp2
      go_ret
      exact ⟨rfl, rfl⟩
  · have l1 : ∀ W, (binOp .lss 9 (.string a) (.string b)).run Try.prog W = .ok (.bool true) W := fun W => by rw [run_lss, h1]
    have l3 : Op.bytesLess a.toList b.toList = true := h1
    rw [if_pos rfl]
    clear h1
    go_enter Try.func97, Try.ntmps97
    go_wp2
    go_ret
    exact ⟨rfl, rfl⟩
end Go.Proofs.Ytomncodkbcngmaa.Lab
