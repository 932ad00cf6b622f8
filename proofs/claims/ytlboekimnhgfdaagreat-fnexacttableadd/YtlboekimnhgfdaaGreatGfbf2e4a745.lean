/- My own texts of one claim, laid together by program: LabCmp, LabCmp2, LabCmp3, SamOk. -/
import Derived.Test.YtlboekimnhgfdaaGreatG41a3f3c89c
import Derived.Test.YtlboekimnhgfdaaGreatG7bcfe9c19e
import Derived.Deep.RegionWith
import Derived.Test.YtlboekimnhgfdaaGreatGced19cb9cc
import Derived.Test.YtlboekimnhgfdaaGreatG5b9f8c3b84
/- LabelsCmp of the program, at every two slices of labels. -/
namespace Go.Proofs.YtlboekimnhgfdaaGreat.Lab
open Go.RowKit Rw
set_option linter.unusedVariables false
attribute [local go_sem ↓] Go.wp_at_zero Go.wp_at_succ
theorem new_cell {W : World} {cs : Array Value} {t : TypeId} {B o : Nat} {u : Value} (hB : B = W.heap.size) (h : cs[o]? = some u) : (W.alloc (.cells cs t)).cell? ⟨B, o, none⟩ = some u := by
  subst hB
  rw [cell_of_row (W.alloc (.cells cs t)) W.heap.size o cs t _ (heap_alloc_new W _)]
  exact h
set_option maxHeartbeats 1000000 in
theorem or_any (g cap : Nat) (x y : Int) (w : World) (h0 : w.cell? ⟨g, 0, none⟩ = some (.int .i64 x)) (h1 : w.cell? ⟨g, 1, none⟩ = some (.int .i64 y)) :
    Calls Tryz.prog 157 #[.slice (some ⟨g, 0, none⟩) 2 cap] w fun e w' => e = .returned (.int .i64 (if x ≠ 0 then x else y)) ∧ w' = w := by
  obtain ⟨R, hR⟩ : ∃ R, R = if x ≠ 0 then x else y := ⟨_, rfl⟩
  rw [← hR]
  have HR := hide hR
  clear hR
  go_enter Tryz.func157, Tryz.ntmps157
  go_wp2
  go_loop [8] (fun i => ∃ k : Nat, k ≤ 2 ∧ i = .int .i64 k ∧ (0 < k → x = 0) ∧ (1 < k → y = 0)) (fun i => 2 - (intOf i).toNat)
  case atStart => exact ⟨0, by omega, rfl, fun h => by omega, fun h => by omega⟩
  case round =>
    obtain ⟨k, hk, rfl, ha, hb⟩ := hrel
    rcases (show k = 0 ∨ k = 1 ∨ k = 2 from by omega) with rfl | rfl | rfl
    · by_cases hx : x = 0
      · subst hx
        go_wp2
        go_round
        case rel => exact ⟨1, by omega, rfl, fun _ => by first | rfl | trivial, fun h => by omega⟩
        case measure => simp [intOf]
      · have hxb : (x == 0) = false := by simpa using hx
        have hxn : (x != 0) = true := by simpa using hx
        have HRx := hide (show R = x by rw [unhide HR, if_pos hx])
        go_wp2
        go_ret
        exact ⟨ret_int (unhide HRx).symm, rfl⟩
    · have hx := ha (by omega)
      have HRy := hide (show R = y by rw [unhide HR, if_neg (by simp [hx])])
      clear ha hb
      by_cases hy : y = 0
      · subst hy
        have HX := hide hx
        clear hx
        go_wp2
        go_round
        case rel => exact ⟨2, by omega, rfl, fun _ => unhide HX, fun _ => by first | rfl | trivial⟩
        case measure => simp [intOf]
      · have hyb : (y == 0) = false := by simpa using hy
        have hyn : (y != 0) = true := by simpa using hy
        clear hx
        go_wp2
        go_ret
        exact ⟨ret_int (unhide HRy).symm, rfl⟩
    · have hx := ha (by omega)
      have hy := hb (by omega)
      have HRz := hide (show R = 0 by rw [unhide HR, if_neg (by simp [hx]), hy])
      clear ha hb hx hy
      go_wp2
      go_ret
      exact ⟨ret_int (unhide HRz).symm, rfl⟩
theorem or_is (g cap : Nat) (x y R : Int) (w : World) (hR : R = if x ≠ 0 then x else y) (h0 : w.cell? ⟨g, 0, none⟩ = some (.int .i64 x)) (h1 : w.cell? ⟨g, 1, none⟩ = some (.int .i64 y)) :
    Calls Tryz.prog 157 #[.slice (some ⟨g, 0, none⟩) 2 cap] w fun e w' => e = .returned (.int .i64 R) ∧ w' = w := by rw [hR]; exact or_any g cap x y w h0 h1
set_option maxRecDepth 100000 in
set_option maxHeartbeats 4000000 in
theorem labelCmp_any (A B C D : ByteArray) (w : World) : Calls Tryz.prog 140 #[.agg #[.string A, .string B], .agg #[.string C, .string D]] w fun e w' => e = .returned (.int .i64 (cmpE (A, B) (C, D))) ∧ Below w.heap.size w w' := by
  have H1 := hide (fun W => show Calls Tryz.prog 158 #[.string A, .string C] W fun e w' => e = .returned (.int .i64 (cmpS A C)) ∧ w' = W from Tryz.strings_Compare A C W)
  have H2 := hide (fun W => show Calls Tryz.prog 158 #[.string B, .string D] W fun e w' => e = .returned (.int .i64 (cmpS B D)) ∧ w' = W from Tryz.strings_Compare B D W)
  have HE := hide (show cmpE (A, B) (C, D) = if cmpS A C ≠ 0 then cmpS A C else cmpS B D from rfl)
  generalize cmpE (A, B) (C, D) = R at HE
  generalize cmpS A C = X at H1 HE
  generalize cmpS B D = Y at H2 HE
  go_enter Tryz.func140, Tryz.ntmps140
  go_wp2_with fail
  go_region_with (first
    | (go_at_call_of 158 (A); refine (unhide H1 _).mono ?_; rintro e w1 ⟨rfl, hw1⟩; subst hw1)
    | (go_at_call_of 158 (B); refine (unhide H2 _).mono ?_; rintro e w1 ⟨rfl, hw1⟩; subst hw1)
    | (go_at_call 157; refine (or_is _ _ X Y R _ (unhide HE) (by simp; exact new_cell (by simp) rfl) (by simp; exact new_cell (by simp) rfl)).mono ?_; rintro e w1 ⟨rfl, hw1⟩; subst hw1))
  all_goals
    go_wp2_with fail
    go_ret
    exact ⟨rfl, ((((Below.refl _ _).alloc (Nat.le_refl _) _).alloc (by simp) _).alloc (by simp; omega) _).drew⟩
end Go.Proofs.YtlboekimnhgfdaaGreat.Lab

/- LabelsCmp, of the program and of the model, at every two slices of labels. -/
namespace Go.Proofs.YtlboekimnhgfdaaGreat.Lab
open Go.RowKit Rw
set_option linter.unusedVariables false
attribute [local go_sem ↓] Go.wp_at_zero Go.wp_at_succ
theorem ag {zs : List E} {k : Nat} (h : k < zs.length) (A B : ByteArray) (e : (A, B) = at' zs k) : (flat zs)[k * 2]? = some (.string A) ∧ (flat zs)[k * 2 + 1]? = some (.string B) := by
  have := flat_at zs k h
  rwa [← e] at this
set_option maxRecDepth 100000 in
set_option maxHeartbeats 4000000 in
theorem compareFunc_any {w : World} {v u : Value} {zs ys : List E} (h : Is w v zs) (h' : Is w u ys) :
    Calls Tryz.prog 139 #[v, u, .func (.func 140) #[] #[]] w fun e w' => e = .returned (.int .i64 (cmpL zs ys)) ∧ Below w.heap.size w w' := by
  obtain ⟨-, a, cap, rfl, hc, hm, -, hr⟩ := h
  obtain ⟨-, a', cap', rfl, hc', hm', -, hr'⟩ := h'
  unfold maxLen at hm hm'
  obtain ⟨n, hn⟩ : ∃ n, n = zs.length := ⟨_, rfl⟩
  obtain ⟨m, hmm⟩ : ∃ m, m = ys.length := ⟨_, rfl⟩
  rw [← hn] at hc hr ⊢
  rw [← hmm] at hc' hr' ⊢
  have HN := hide hn
  have HM := hide hmm
  clear hn hmm
  obtain ⟨R, hR⟩ : ∃ R, R = cmpL zs ys := ⟨_, rfl⟩
  rw [← hR]
  have HR := hide hR
  clear hR
  go_enter Tryz.func139, Tryz.ntmps139
  go_wp2_with fail
  go_loopw [13] (fun i wr => ∃ k : Nat, k ≤ n ∧ k ≤ m ∧ i = .int .i64 k ∧ CLeft zs ys k ∧ Below w.heap.size w wr) (fun i _ => n - (intOf i).toNat)
  case atStart => exact ⟨0, Nat.zero_le _, Nat.zero_le _, rfl, left_start zs ys, Below.refl _ _⟩
  case round =>
    obtain ⟨k, hk, hkm, rfl, hcl, hbel⟩ := hrel
    have HO := hide hcl
    clear hcl
    have hsz := hbel.size
    have hk0 : (0 : Int) ≤ (k : Int) := Int.natCast_nonneg _
    by_cases hlt : k < n
    · obtain ⟨b, off, rfl, hl, hcells⟩ := hr (by omega)
      obtain ⟨A, B, hX⟩ : ∃ A B, (A, B) = at' zs k := ⟨_, _, rfl⟩
      have fa := ag (by have := unhide HN; omega) A B hX
      have hc0 : wr.cell? ⟨b, off + k * 2, none⟩ = some (.string A) := (hbel.cell (p := ⟨b, _, none⟩) hl).trans (hcells (k * 2) _ fa.1)
      have hc1 : wr.cell? ⟨b, off + k * 2 + 1, none⟩ = some (.string B) := (hbel.cell (p := ⟨b, _, none⟩) hl).trans (hcells (k * 2 + 1) _ fa.2)
      have HX := hide hX
      clear hX fa
      have hk1 : (k : Int) < (n : Int) := by omega
      by_cases hlm : k < m
      · obtain ⟨b', off', rfl, hl', hcells'⟩ := hr' (by omega)
        obtain ⟨C, D, hY⟩ : ∃ C D, (C, D) = at' ys k := ⟨_, _, rfl⟩
        have fb := ag (by have := unhide HM; omega) C D hY
        have hbl1 : b' < wr.heap.size := by omega
        have hd0 : wr.cell? ⟨b', off' + k * 2, none⟩ = some (.string C) := (hbel.cell (p := ⟨b', _, none⟩) hl').trans (hcells' (k * 2) _ fb.1)
        have hd1 : wr.cell? ⟨b', off' + k * 2 + 1, none⟩ = some (.string D) := (hbel.cell (p := ⟨b', _, none⟩) hl').trans (hcells' (k * 2 + 1) _ fb.2)
        have hA : ∀ o j, (wr.alloc o).cell? ⟨b', j, none⟩ = wr.cell? ⟨b', j, none⟩ := fun o j => World.cell?_alloc_lt _ _ _ hbl1
        have hd0' : ∀ o, (wr.alloc o).cell? ⟨b', off' + k * 2, none⟩ = some (.string C) := fun o => (hA o _).trans hd0
        have hd1' : ∀ o, (wr.alloc o).cell? ⟨b', off' + k * 2 + 1, none⟩ = some (.string D) := fun o => (hA o _).trans hd1
        have HY := hide hY
        clear hY fb hA
        have hk2 : (k : Int) < (m : Int) := by omega
        have hge : decide ((m : Int) ≤ (k : Int)) = false := by simp; omega
        have HC := hide (fun W => labelCmp_any A B C D W)
        have HCE := hide (show cmpE (A, B) (C, D) = cmpE (at' zs k) (at' ys k) by rw [← unhide HX, ← unhide HY])
        have hrg := cmpE_range (A, B) (C, D)
        generalize cmpE (A, B) (C, D) = X at HC HCE hrg
        go_wp2_with fail
        refine (unhide HC _).mono ?_
        rintro e w2 ⟨rfl, b2⟩
        have c2 : Below w.heap.size w w2 := ((hbel.alloc hsz _).alloc (by simp; omega) _).trans (b2.mono (by simp; omega))
        clear b2 hd0' hd1'
        by_cases hX0 : X = 0
        · have HL := hide (left_next (unhide HO) (by have := unhide HN; omega) (by have := unhide HM; omega) (by rw [← unhide HCE]; exact hX0))
          subst hX0
          go_wp2_with fail
          go_roundw
          case rel => exact ⟨k + 1, by omega, by omega, by go_num, unhide HL, c2⟩
          case measure => simp [intOf]; omega
        · have hXn : (X != 0) = true := by simpa using hX0
          have hXb : (X == 0) = false := by simpa using hX0
          have HL := hide (show R = X by rw [unhide HR, left_stop (unhide HO) (by have := unhide HN; omega) (by have := unhide HM; omega) (by rw [← unhide HCE]; exact hX0), ← unhide HCE])
          go_wp2_with fail
          go_ret
          exact ⟨ret_int (unhide HL).symm, c2⟩
      · have hge : (m : Int) ≤ (k : Int) := by omega
        have HL := hide (show R = 1 by rw [unhide HR]; exact left_long (unhide HO) (by have := unhide HN; omega) (by have := unhide HM; omega))
        go_wp2_with fail
        go_ret
        exact ⟨ret_int (unhide HL).symm, hbel.alloc hsz _⟩
    · have hkf : decide ((k : Int) < (n : Int)) = false := by simp; omega
      by_cases hlm : n < m
      · have hnm : (n : Int) < (m : Int) := by omega
        have HL := hide (show R = -1 by rw [unhide HR]; exact left_short (unhide HO) (by have := unhide HN; omega) (by have := unhide HM; omega))
        go_wp2_with fail
        go_ret
        exact ⟨ret_int (unhide HL).symm, hbel⟩
      · have hnm : decide ((n : Int) < (m : Int)) = false := by simp; omega
        have HL := hide (show R = 0 by rw [unhide HR]; exact left_same (unhide HO) (by have := unhide HN; omega) (by have := unhide HM; omega))
        go_wp2_with fail
        go_ret
        exact ⟨ret_int (unhide HL).symm, hbel⟩
theorem run_lss (a b : ByteArray) (W : World) : (binOp .lss 9 (.string a) (.string b)).run Tryz.prog W = .ok (.bool (ltS a b)) W := rfl
theorem run_gtr (a b : ByteArray) (W : World) : (binOp .gtr 9 (.string a) (.string b)).run Tryz.prog W = .ok (.bool (!(ltS a b || a.toList == b.toList))) W := rfl
theorem l3Texts_any (a b : ByteArray) (w : World) : Calls Tryz.prog 138 #[.string a, .string b] w fun e w' => e = .returned (.int .i64 (cmpS a b)) ∧ w' = w := by
  rw [cmpS_eq]
  cases h1 : ltS a b
  · by_cases h2 : a.toList = b.toList
    · have l1 : ∀ W, (binOp .lss 9 (.string a) (.string b)).run Tryz.prog W = .ok (.bool false) W := fun W => by rw [run_lss, h1]
      have l2 : ∀ W, (binOp .gtr 9 (.string a) (.string b)).run Tryz.prog W = .ok (.bool false) W := fun W => by rw [run_gtr, h1, h2]; simp
      have l3 : Op.bytesLess a.toList b.toList = false := h1
      rw [if_neg (by simp), if_pos h2]
      have l4 : (a.toList == b.toList) = true := by simpa using h2
      clear h1 h2
      go_enter Tryz.func138, Tryz.ntmps138
      go_wp2
      go_ret
      exact ⟨rfl, rfl⟩
    · have l1 : ∀ W, (binOp .lss 9 (.string a) (.string b)).run Tryz.prog W = .ok (.bool false) W := fun W => by rw [run_lss, h1]
      have l4 : (a.toList == b.toList) = false := by simpa using h2
      have l2 : ∀ W, (binOp .gtr 9 (.string a) (.string b)).run Tryz.prog W = .ok (.bool true) W := fun W => by rw [run_gtr, h1, l4]; rfl
      have l3 : Op.bytesLess a.toList b.toList = false := h1
      rw [if_neg (by simp), if_neg h2]
      clear h1 h2
      go_enter Tryz.func138, Tryz.ntmps138
      go_wp2
      go_ret
      exact ⟨rfl, rfl⟩
  · have l1 : ∀ W, (binOp .lss 9 (.string a) (.string b)).run Tryz.prog W = .ok (.bool true) W := fun W => by rw [run_lss, h1]
    have l3 : Op.bytesLess a.toList b.toList = true := h1
    rw [if_pos rfl]
    clear h1
    go_enter Tryz.func138, Tryz.ntmps138
    go_wp2
    go_ret
    exact ⟨rfl, rfl⟩
end Go.Proofs.YtlboekimnhgfdaaGreat.Lab

/- LabelsCmp, of the program and of the model. -/
namespace Go.Proofs.YtlboekimnhgfdaaGreat.Lab
open Go.RowKit Rw
set_option linter.unusedVariables false
attribute [local go_sem ↓] Go.wp_at_zero Go.wp_at_succ
set_option maxRecDepth 100000 in
set_option maxHeartbeats 4000000 in
theorem l3Cmp_any {w : World} {v u : Value} {zs ys : List E} (h : Is w v zs) (h' : Is w u ys) :
    Calls Tryz.prog 108 #[v, u] w fun e w' => e = .returned (.int .i64 (cmpL zs ys)) ∧ Below w.heap.size w w' := by
  obtain ⟨-, a, cap, rfl, hc, hm, -, hr⟩ := h
  obtain ⟨-, a', cap', rfl, hc', hm', -, hr'⟩ := h'
  unfold maxLen at hm hm'
  obtain ⟨n, hn⟩ : ∃ n, n = zs.length := ⟨_, rfl⟩
  obtain ⟨m, hmm⟩ : ∃ m, m = ys.length := ⟨_, rfl⟩
  rw [← hn] at hc hr ⊢
  rw [← hmm] at hc' hr' ⊢
  have HN := hide hn
  have HM := hide hmm
  clear hn hmm
  obtain ⟨R, hR⟩ : ∃ R, R = cmpL zs ys := ⟨_, rfl⟩
  rw [← hR]
  have HR := hide hR
  clear hR
  go_enter Tryz.func108, Tryz.ntmps108
  go_wp2_with fail
  go_loopw [5] (fun i wr => ∃ k : Nat, k ≤ n ∧ k ≤ m ∧ i = .int .i64 k ∧ CLeft zs ys k ∧ Below w.heap.size w wr) (fun i _ => n - (intOf i).toNat)
  case atStart => exact ⟨0, Nat.zero_le _, Nat.zero_le _, rfl, left_start zs ys, Below.refl _ _⟩
  case round =>
    obtain ⟨k, hk, hkm, rfl, hcl, hbel⟩ := hrel
    have HO := hide hcl
    clear hcl
    have hsz := hbel.size
    have hk0 : (0 : Int) ≤ (k : Int) := Int.natCast_nonneg _
    by_cases hlt : k < n ∧ k < m
    · obtain ⟨hlt, hlm⟩ := hlt
      obtain ⟨b, off, rfl, hl, hcells⟩ := hr (by omega)
      obtain ⟨b', off', rfl, hl', hcells'⟩ := hr' (by omega)
      obtain ⟨A, B, hX⟩ : ∃ A B, (A, B) = at' zs k := ⟨_, _, rfl⟩
      obtain ⟨C, D, hY⟩ : ∃ C D, (C, D) = at' ys k := ⟨_, _, rfl⟩
      have fa := ag (by have := unhide HN; omega) A B hX
      have fb := ag (by have := unhide HM; omega) C D hY
      have hb1 : b < wr.heap.size := by omega
      have hb1' : b' < wr.heap.size := by omega
      have hc0 : wr.cell? ⟨b, off + k * 2, none⟩ = some (.string A) := (hbel.cell (p := ⟨b, _, none⟩) hl).trans (hcells (k * 2) _ fa.1)
      have hc1 : wr.cell? ⟨b, off + k * 2 + 1, none⟩ = some (.string B) := (hbel.cell (p := ⟨b, _, none⟩) hl).trans (hcells (k * 2 + 1) _ fa.2)
      have hd0 : wr.cell? ⟨b', off' + k * 2, none⟩ = some (.string C) := (hbel.cell (p := ⟨b', _, none⟩) hl').trans (hcells' (k * 2) _ fb.1)
      have hd1 : wr.cell? ⟨b', off' + k * 2 + 1, none⟩ = some (.string D) := (hbel.cell (p := ⟨b', _, none⟩) hl').trans (hcells' (k * 2 + 1) _ fb.2)
      have HX := hide hX
      have HY := hide hY
      clear hX hY fa fb
      have hk1 : (k : Int) < (n : Int) := by omega
      have hk2 : (k : Int) < (m : Int) := by omega
      have HC1 := hide (fun W => l3Texts_any A C W)
      have HC2 := hide (fun W => l3Texts_any B D W)
      have HCE := hide (show cmpE (at' zs k) (at' ys k) = if cmpS A C ≠ 0 then cmpS A C else cmpS B D by rw [← unhide HX, ← unhide HY]; rfl)
      have hrg := cmpS_range A C
      have hrg2 := cmpS_range B D
      generalize cmpS A C = X at HC1 HCE hrg
      generalize cmpS B D = Y at HC2 HCE hrg2
      have hb0 := Below.refl wr.heap.size wr
      have q0 : ∀ x : Cls wr.heap.size wr, x.val.cell? ⟨b, off + k * 2, none⟩ = some (.string A) := fun x => by rw [x.cell hb1]; exact hc0
      have q1 : ∀ x : Cls wr.heap.size wr, x.val.cell? ⟨b', off' + k * 2, none⟩ = some (.string C) := fun x => by rw [x.cell hb1']; exact hd0
      have hne := cls_nonempty wr.heap.size wr
      go_wp2_with fail
      refine region_cls (by kernel_rfl) (by kernel_rfl) ?_
      repeat (go_big_quiet_step ((go_at_call 138; exact cls_same (unhide HC1 _))))
      refine wpQuiet_nil ?_
      rintro w2 ⟨⟨_, b2⟩, rfl⟩
      clear q0 q1 hne
      have c2 := hbel.trans (b2.mono hsz)
      have hs2 := b2.size
      by_cases hX0 : X = 0
      · subst hX0
        have q2 : ∀ x : Cls w2.heap.size w2, x.val.cell? ⟨b, off + k * 2 + 1, none⟩ = some (.string B) := fun x => by rw [x.cell (by omega)]; exact (b2.cell (p := ⟨b, _, none⟩) hb1).trans hc1
        have q3 : ∀ x : Cls w2.heap.size w2, x.val.cell? ⟨b', off' + k * 2 + 1, none⟩ = some (.string D) := fun x => by rw [x.cell (by omega)]; exact (b2.cell (p := ⟨b', _, none⟩) hb1').trans hd1
        have hne := cls_nonempty w2.heap.size w2
        go_wp2_with fail
        refine region_cls (by kernel_rfl) (by kernel_rfl) ?_
        repeat (go_big_quiet_step ((go_at_call 138; exact cls_same (unhide HC2 _))))
        refine wpQuiet_nil ?_
        rintro w3 ⟨⟨_, b3⟩, rfl⟩
        clear q2 q3 hne
        have c3 := c2.trans (b3.mono c2.size)
        by_cases hY0 : Y = 0
        · have HL := hide (left_next (unhide HO) (by have := unhide HN; omega) (by have := unhide HM; omega) (by rw [unhide HCE]; simp [hY0]))
          subst hY0
          go_wp2_with fail
          go_roundw
          case rel => exact ⟨k + 1, by omega, by omega, by go_num, unhide HL, c3⟩
          case measure => simp [intOf]; omega
        · have hYn : (Y != 0) = true := by simpa using hY0
          have hYb : (Y == 0) = false := by simpa using hY0
          have HL := hide (show R = Y by rw [unhide HR, left_stop (unhide HO) (by have := unhide HN; omega) (by have := unhide HM; omega) (by rw [unhide HCE]; simpa using hY0), unhide HCE]; simp)
          go_wp2_with fail
          go_ret
          exact ⟨ret_int (unhide HL).symm, c3⟩
      · have hXn : (X != 0) = true := by simpa using hX0
        have hXb : (X == 0) = false := by simpa using hX0
        have HL := hide (show R = X by rw [unhide HR, left_stop (unhide HO) (by have := unhide HN; omega) (by have := unhide HM; omega) (by rw [unhide HCE, if_pos hX0]; exact hX0), unhide HCE, if_pos hX0])
        go_wp2_with fail
        go_ret
        exact ⟨ret_int (unhide HL).symm, c2⟩
    · rcases (show n < m ∨ m < n ∨ n = m from by omega) with hnm | hnm | hnm
      · have h1 : (n : Int) < (m : Int) := by omega
        have hkf : decide ((k : Int) < (n : Int)) = false := by simp; omega
        have HL := hide (show R = -1 by rw [unhide HR]; exact left_short (unhide HO) (by have := unhide HN; omega) (by have := unhide HM; omega))
        go_wp2_with fail
        go_ret
        exact ⟨ret_int (unhide HL).symm, hbel⟩
      · have h1 : decide ((n : Int) < (m : Int)) = false := by simp; omega
        have h2 : (m : Int) < (n : Int) := by omega
        have hkn : (k : Int) < (n : Int) := by omega
        have hkf : decide ((k : Int) < (m : Int)) = false := by simp; omega
        have HL := hide (show R = 1 by rw [unhide HR]; exact left_long (unhide HO) (by have := unhide HN; omega) (by have := unhide HM; omega))
        go_wp2_with fail
        go_ret
        exact ⟨ret_int (unhide HL).symm, hbel⟩
      · have h1 : decide ((n : Int) < (m : Int)) = false := by simp; omega
        have h2 : decide ((m : Int) < (n : Int)) = false := by simp; omega
        have hkf : decide ((k : Int) < (n : Int)) = false := by simp; omega
        have HL := hide (show R = 0 by rw [unhide HR]; exact left_same (unhide HO) (by have := unhide HN; omega) (by have := unhide HM; omega))
        go_wp2_with fail
        go_ret
        exact ⟨ret_int (unhide HL).symm, hbel⟩
set_option maxHeartbeats 1000000 in
theorem impl_cmp {w : World} {v u : Value} {zs ys : List E} (h : Is w v zs) (h' : Is w u ys) (hg : ∀ x ∈ zs, good x) (hg' : ∀ x ∈ ys, good x) (hz : zs.length ≤ maxLen) (hy : ys.length ≤ maxLen) :
    Calls Tryz.prog 110 #[v, u] w fun e w' => e = .returned (.int .i64 (cmp zs ys)) ∧ Below w.heap.size w w' := by
  have H1 := hide (impl_ok h hg)
  have H2 := hide (fun W (hb : Below w.heap.size w W) => impl_ok (h'.below hb) hg')
  have H3 := hide (fun W (hb : Below w.heap.size w W) => compareFunc_any (h.below hb) (h'.below hb))
  clear h h' hg hg'
  cases ho : ok zs
  · have HR := hide (show cmp zs ys = 0 from cmp_bad (.inl ho))
    rw [ho] at H1
    clear ho
    go_enter Tryz.func110, Tryz.ntmps110
    go_wp2_with fail
    refine (unhide H1).mono ?_
    rintro e w1 ⟨rfl, b1⟩
    go_wp2_with fail
    go_ret
    exact ⟨ret_int (unhide HR).symm, b1⟩
  · rw [ho] at H1
    cases ho' : ok ys
    · have HR := hide (show cmp zs ys = 0 from cmp_bad (.inr ho'))
      rw [ho'] at H2
      clear ho ho'
      go_enter Tryz.func110, Tryz.ntmps110
      go_wp2_with fail
      refine (unhide H1).mono ?_
      rintro e w1 ⟨rfl, b1⟩
      go_wp2_with fail
      refine (unhide H2 _ b1).mono ?_
      rintro e w2 ⟨rfl, b2⟩
      have c2 := b1.trans (b2.mono b1.size)
      go_wp2_with fail
      go_ret
      exact ⟨ret_int (unhide HR).symm, c2⟩
    · have HR := hide (show cmp zs ys = cmpL zs ys from cmp_ok ho ho')
      rw [ho'] at H2
      clear ho ho'
      go_enter Tryz.func110, Tryz.ntmps110
      go_wp2_with fail
      refine (unhide H1).mono ?_
      rintro e w1 ⟨rfl, b1⟩
      go_wp2_with fail
      refine (unhide H2 _ b1).mono ?_
      rintro e w2 ⟨rfl, b2⟩
      have c2 := b1.trans (b2.mono b1.size)
      go_wp2_with fail
      refine (unhide H3 _ c2).mono ?_
      rintro e w3 ⟨rfl, b3⟩
      have c3 := c2.trans (b3.mono c2.size)
      go_wp2_with fail
      go_ret
      exact ⟨ret_int (unhide HR).symm, c3⟩
end Go.Proofs.YtlboekimnhgfdaaGreat.Lab

/- SamplesOk, of the program and of the model, at slices of samples whose address is open. -/
namespace Go.Proofs.YtlboekimnhgfdaaGreat.Sam
open Go.RowKit Rw
set_option linter.unusedVariables false
attribute [local go_sem ↓] Go.wp_at_zero Go.wp_at_succ
theorem reads_of {w : World} {b off : Nat} {zs : List E} (hc : ∀ (j : Nat) u, (flat zs)[j]? = some u → w.cell? ⟨b, off + j, none⟩ = some u) : Samp.Reads w b off zs := fun i hi =>
  ⟨hc (i * 2) _ (flat_at zs i hi).1, hc (i * 2 + 1) _ (flat_at zs i hi).2⟩
theorem impl_ok_zero (a : Option Addr) (cap : Nat) (w : World) : Calls Tryz.prog 111 #[.slice a 0 cap] w fun e w' => e = .returned (.bool (SampMath.ok [])) ∧ Below w.heap.size w w' := by
  go_enter Tryz.func111, Tryz.ntmps111
  go_wp2
  refine wp_loop_rounds 1 ?_
  rw [rounds_succ]
  go_wp2
  go_ret
  exact ⟨rfl, Below.refl _ _⟩
theorem spec_ok_zero (a : Option Addr) (cap : Nat) (w : World) : Calls Tryz.prog 107 #[.slice a 0 cap] w fun e w' => e = .returned (.bool (SampMath.ok [])) ∧ Below w.heap.size w w' := by
  go_enter Tryz.func107, Tryz.ntmps107
  go_wp2
  refine wp_loop_rounds 1 ?_
  rw [rounds_succ]
  go_wp2
  go_ret
  exact ⟨rfl, Below.refl _ _⟩
theorem impl_ok {w : World} {v : Value} {zs : List E} (h : Is w v zs) : Calls Tryz.prog 111 #[v] w fun e w' => e = .returned (.bool (SampMath.ok zs)) ∧ Below w.heap.size w w' := by
  obtain ⟨-, a, cap, rfl, hc, hm, -, hr⟩ := h
  by_cases h0 : zs.length = 0
  · obtain rfl : zs = [] := List.eq_nil_of_length_eq_zero h0
    exact impl_ok_zero a cap w
  · obtain ⟨b, off, rfl, hl, hcells⟩ := hr (by omega)
    exact Samp.impl_ok_some b off cap zs w hc hm hl (reads_of hcells)
theorem l2ok {w : World} {v : Value} {zs : List E} (h : Is w v zs) : Calls Tryz.prog 107 #[v] w fun e w' => e = .returned (.bool (SampMath.ok zs)) ∧ Below w.heap.size w w' := by
  obtain ⟨-, a, cap, rfl, hc, hm, -, hr⟩ := h
  by_cases h0 : zs.length = 0
  · obtain rfl : zs = [] := List.eq_nil_of_length_eq_zero h0
    exact spec_ok_zero a cap w
  · obtain ⟨b, off, rfl, hl, hcells⟩ := hr (by omega)
    exact Samp.spec_ok_some b off cap zs w hc hm hl (reads_of hcells)
end Go.Proofs.YtlboekimnhgfdaaGreat.Sam
