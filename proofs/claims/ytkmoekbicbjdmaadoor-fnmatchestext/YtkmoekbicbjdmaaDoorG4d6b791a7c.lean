/- My own texts of one claim, laid together by program: MatOk, MatPut, MatPut2, DrawMatText. -/
import Derived.Test.YtkmoekbicbjdmaaDoorG228d3bb8bd
import Derived.Test.YtkmoekbicbjdmaaDoorG859ee0a49f
import Derived.Deep.RegionHeld3
import Derived.Test.YtkmoekbicbjdmaaDoorG5c89d1a104
import Derived.Test.YtkmoekbicbjdmaaDoorG103f819dcb
/- MatchesOk, of the program and of the model, at every slice of matches. -/
namespace Go.Proofs.YtkmoekbicbjdmaaDoor.Mat
open Go.RowKit Rw
open Lab (nameB wordB letters name_any word_any l3Name_any l3Letters_any in_yes in_no)
set_option linter.unusedVariables false
attribute [local go_sem ↓] Go.wp_at_zero Go.wp_at_succ
def ruleT (k : Int) : TypeId := if k = 1 then 90 else if k = 2 then 91 else if k = 3 then 92 else 93
theorem ruleOf_yes (k : Int) (s : ByteArray) (w : World) (h1 : 1 ≤ k) (h4 : k ≤ 4) : Calls Tryd.prog 49 #[.int .i64 k, .string s] w fun e w' => e = .returned (.iface (ruleT k) (.string s)) ∧ w' = w := by
  rcases (show k = 1 ∨ k = 2 ∨ k = 3 ∨ k = 4 from by omega) with rfl | rfl | rfl | rfl
  all_goals
    clear h1 h4
    go_enter Tryd.func49, Tryd.ntmps49
    go_wp2
    go_ret
    exact ⟨rfl, rfl⟩
theorem ruleOf_no (k : Int) (s : ByteArray) (w : World) (h : k < 1 ∨ 4 < k) : Calls Tryd.prog 49 #[.int .i64 k, .string s] w fun e w' => e = .returned .nilIface ∧ w' = w := by
  have e1 : (k == 1) = false := by simp; omega
  have e2 : (k == 2) = false := by simp; omega
  have e3 : (k == 3) = false := by simp; omega
  have e4 : (k == 4) = false := by simp; omega
  clear h
  go_enter Tryd.func49, Tryd.ntmps49
  go_wp2
  go_ret
  exact ⟨rfl, rfl⟩
def stepOk (zs : List E) (i : Nat) : Bool := decide (1 ≤ (at' zs i).1) && decide ((at' zs i).1 ≤ 4) && nameB (at' zs i).2.1 && wordB (at' zs i).2.2
def okTo (zs : List E) (k : Nat) : Bool := (List.range k).all (stepOk zs)
def ok (zs : List E) : Bool := okTo zs zs.length && decide (zs.length ≤ 4)
theorem okTo_succ (zs : List E) (k : Nat) : okTo zs (k + 1) = (okTo zs k && stepOk zs k) := by simp [okTo, List.range_succ]
theorem ok_of_bad {zs : List E} {k : Nat} (hk : k < zs.length) (h : stepOk zs k = false) : ok zs = false := by
  have : okTo zs zs.length = false := by unfold okTo; rw [List.all_eq_false]; exact ⟨k, List.mem_range.2 hk, by simp [h]⟩
  unfold ok; rw [this]; rfl
theorem step_yes {zs : List E} {k : Nat} (h1 : 1 ≤ (at' zs k).1) (h4 : (at' zs k).1 ≤ 4) (h2 : nameB (at' zs k).2.1 = true) (h3 : wordB (at' zs k).2.2 = true) : stepOk zs k = true := by
  unfold stepOk; rw [decide_eq_true h1, decide_eq_true h4, h2, h3]; rfl
theorem step_kind {zs : List E} {k : Nat} (h : (at' zs k).1 < 1 ∨ 4 < (at' zs k).1) : stepOk zs k = false := by
  unfold stepOk
  rcases h with h | h
  · rw [decide_eq_false (by omega)]; rfl
  · rw [decide_eq_false (show ¬ (at' zs k).1 ≤ 4 by omega), Bool.and_false]; rfl
theorem step_name {zs : List E} {k : Nat} (h : nameB (at' zs k).2.1 = false) : stepOk zs k = false := by unfold stepOk; rw [h, Bool.and_false]; rfl
theorem step_word {zs : List E} {k : Nat} (h : wordB (at' zs k).2.2 = false) : stepOk zs k = false := by unfold stepOk; rw [h, Bool.and_false]
set_option maxRecDepth 100000 in
set_option maxHeartbeats 4000000 in
theorem impl_ok {w : World} {v : Value} {zs : List E} (h : Is w v zs) (hg : ∀ x ∈ zs, good x) (hlen : zs.length ≤ maxLen) : Calls Tryd.prog 20 #[v] w fun e w' => e = .returned (.bool (ok zs)) ∧ Below w.heap.size w w' := by
  obtain ⟨-, a, cap, rfl, hc, hm, -, hr⟩ := h
  unfold maxLen at hm hlen
  obtain ⟨n, hn⟩ : ∃ n, n = zs.length := ⟨_, rfl⟩
  rw [← hn] at hc hr hlen ⊢
  have HN := hide hn
  have HG := hide hg
  clear hn hg
  go_enter Tryd.func20, Tryd.ntmps20
  go_wp2_with fail
  go_loopw [7] (fun i wr => ∃ k : Nat, k ≤ n ∧ i = .int .i64 k ∧ okTo zs k = true ∧ Below w.heap.size w wr) (fun i _ => n - (intOf i).toNat)
  case atStart => exact ⟨0, Nat.zero_le _, rfl, rfl, Below.refl _ _⟩
  case round =>
    obtain ⟨k, hk, rfl, hok, hbel⟩ := hrel
    have HO := hide hok
    clear hok
    have hsz := hbel.size
    by_cases hlt : k < n
    · obtain ⟨b, off, rfl, hl, hcells⟩ := hr (by omega)
      have fa := flat_at zs k (by have := unhide HN; omega)
      have gd := unhide HG (at' zs k) (by rw [at_get zs k (by have := unhide HN; omega)]; exact List.getElem_mem _)
      obtain ⟨K, A, B, hX⟩ : ∃ K A B, (K, A, B) = at' zs k := ⟨_, _, _, rfl⟩
      rw [← hX] at fa gd
      obtain ⟨-, gA, gB⟩ := gd
      have hc0 : wr.cell? ⟨b, off + k * 3, none⟩ = some (.int .i64 K) := (hbel.cell (p := ⟨b, _, none⟩) hl).trans (hcells (k * 3) _ fa.1)
      have hc1 : wr.cell? ⟨b, off + k * 3 + 1, none⟩ = some (.string A) := (hbel.cell (p := ⟨b, _, none⟩) hl).trans (hcells (k * 3 + 1) _ fa.2.1)
      have hc2 : wr.cell? ⟨b, off + k * 3 + 2, none⟩ = some (.string B) := (hbel.cell (p := ⟨b, _, none⟩) hl).trans (hcells (k * 3 + 2) _ fa.2.2)
      have HX := hide hX
      clear hX fa
      have hk0 : (0 : Int) ≤ (k : Int) := Int.natCast_nonneg _
      have hk1 : (k : Int) < (n : Int) := by omega
      obtain ⟨W, hW⟩ : ∃ W, W = wr.alloc (.cells #[.int .i64 K, .string A, .string B] 61) := ⟨_, rfl⟩
      have hWb : Below w.heap.size w W := by rw [hW]; exact hbel.alloc hsz _
      have hW1 : W.cell? ⟨wr.heap.size, 1, none⟩ = some (.string A) := by rw [hW]; simp
      have hW2 : W.cell? ⟨wr.heap.size, 2, none⟩ = some (.string B) := by rw [hW]; simp
      have hWs : W.heap.size = wr.heap.size + 1 := by rw [hW]; simp
      have HWs := hide hWs
      have HW := hide hW
      clear hW hWs
      have HNm := hide (fun X => name_any A X gA)
      have HWd := hide (fun X => word_any B X gB)
      clear gA gB
      by_cases hK : 1 ≤ K ∧ K ≤ 4
      · have HR := hide (fun X => ruleOf_yes K B X hK.1 hK.2)
        have HK := hide hK
        clear hK
        go_wp2_with fail
        rw [← unhide HW]
        refine (unhide HR W).mono ?_
        rintro e w0 ⟨rfl, hw0⟩
        subst hw0
        go_wp2_with fail
        refine (unhide HNm _).mono ?_
        rintro e w1 ⟨rfl, b1⟩
        have hw2 : w1.cell? ⟨wr.heap.size, 2, none⟩ = some (.string B) := (b1.cell (p := ⟨_, _, none⟩) (by have := unhide HWs; show wr.heap.size < _; omega)).trans hW2
        have c1 := hWb.trans (b1.mono hWb.size)
        cases hnm : nameB A
        · have HF := hide (ok_of_bad (zs := zs) (k := k) (by have := unhide HN; omega) (step_name (by rw [← unhide HX]; exact hnm)))
          clear hnm
          go_wp2_with fail
          go_ret
          exact ⟨ret_bool (unhide HF).symm, c1⟩
        have KN := hide hnm
        clear hnm
        go_wp2_with fail
        refine (unhide HWd w1).mono ?_
        rintro e w2 ⟨rfl, b2⟩
        have c2 := c1.trans (b2.mono c1.size)
        cases hwd : wordB B
        · have HF := hide (ok_of_bad (zs := zs) (k := k) (by have := unhide HN; omega) (step_word (by rw [← unhide HX]; exact hwd)))
          clear hwd
          go_wp2_with fail
          go_ret
          exact ⟨ret_bool (unhide HF).symm, c2⟩
        · have HS := hide (show okTo zs (k + 1) = true by rw [okTo_succ, unhide HO, step_yes (by rw [← unhide HX]; exact (unhide HK).1) (by rw [← unhide HX]; exact (unhide HK).2) (by rw [← unhide HX]; exact unhide KN) (by rw [← unhide HX]; exact hwd)]; rfl)
          clear hwd
          go_wp2_with fail
          go_roundw
          case rel => exact ⟨k + 1, by omega, by go_num, unhide HS, c2⟩
          case measure => simp [intOf]; omega
      · have HR := hide (fun X => ruleOf_no K B X (by omega))
        have HF := hide (ok_of_bad (zs := zs) (k := k) (by have := unhide HN; omega) (step_kind (by rw [← unhide HX]; show K < 1 ∨ 4 < K; omega)))
        clear hK
        go_wp2_with fail
        rw [← unhide HW]
        refine (unhide HR W).mono ?_
        rintro e w0 ⟨rfl, hw0⟩
        subst hw0
        go_wp2_with fail
        go_ret
        exact ⟨ret_bool (unhide HF).symm, hWb⟩
    · go_wp2_with fail
      go_ret
      refine ⟨ret_bool ?_, hbel⟩
      unfold ok
      rw [← unhide HN, show n = k from by omega, unhide HO, Bool.true_and]
      exact decide_eq_decide.2 (by omega)
set_option maxRecDepth 100000 in
set_option maxHeartbeats 4000000 in
theorem spec_ok {w : World} {v : Value} {zs : List E} (h : Is w v zs) (hg : ∀ x ∈ zs, good x) (hlen : zs.length ≤ maxLen) : Calls Tryd.prog 21 #[v] w fun e w' => e = .returned (.bool (ok zs)) ∧ Below w.heap.size w w' := by
  obtain ⟨-, a, cap, rfl, hc, hm, -, hr⟩ := h
  unfold maxLen at hm hlen
  obtain ⟨n, hn⟩ : ∃ n, n = zs.length := ⟨_, rfl⟩
  rw [← hn] at hc hr hlen ⊢
  have HN := hide hn
  have HG := hide hg
  clear hn hg
  go_enter Tryd.func21, Tryd.ntmps21
  go_wp2_with fail
  go_loop [3] (fun i => ∃ k : Nat, k ≤ n ∧ i = .int .i64 k ∧ okTo zs k = true) (fun i => n - (intOf i).toNat)
  case atStart => exact ⟨0, Nat.zero_le _, rfl, rfl⟩
  case round =>
    obtain ⟨k, hk, rfl, hok⟩ := hrel
    have HO := hide hok
    clear hok
    by_cases hlt : k < n
    · obtain ⟨b, off, rfl, hl, hcells⟩ := hr (by omega)
      have fa := flat_at zs k (by have := unhide HN; omega)
      have gd := unhide HG (at' zs k) (by rw [at_get zs k (by have := unhide HN; omega)]; exact List.getElem_mem _)
      obtain ⟨K, A, B, hX⟩ : ∃ K A B, (K, A, B) = at' zs k := ⟨_, _, _, rfl⟩
      rw [← hX] at fa gd
      obtain ⟨-, gA, gB⟩ := gd
      have hc0 : w.cell? ⟨b, off + k * 3, none⟩ = some (.int .i64 K) := hcells (k * 3) _ fa.1
      have hc1 : w.cell? ⟨b, off + k * 3 + 1, none⟩ = some (.string A) := hcells (k * 3 + 1) _ fa.2.1
      have hc2 : w.cell? ⟨b, off + k * 3 + 2, none⟩ = some (.string B) := hcells (k * 3 + 2) _ fa.2.2
      have HX := hide hX
      clear hX fa
      have hk0 : (0 : Int) ≤ (k : Int) := Int.natCast_nonneg _
      have hk1 : (k : Int) < (n : Int) := by omega
      have HNm := hide (fun X => l3Name_any A X gA)
      have HWd := hide (fun X => l3Letters_any B 8 X gB)
      have HWB := hide (show (letters B && decide ((B.size : Int) ≤ 8)) = wordB B by unfold wordB; rw [Bool.and_comm]; congr 1; exact decide_eq_decide.2 (by omega))
      rw [unhide HWB] at HWd
      clear gA gB
      by_cases hK : 1 ≤ K ∧ K ≤ 4
      · have HI := hide (fun X => in_yes K 1 4 X hK.1 hK.2)
        have HK := hide hK
        clear hK
        go_wp2_with fail
        refine (unhide HI _).mono ?_
        rintro e w0 ⟨rfl, hw0⟩
        subst hw0
        go_wp2_with fail
        refine (unhide HNm _).mono ?_
        rintro e w1 ⟨rfl, hw1⟩
        subst hw1
        cases hnm : nameB A
        · have HF := hide (ok_of_bad (zs := zs) (k := k) (by have := unhide HN; omega) (step_name (by rw [← unhide HX]; exact hnm)))
          clear hnm
          go_wp2_with fail
          go_ret
          exact ⟨ret_bool (unhide HF).symm, Below.refl _ _⟩
        have KN := hide hnm
        clear hnm
        go_wp2_with fail
        refine (unhide HWd _).mono ?_
        rintro e w2 ⟨rfl, hw2⟩
        subst hw2
        cases hwd : wordB B
        · have HF := hide (ok_of_bad (zs := zs) (k := k) (by have := unhide HN; omega) (step_word (by rw [← unhide HX]; exact hwd)))
          clear hwd
          go_wp2_with fail
          go_ret
          exact ⟨ret_bool (unhide HF).symm, Below.refl _ _⟩
        · have HS := hide (show okTo zs (k + 1) = true by rw [okTo_succ, unhide HO, step_yes (by rw [← unhide HX]; exact (unhide HK).1) (by rw [← unhide HX]; exact (unhide HK).2) (by rw [← unhide HX]; exact unhide KN) (by rw [← unhide HX]; exact hwd)]; rfl)
          clear hwd
          go_wp2_with fail
          go_round
          case rel => exact ⟨k + 1, by omega, by go_num, unhide HS⟩
          case measure => simp [intOf]; omega
      · have HI := hide (fun X => in_no K 1 4 X (by omega))
        have HF := hide (ok_of_bad (zs := zs) (k := k) (by have := unhide HN; omega) (step_kind (by rw [← unhide HX]; show K < 1 ∨ 4 < K; omega)))
        clear hK
        go_wp2_with fail
        refine (unhide HI _).mono ?_
        rintro e w0 ⟨rfl, hw0⟩
        subst hw0
        go_wp2_with fail
        go_ret
        exact ⟨ret_bool (unhide HF).symm, Below.refl _ _⟩
    · go_wp2_with fail
      go_ret
      refine ⟨ret_bool ?_, Below.refl _ _⟩
      unfold ok
      rw [← unhide HN, show n = k from by omega, unhide HO, Bool.true_and]
      exact decide_eq_decide.2 (by omega)
end Go.Proofs.YtkmoekbicbjdmaaDoor.Mat

/- MatchesPut of the program, at every slice of matches. -/
namespace Go.Proofs.YtkmoekbicbjdmaaDoor.Mat
open Go.RowKit Rw PutMath
open Lab (flatS flatS_append info_str nameB wordB)
set_option linter.unusedVariables false
attribute [local go_sem ↓] Go.wp_at_zero Go.wp_at_succ
def signB (k : Int) : ByteArray := if k = 1 then ⟨#[61]⟩ else if k = 2 then ⟨#[33]⟩ else if k = 3 then ⟨#[94]⟩ else ⟨#[126]⟩
theorem sign_size (k : Int) : (signB k).size = 1 := by unfold signB; split <;> (try split) <;> (try split) <;> rfl
def partOf (x : E) : ByteArray := x.2.1 ++ signB x.1 ++ x.2.2
def parts (zs : List E) : List ByteArray := zs.map partOf
theorem parts_snoc (zs : List E) (k : Nat) (h : k < zs.length) : parts (zs.take (k + 1)) = parts (zs.take k) ++ [partOf (at' zs k)] := by unfold parts; rw [at_snoc zs k h, List.map_append]; rfl
theorem parts_length (zs : List E) : (parts zs).length = zs.length := by simp [parts]
def small (zs : List E) : Prop := zs.length ≤ 1000 ∧ ∀ x ∈ zs, 1 ≤ x.1 ∧ x.1 ≤ 4 ∧ x.2.1.size ≤ 1000 ∧ x.2.2.size ≤ 1000
theorem part_size {zs : List E} (h : small zs) (k : Nat) : ∀ p ∈ parts (zs.take k), p.size ≤ 2001 := by
  intro p hp
  obtain ⟨x, hx, rfl⟩ := List.mem_map.1 hp
  have := h.2 x (List.mem_of_mem_take hx)
  unfold partOf
  rw [app_size, app_size, sign_size]
  omega
theorem join_small {zs : List E} (h : small zs) (k : Nat) : (joinB (parts (zs.take k))).length ≤ 2002000 := by
  have h1 := joinB_len (parts (zs.take k)) 2001 (part_size h k)
  rw [parts_length] at h1
  have h2 : (zs.take k).length ≤ 1000 := by have := List.length_take_le k zs; have := h.1; simp; omega
  have := Nat.mul_le_mul_right 2002 h2
  omega
theorem ok_small {zs : List E} (h : ok zs = true) : small zs := by
  unfold ok at h
  simp only [Bool.and_eq_true, decide_eq_true_eq] at h
  refine ⟨by omega, fun x hx => ?_⟩
  obtain ⟨k, hk, rfl⟩ := List.getElem_of_mem hx
  have hs := List.all_eq_true.1 (show (List.range zs.length).all (stepOk zs) = true from h.1) k (List.mem_range.2 hk)
  rw [← at_get zs k hk]
  unfold stepOk nameB wordB at hs
  simp only [Bool.and_eq_true, decide_eq_true_eq] at hs
  exact ⟨hs.1.1.1, hs.1.1.2, by have := hs.1.2.1.2; omega, by have := hs.2.1; omega⟩
def put (zs : List E) : ByteArray := if ok zs = true then wrap 91 93 (parts zs) else ByteArray.empty
theorem as00 (v : Value) (W : World) : (Instr.typeAssert (.iface 90 v) 64 90 true).run Tryd.prog W = .ok (.tuple #[v, .bool true]) W := by kernel_rfl
theorem as10 (v : Value) (W : World) : (Instr.typeAssert (.iface 91 v) 64 90 true).run Tryd.prog W = .ok (.tuple #[.string ByteArray.empty, .bool false]) W := by kernel_rfl
theorem as11 (v : Value) (W : World) : (Instr.typeAssert (.iface 91 v) 64 91 true).run Tryd.prog W = .ok (.tuple #[v, .bool true]) W := by kernel_rfl
theorem as20 (v : Value) (W : World) : (Instr.typeAssert (.iface 92 v) 64 90 true).run Tryd.prog W = .ok (.tuple #[.string ByteArray.empty, .bool false]) W := by kernel_rfl
theorem as21 (v : Value) (W : World) : (Instr.typeAssert (.iface 92 v) 64 91 true).run Tryd.prog W = .ok (.tuple #[.string ByteArray.empty, .bool false]) W := by kernel_rfl
theorem as22 (v : Value) (W : World) : (Instr.typeAssert (.iface 92 v) 64 92 true).run Tryd.prog W = .ok (.tuple #[v, .bool true]) W := by kernel_rfl
theorem as30 (v : Value) (W : World) : (Instr.typeAssert (.iface 93 v) 64 90 true).run Tryd.prog W = .ok (.tuple #[.string ByteArray.empty, .bool false]) W := by kernel_rfl
theorem as31 (v : Value) (W : World) : (Instr.typeAssert (.iface 93 v) 64 91 true).run Tryd.prog W = .ok (.tuple #[.string ByteArray.empty, .bool false]) W := by kernel_rfl
theorem as32 (v : Value) (W : World) : (Instr.typeAssert (.iface 93 v) 64 92 true).run Tryd.prog W = .ok (.tuple #[.string ByteArray.empty, .bool false]) W := by kernel_rfl
theorem as33 (v : Value) (W : World) : (Instr.typeAssert (.iface 93 v) 64 93 true).run Tryd.prog W = .ok (.tuple #[v, .bool true]) W := by kernel_rfl
set_option maxRecDepth 100000 in
theorem signOf_any (k : Int) (s : ByteArray) (w : World) (h1 : 1 ≤ k) (h4 : k ≤ 4) : Calls Tryd.prog 48 #[.iface (ruleT k) (.string s)] w fun e w' => e = .returned (.string (signB k)) ∧ w' = w := by
  rcases (show k = 1 ∨ k = 2 ∨ k = 3 ∨ k = 4 from by omega) with rfl | rfl | rfl | rfl
  · clear h1 h4
    show Calls Tryd.prog 48 #[.iface 90 (.string s)] w fun e w' => e = .returned (.string ⟨#[61]⟩) ∧ w' = w
    have t0 := as00 (.string s)
    go_enter Tryd.func48, Tryd.ntmps48
    go_wp2
    go_ret
    exact ⟨rfl, rfl⟩
  · clear h1 h4
    show Calls Tryd.prog 48 #[.iface 91 (.string s)] w fun e w' => e = .returned (.string ⟨#[33]⟩) ∧ w' = w
    have t0 := as10 (.string s)
    have t1 := as11 (.string s)
    go_enter Tryd.func48, Tryd.ntmps48
    go_wp2
    go_ret
    exact ⟨rfl, rfl⟩
  · clear h1 h4
    show Calls Tryd.prog 48 #[.iface 92 (.string s)] w fun e w' => e = .returned (.string ⟨#[94]⟩) ∧ w' = w
    have t0 := as20 (.string s)
    have t1 := as21 (.string s)
    have t2 := as22 (.string s)
    go_enter Tryd.func48, Tryd.ntmps48
    go_wp2
    go_ret
    exact ⟨rfl, rfl⟩
  · clear h1 h4
    show Calls Tryd.prog 48 #[.iface 93 (.string s)] w fun e w' => e = .returned (.string ⟨#[126]⟩) ∧ w' = w
    have t0 := as30 (.string s)
    have t1 := as31 (.string s)
    have t2 := as32 (.string s)
    have t3 := as33 (.string s)
    go_enter Tryd.func48, Tryd.ntmps48
    go_wp2
    go_ret
    exact ⟨rfl, rfl⟩
set_option maxRecDepth 100000 in
theorem l3Sign_any (k : Int) (w : World) (h1 : 1 ≤ k) (h4 : k ≤ 4) : Calls Tryd.prog 70 #[.int .i64 k] w fun e w' => e = .returned (.string (signB k)) ∧ Below w.heap.size w w' := by
  rcases (show k = 1 ∨ k = 2 ∨ k = 3 ∨ k = 4 from by omega) with rfl | rfl | rfl | rfl
  all_goals
    clear h1 h4
    simp only [signB]
    go_enter Tryd.func70, Tryd.ntmps70
    go_wp2
    go_ret
    exact ⟨rfl, (Below.refl _ _).alloc (Nat.le_refl _) _⟩
set_option maxRecDepth 100000 in
set_option maxHeartbeats 4000000 in
theorem impl_put {w : World} {v : Value} {zs : List E} (h : Is w v zs) (hg : ∀ x ∈ zs, good x) (hz : zs.length ≤ maxLen) : Calls Tryd.prog 17 #[v] w fun e w' => e = .returned (.string (put zs)) ∧ Below w.heap.size w w' := by
  obtain ⟨i0, hi, hz0, hz1, hz2⟩ := info_parts info_str
  have H1 := hide (impl_ok h hg hz)
  cases ho : ok zs
  · have HR := hide (show put zs = ByteArray.empty by unfold put; rw [ho]; rfl)
    rw [ho] at H1
    clear ho h hg
    go_enter Tryd.func17, Tryd.ntmps17
    go_wp2_with fail
    refine (unhide H1).mono ?_
    rintro e w1 ⟨rfl, b1⟩
    go_wp2_with fail
    go_ret
    exact ⟨ret_string (unhide HR).symm, b1⟩
  have HR := hide (show put zs = wrap 91 93 (parts zs) by unfold put; rw [ho]; rfl)
  have hsm := ok_small ho
  rw [ho] at H1
  clear ho hg
  obtain ⟨-, a, cap, rfl, hc, hm, -, hr⟩ := h
  unfold maxLen at hm
  obtain ⟨n, hn⟩ : ∃ n, n = zs.length := ⟨_, rfl⟩
  have hn2 : n ≤ 1000 := by rw [hn]; exact hsm.1
  rw [← hn] at hc hr H1 ⊢
  have HN := hide hn
  have HSM := hide hsm
  clear hn hsm hz
  obtain ⟨R, hR⟩ : ∃ R, R = put zs := ⟨_, rfl⟩
  rw [← hR] at HR ⊢
  clear hR
  go_enter Tryd.func17, Tryd.ntmps17
  go_wp2_with fail
  refine (unhide H1).mono ?_
  rintro e w1 ⟨rfl, b1⟩
  go_wp2_with fail
  go_loopw [3, 11] (fun pv i wr => ∃ (k : Nat) (ap : Option Addr) (cp : Nat), k ≤ n ∧ i = .int .i64 k ∧ pv = .slice ap k cp ∧ wr.ownsRow w.heap.size 9 1 pv k (flatS (parts (zs.take k))) ∧ Below w.heap.size w wr) (fun _ i _ => n - (intOf i).toNat)
  case atStart => exact ⟨0, none, 0, Nat.zero_le _, rfl, rfl, World.ownsRow_nil _ _ _ _, b1⟩
  case round =>
    clear b1 H1
    obtain ⟨k, ap, cp, hk, rfl, rfl, hown, hbel⟩ := hrel
    have hsz := hbel.size
    have hk0 : (0 : Int) ≤ (k : Int) := Int.natCast_nonneg _
    by_cases hlt : k < n
    · obtain ⟨b, off, rfl, hl, hcells⟩ := hr (by omega)
      have fa := flat_at zs k (by have := unhide HN; omega)
      have gd := (unhide HSM).2 (at' zs k) (by rw [at_get zs k (by have := unhide HN; omega)]; exact List.getElem_mem _)
      have HPS := parts_snoc zs k (by have := unhide HN; omega)
      obtain ⟨K, A, B, hX⟩ : ∃ K A B, (K, A, B) = at' zs k := ⟨_, _, _, rfl⟩
      rw [← hX] at fa gd HPS
      simp only at gd
      have hc0 : wr.cell? ⟨b, off + k * 3, none⟩ = some (.int .i64 K) := (hbel.cell (p := ⟨b, _, none⟩) hl).trans (hcells (k * 3) _ fa.1)
      have hc1 : wr.cell? ⟨b, off + k * 3 + 1, none⟩ = some (.string A) := (hbel.cell (p := ⟨b, _, none⟩) hl).trans (hcells (k * 3 + 1) _ fa.2.1)
      have hc2 : wr.cell? ⟨b, off + k * 3 + 2, none⟩ = some (.string B) := (hbel.cell (p := ⟨b, _, none⟩) hl).trans (hcells (k * 3 + 2) _ fa.2.2)
      have HQ := hide (show partOf (K, A, B) = A ++ signB K ++ B from rfl)
      have HRu := hide (fun W => ruleOf_yes K B W gd.1 gd.2.1)
      have HSi := hide (fun W => signOf_any K B W gd.1 gd.2.1)
      have ss := sign_size K
      have s1 : ∀ W, (Op.stringOp .add A (signB K)).run Tryd.prog W = .ok (.string (A ++ signB K)) W := fun W => run_string_add_sum W _ _ (by rw [ss]; omega)
      have s2 : ∀ W, (Op.stringOp .add (A ++ signB K) B).run Tryd.prog W = .ok (.string (A ++ signB K ++ B)) W := fun W => run_string_add_sum W _ _ (by rw [app_size, ss]; omega)
      rw [← unhide HQ] at s2
      generalize A ++ signB K = P1 at s1 s2
      have HPS' := hide HPS
      generalize partOf (K, A, B) = P2 at s2 HPS'
      clear hX fa gd HPS HQ ss
      generalize signB K = SG at s1 HSi
      generalize ruleT K = RT at HRu HSi
      have hk1 : (k : Int) < (n : Int) := by omega
      have hmx : 1 ≤ maxLen := by unfold maxLen; omega
      go_wp2_with fail
      have hob := fun e => Nat.lt_irrefl _ (own_block_lt hown wr.heap.size (Eq.symm e))
      go_region_held3 (fun w' => w'.cell? ⟨wr.heap.size, 0, none⟩ = some (.int .i64 K) ∧ w'.cell? ⟨wr.heap.size, 1, none⟩ = some (.string A) ∧ w'.cell? ⟨wr.heap.size, 2, none⟩ = some (.string B)) (first | go_keep | (go_split_ands; refine ⟨?_, ?_, ?_⟩ <;> (rw [gn.cell_far _ (by simp <;> omega) hob]; simp))) ((first | (go_at_call 49; refine (unhide HRu _).mono ?_; rintro e w7 ⟨rfl, hw7⟩; subst hw7) | (go_at_call 48; refine (unhide HSi _).mono ?_; rintro e w7 ⟨rfl, hw7⟩; subst hw7) | (refine app_step _ (by rfl) _ _ _ (by rfl) w.heap.size 9 i0 _ 1 16 Tryd.underlying45 hi hz0 hz1 hz2 rfl (by omega) _ k _ (by rfl) (World.ownsRow.drew (World.ownsRow.alloc (World.ownsRow.alloc hown _) _)) _ 1 [.string P2] (by rfl) (Lies.drew (lies_new (w := wr.alloc _) (by simp) rfl hmx)) (by simp [Value.oneCell']) (by unfold maxLen; omega) (by omega) (by simp <;> omega) ?_; intro vn wn on gn an)))
      have R9 : Below w.heap.size w wn := below_grown (((hbel.alloc hsz _).alloc (by simp <;> omega) _).drew) (by simp <;> omega) gn (own_ge hown)
      have R2 := hide (show wn.ownsRow w.heap.size 9 1 vn (k + 1) (flatS (parts (zs.take (k + 1)))) by rw [unhide HPS', flatS_append]; exact on)
      obtain ⟨an', cn, hvn⟩ : ∃ a c, vn = .slice a (k + 1) c := by obtain ⟨-, a, c, e, -⟩ := lies_of_own on; exact ⟨a, c, e⟩
      have HV := hide hvn
      clear on gn an hown hvn hob
      go_wp2_with fail
      go_roundw
      case rel => exact ⟨k + 1, an', cn, by omega, by go_num, unhide HV, unhide R2, R9⟩
      case measure => simp [intOf]; omega
    · obtain rfl : k = n := by omega
      have hkf : decide ((k : Int) < (k : Int)) = false := by simp
      rw [List.take_of_length_le (by have := unhide HN; omega)] at hown
      have JS := join_small (unhide HSM) k
      rw [List.take_of_length_le (by have := unhide HN; omega)] at JS
      have HL : (parts zs).length = k := by rw [parts_length]; exact (unhide HN).symm
      have HJ2 := hide (show Calls Tryd.prog 33 #[.slice ap k cp, .string ⟨#[44]⟩] wr fun e w' => e = .returned (.string ⟨(joinB (parts zs)).toArray⟩) ∧ Below wr.heap.size wr w' from by
        rcases Nat.eq_zero_or_pos k with h0 | h0
        · subst h0
          have e0 : parts zs = [] := List.eq_nil_of_length_eq_zero HL
          rw [e0]
          refine (Tryd.strings_Join_none ap cp ⟨#[44]⟩ wr).mono ?_
          rintro e w' ⟨rfl, rfl⟩
          exact ⟨rfl, Below.refl _ _⟩
        · obtain ⟨g, cp', e, hgb, hgl⟩ := hown.form h0
          simp only [Value.slice.injEq, true_and] at e
          obtain ⟨rfl, rfl⟩ := e
          have hcp : k ≤ cp := by obtain ⟨-, a', c', e, h2, -⟩ := lies_of_own hown; simp only [Value.slice.injEq, true_and] at e; omega
          have := Tryd.strings_Join g 0 cp (parts zs) ⟨#[44]⟩ wr (fun j x hj => by
            have hj' := (List.getElem?_eq_some_iff.1 hj).1
            rw [Nat.zero_add, hown.cellAt j (by omega)]
            simp [flatS, hj]) hgl (by omega) (by omega) (by show (joinB (parts zs)).length ≤ _; omega)
          rw [HL] at this
          exact this)
      have e1 : (⟨#[91]⟩ : ByteArray).size = 1 := rfl
      have e2 : (⟨#[93]⟩ : ByteArray).size = 1 := rfl
      have HW := hide (wrap_join 91 93 (parts zs))
      have sJ := size_of (joinB (parts zs))
      have s1 : ∀ W, (Op.stringOp .add ⟨#[91]⟩ ⟨(joinB (parts zs)).toArray⟩).run Tryd.prog W = .ok (.string (⟨#[91]⟩ ++ ⟨(joinB (parts zs)).toArray⟩)) W := fun W => run_string_add_sum W _ _ (by rw [e1, sJ]; omega)
      have s2 : ∀ W, (Op.stringOp .add (⟨#[91]⟩ ++ ⟨(joinB (parts zs)).toArray⟩) ⟨#[93]⟩).run Tryd.prog W = .ok (.string (⟨#[91]⟩ ++ ⟨(joinB (parts zs)).toArray⟩ ++ ⟨#[93]⟩)) W := fun W => run_string_add_sum W _ _ (by rw [app_size, e1, e2, sJ]; omega)
      rw [unhide HW, ← unhide HR] at s2
      clear HL hown JS sJ e1 e2 HW
      generalize (⟨(joinB (parts zs)).toArray⟩ : ByteArray) = J at HJ2 s1 s2
      generalize (⟨#[91]⟩ : ByteArray) ++ J = P1 at s1 s2
      go_wp2_with fail
      refine (unhide HJ2).mono ?_
      rintro e w5 ⟨rfl, b5⟩
      have c5 := hbel.trans (b5.mono hsz)
      go_wp2_with fail
      go_ret
      exact ⟨rfl, c5⟩
end Go.Proofs.YtkmoekbicbjdmaaDoor.Mat

/- MatchesPut of the model, at every slice of matches. -/
namespace Go.Proofs.YtkmoekbicbjdmaaDoor.Mat
open Go.RowKit Rw PutMath
set_option linter.unusedVariables false
attribute [local go_sem ↓] Go.wp_at_zero Go.wp_at_succ
set_option maxRecDepth 100000 in
set_option maxHeartbeats 4000000 in
theorem l3Matches_any {w : World} {v : Value} {zs : List E} (h : Is w v zs) (hsm : small zs) : Calls Tryd.prog 51 #[v] w fun e w' => e = .returned (.string (wrap 91 93 (parts zs))) ∧ Below w.heap.size w w' := by
  obtain ⟨-, a, cap, rfl, hc, hm, -, hr⟩ := h
  unfold maxLen at hm
  obtain ⟨n, hn⟩ : ∃ n, n = zs.length := ⟨_, rfl⟩
  have hn2 : n ≤ 1000 := by rw [hn]; exact hsm.1
  rw [← hn] at hc hr ⊢
  have HN := hide hn
  have HSM := hide hsm
  clear hn hsm
  obtain ⟨R, hR⟩ : ∃ R, R = wrap 91 93 (parts zs) := ⟨_, rfl⟩
  rw [← hR]
  have HR := hide hR
  clear hR
  have H0 := hide (out_first 91)
  go_enter Tryd.func51, Tryd.ntmps51
  go_wp2_with fail
  go_loopw [3, 4] (fun ov i wr => ∃ (k : Nat) (O : ByteArray), k ≤ n ∧ i = .int .i64 k ∧ ov = .string O ∧ O = out 91 (parts (zs.take k)) ∧ Below w.heap.size w wr) (fun _ i _ => n - (intOf i).toNat)
  case atStart => exact ⟨0, _, Nat.zero_le _, rfl, rfl, (unhide H0).symm, Below.refl _ _⟩
  case round =>
    obtain ⟨k, O, hk, rfl, rfl, hO, hbel⟩ := hrel
    have hsz := hbel.size
    have hk0 : (0 : Int) ≤ (k : Int) := Int.natCast_nonneg _
    have JS := join_small (unhide HSM) k
    have hOs : O.size ≤ 2002001 := by rw [hO, out_size]; omega
    have HO := hide hO
    clear hO JS
    by_cases hlt : k < n
    · obtain ⟨b, off, rfl, hl, hcells⟩ := hr (by omega)
      have fa := flat_at zs k (by have := unhide HN; omega)
      have gd := (unhide HSM).2 (at' zs k) (by rw [at_get zs k (by have := unhide HN; omega)]; exact List.getElem_mem _)
      have HPS := parts_snoc zs k (by have := unhide HN; omega)
      obtain ⟨K, A, B, hX⟩ : ∃ K A B, (K, A, B) = at' zs k := ⟨_, _, _, rfl⟩
      rw [← hX] at fa gd HPS
      simp only at gd
      have hb1 : b < wr.heap.size := by omega
      have q0 : ∀ x : Cls wr.heap.size wr, x.val.cell? ⟨b, off + k * 3, none⟩ = some (.int .i64 K) := fun x => by rw [x.cell hb1]; exact (hbel.cell (p := ⟨b, _, none⟩) hl).trans (hcells (k * 3) _ fa.1)
      have q1 : ∀ x : Cls wr.heap.size wr, x.val.cell? ⟨b, off + k * 3 + 1, none⟩ = some (.string A) := fun x => by rw [x.cell hb1]; exact (hbel.cell (p := ⟨b, _, none⟩) hl).trans (hcells (k * 3 + 1) _ fa.2.1)
      have q2 : ∀ x : Cls wr.heap.size wr, x.val.cell? ⟨b, off + k * 3 + 2, none⟩ = some (.string B) := fun x => by rw [x.cell hb1]; exact (hbel.cell (p := ⟨b, _, none⟩) hl).trans (hcells (k * 3 + 2) _ fa.2.2)
      have HSg := hide (fun W => l3Sign_any K W gd.1 gd.2.1)
      have ss := sign_size K
      have hne := cls_nonempty wr.heap.size wr
      have e44 : (⟨#[44]⟩ : ByteArray).size = 1 := rfl
      have hk1 : (k : Int) < (n : Int) := by omega
      have lenk : (parts (zs.take k)).length = k := by rw [parts_length, List.length_take]; have := unhide HN; omega
      have adds : ∀ q : ByteArray, q.size ≤ 2002002 → (if (parts (zs.take k)).length = 0 then out 91 (parts (zs.take k)) else out 91 (parts (zs.take k)) ++ ⟨#[44]⟩) = q → ∃ P1 P2 P3, P3 = out 91 (parts (zs.take (k + 1))) ∧ (∀ W, (Op.stringOp .add q A).run Tryd.prog W = .ok (.string P1) W) ∧ (∀ W, (Op.stringOp .add P1 (signB K)).run Tryd.prog W = .ok (.string P2) W) ∧ (∀ W, (Op.stringOp .add P2 B).run Tryd.prog W = .ok (.string P3) W) := by
        intro q hq he
        refine ⟨q ++ A, q ++ A ++ signB K, q ++ A ++ signB K ++ B, ?_, fun W => run_string_add_sum W _ _ (by omega), fun W => run_string_add_sum W _ _ (by rw [app_size, ss]; omega), fun W => run_string_add_sum W _ _ (by rw [app_size, app_size, ss]; omega)⟩
        rw [HPS, ← out_next 91 (parts (zs.take k)) (partOf (K, A, B)) q he]
        unfold partOf
        rw [app_assoc, app_assoc, app_assoc]
      by_cases hk00 : k = 0
      · obtain ⟨P1, P2, P3, hP3, s1, s2, s3⟩ := adds O (by omega) (by rw [if_pos (by omega), unhide HO])
        have HP3 := hide hP3
        have hd : decide ((0 : Int) < (k : Int)) = false := by simp; omega
        have hd2 : decide (0 < k) = false := by simp; omega
        generalize signB K = SG at s2 HSg
        clear hP3 adds HPS gd fa hX hk00 lenk ss
        go_wp2_with fail
        refine region_cls (by kernel_rfl) (by kernel_rfl) ?_
        repeat (go_big_quiet_step ((go_at_call 70; exact cls_call (Nat.le_refl _) (unhide HSg _))))
        refine wpQuiet_nil ?_
        rintro wq ⟨⟨_, hq⟩, rfl⟩
        go_wp2
        go_roundw
        case rel => exact ⟨k + 1, P3, by omega, by go_num, rfl, unhide HP3, hbel.trans (hq.mono hsz)⟩
        case measure => simp [intOf]; omega
      · obtain ⟨P1, P2, P3, hP3, s1, s2, s3⟩ := adds (O ++ ⟨#[44]⟩) (by rw [app_size, e44]; omega) (by rw [if_neg (by omega), unhide HO])
        have s0 : ∀ W, (Op.stringOp .add O ⟨#[44]⟩).run Tryd.prog W = .ok (.string (O ++ ⟨#[44]⟩)) W := fun W => run_string_add_sum W _ _ (by rw [e44]; omega)
        generalize O ++ ⟨#[44]⟩ = O1 at s0 s1
        have HP3 := hide hP3
        have hd : (0 : Int) < (k : Int) := by omega
        generalize signB K = SG at s2 HSg
        clear hP3 adds HPS gd fa hX hk00 lenk ss
        go_wp2_with fail
        refine region_cls (by kernel_rfl) (by kernel_rfl) ?_
        repeat (go_big_quiet_step ((go_at_call 70; exact cls_call (Nat.le_refl _) (unhide HSg _))))
        refine wpQuiet_nil ?_
        rintro wq ⟨⟨_, hq⟩, rfl⟩
        go_wp2
        go_roundw
        case rel => exact ⟨k + 1, P3, by omega, by go_num, rfl, unhide HP3, hbel.trans (hq.mono hsz)⟩
        case measure => simp [intOf]; omega
    · obtain rfl : k = n := by omega
      have e93 : (⟨#[93]⟩ : ByteArray).size = 1 := rfl
      have s0 : ∀ W, (Op.stringOp .add O ⟨#[93]⟩).run Tryd.prog W = .ok (.string R) W := fun W => by
        rw [run_string_add_sum W _ _ (by rw [e93]; omega), unhide HR, unhide HO, List.take_of_length_le (by have := unhide HN; omega), wrap_out]
      go_wp2_with fail
      go_ret
      exact ⟨rfl, hbel⟩
set_option maxHeartbeats 1000000 in
theorem spec_put {w : World} {v : Value} {zs : List E} (h : Is w v zs) (hg : ∀ x ∈ zs, good x) (hz : zs.length ≤ maxLen) : Calls Tryd.prog 19 #[v] w fun e w' => e = .returned (.string (put zs)) ∧ Below w.heap.size w w' := by
  have H1 := hide (spec_ok h hg hz)
  cases ho : ok zs
  · have HR := hide (show put zs = ByteArray.empty by unfold put; rw [ho]; rfl)
    rw [ho] at H1
    clear ho h hg
    go_enter Tryd.func19, Tryd.ntmps19
    go_wp2_with fail
    refine (unhide H1).mono ?_
    rintro e w1 ⟨rfl, b1⟩
    go_wp2_with fail
    go_ret
    exact ⟨ret_string (unhide HR).symm, b1⟩
  · have HR := hide (show put zs = wrap 91 93 (parts zs) by unfold put; rw [ho]; rfl)
    have H2 := hide (fun W (hb : Below w.heap.size w W) => l3Matches_any (h.below hb) (ok_small ho))
    rw [ho] at H1
    clear ho h hg
    go_enter Tryd.func19, Tryd.ntmps19
    go_wp2_with fail
    refine (unhide H1).mono ?_
    rintro e w1 ⟨rfl, b1⟩
    go_wp2_with fail
    refine (unhide H2 _ b1).mono ?_
    rintro e w2 ⟨rfl, b2⟩
    have c2 := b1.trans (b2.mono b1.size)
    go_wp2_with fail
    go_ret
    exact ⟨ret_string (unhide HR).symm, c2⟩
end Go.Proofs.YtkmoekbicbjdmaaDoor.Mat

/- Matches and a text of them are drawn. No condition. -/
namespace Go.Proofs.YtkmoekbicbjdmaaDoor.Draw
open Go.RowKit Rw PutMath
set_option linter.unusedVariables false
attribute [local go_sem ↓] Go.wp_at_zero Go.wp_at_succ
theorem size_oneMat {x : ByteArray} (h : x ∈ [(⟨#[91]⟩ : ByteArray), ⟨#[93]⟩, ⟨#[44]⟩, ⟨#[61]⟩, ⟨#[97]⟩, ⟨#[33]⟩, ⟨#[126]⟩, ⟨#[94]⟩]) : x.size = 1 := by
  simp only [List.mem_cons, List.not_mem_nil, or_false] at h
  rcases h with h | h | h | h | h | h | h | h <;> subst h <;> rfl
set_option maxRecDepth 100000 in
set_option maxHeartbeats 2000000 in
theorem draw_putMat {a : Option Addr} {len cap : Nat} {zs : List Int} (w0 w : World) (h : IsRow .u8 w0 a len cap zs) (hB : Below w0.heap.size w0 w) :
    Calls Tryd.prog 16 #[.slice a len cap] w fun e w' => ∃ (zs : List Mat.E) (v : Value), e = .returned v ∧ zs.length ≤ 20 ∧ (∀ x ∈ zs, smallM x) ∧ Mat.Is w' v zs ∧ Below w.heap.size w w' := by
  have HO := hide (open_any w0 w h hB)
  clear h hB
  go_enter Tryd.func16, Tryd.ntmps16
  go_wp2_with fail
  refine (unhide HO).mono ?_
  rintro e w1 ⟨rfl, r1, b1⟩
  go_wp2_with fail
  refine (anymatches_any w.heap.size 0 _ r1 (by omega)).mono ?_
  rintro e w2 ⟨zs, v, rfl, hl, hsm, o2, -, q2⟩
  have S1 := hide (Mat.is_of_own o2)
  have M1 := hide hsm
  have b2 := b1.trans (below_of_grown q2 (Nat.le_refl _) b1.size)
  clear o2 q2 r1 HO hsm
  go_wp2_with fail
  go_ret
  exact ⟨zs, _, rfl, hl, unhide M1, unhide S1, b2⟩
set_option maxRecDepth 100000 in
set_option maxHeartbeats 4000000 in
theorem draw_textMat {a : Option Addr} {len cap : Nat} {zs : List Int} (w0 w : World) (h : IsRow .u8 w0 a len cap zs) (hB : Below w0.heap.size w0 w) :
    Calls Tryd.prog 23 #[.slice a len cap] w fun e w' => ∃ x : ByteArray, e = .returned (.string x) ∧ x.size ≤ 2002003 ∧ Below w.heap.size w w' := by
  have HO := hide (open_any w0 w h hB)
  clear h hB
  go_enter Tryd.func23, Tryd.ntmps23
  go_wp2_with fail
  refine (unhide HO).mono ?_
  rintro e w1 ⟨rfl, r1, b1⟩
  have hlt := r1.lt
  have hs1 := b1.size
  go_wp2_with fail
  refine (matchesK_any w.heap.size 0 _ r1 (by omega)).mono ?_
  rintro e w2 ⟨zs, v, rfl, hl3, hsm, o2, ⟨p2, hp2, r2⟩, q2⟩
  have hSm : Mat.small zs := ⟨by omega, fun x hx => by have := hsm x hx; exact ⟨this.1, this.2.1, by have := this.2.2.1; omega, by have := this.2.2.2; omega⟩⟩
  have hsz : (wrap 91 93 (Mat.parts zs)).size ≤ 2002002 := by
    unfold wrap
    rw [size_of]
    have := Mat.join_small hSm zs.length
    rw [List.take_of_length_le (Nat.le_refl _)] at this
    simp only [List.length_append, List.length_cons, List.length_nil]
    omega
  have HP := hide (Mat.l3Matches_any (Mat.is_of_own o2) hSm)
  have HR2 := hide r2
  have bb2 := b1.trans (below_of_grown q2 (Nat.le_refl _) hs1)
  have zq2 := q2.size
  obtain ⟨s, hs⟩ : ∃ s, s = wrap 91 93 (Mat.parts zs) := ⟨_, rfl⟩
  rw [← hs] at HP hsz
  clear o2 hsm hSm hs r1 HO r2
  go_wp2_with fail
  refine (unhide HP).mono ?_
  rintro e w3 ⟨rfl, b3⟩
  have r3 := (unhide HR2).below b3
  have c3 := bb2.trans (b3.mono bb2.size)
  have z3 := b3.size
  clear HP HR2 bb2 b3 q2
  go_wp2_with fail
  refine (pick_any w.heap.size p2 _ _ r3 (by omega) (by omega)).mono ?_
  rintro e w4 ⟨n, rfl, n0, n1, -, r4, g4⟩
  have n2 : n < (s.size : Int) + 1 := n1 (by omega)
  obtain ⟨K, rfl⟩ := Int.eq_ofNat_of_zero_le n0
  have hK : K ≤ s.size := by omega
  have c4 := c3.trans (below_of_grown g4 (Nat.le_refl _) c3.size)
  clear n0 n1 n2 g4 r3 c3
  go_wp2_with fail
  refine (pick_any w.heap.size (p2 + 1) _ _ r4 (by omega) (by omega)).mono ?_
  rintro e w5 ⟨m, rfl, m0, m1, -, r5, g5⟩
  have c5 := c4.trans (below_of_grown g5 (Nat.le_refl _) c4.size)
  clear r4 g5 c4 m1
  by_cases h0 : m = 0
  · subst h0
    have hz1 : (s.extract 0 K).size = K := by simp [ByteArray.size_extract]; omega
    have hz2 : (s.extract K s.size).size = s.size - K := by simp [ByteArray.size_extract]
    have hof := of_new w.heap.size (p2 + 1 + 1) [(⟨#[91]⟩ : ByteArray), ⟨#[93]⟩, ⟨#[44]⟩, ⟨#[61]⟩, ⟨#[97]⟩, ⟨#[33]⟩, ⟨#[126]⟩, ⟨#[94]⟩] w5.drew (rd_drew r5) (by omega) (by simp) (by simp)
    simp only [List.map_cons, List.map_nil, List.length_cons, List.length_nil, Nat.zero_add, Nat.reduceAdd, World.size_drew] at hof
    have c5d := c5.drew
    clear r5
    go_wp2_with fail
    go_region_held3 (fun _ => True) (trivial) ((go_at_call 45; refine hof.mono ?_; rintro e w6 ⟨x, rfl, hx, r6, g6⟩; have hx1 := size_oneMat hx; have hc1 : ∀ W : World, (Op.stringOp .add (s.extract 0 K) x).run Tryd.prog W = .ok (.string (s.extract 0 K ++ x)) W := fun W => run_string_add_sum W _ _ (by rw [hx1, hz1]; omega); have hc2 : ∀ W : World, (Op.stringOp .add (s.extract 0 K ++ x) (s.extract K s.size)).run Tryd.prog W = .ok (.string (s.extract 0 K ++ x ++ s.extract K s.size)) W := fun W => run_string_add_sum W _ _ (by rw [ByteArray.size_append, hx1, hz1, hz2]; omega)))
    have c6 := c5d.trans (below_of_grown g6 (Nat.le_refl _) c5d.size)
    clear g6 r6 hof
    go_wp2
    go_ret
    exact ⟨_, rfl, by rw [ByteArray.size_append, ByteArray.size_append, hx1, hz1, hz2]; omega, c6⟩
  have h0f : (m == 0) = false := by simpa using h0
  by_cases h1 : m = 1
  · subst h1
    go_wp2
    go_ret
    exact ⟨_, rfl, by simp [ByteArray.size_extract]; omega, c5⟩
  go_wp2
  go_ret
  exact ⟨s, rfl, by omega, c5⟩
end Go.Proofs.YtkmoekbicbjdmaaDoor.Draw
