/- My own texts of one claim, laid together by program: InsMath3, LabCmp, LabCmp2. -/
import Derived.Test.YtdggffcibcggoaaGa19c120c19
import Derived.Test.YtdggffcibcggoaaG7d15f82076
import Derived.Test.YtdggffcibcggoaaGe00281ce14
import Derived.Deep.RegionWith
/- Rows put to rows: the program's steps, one row more at a time. No condition. -/
namespace Go.Proofs.Ytdggffcibcggoaa.Row
open Go.RowKit Rw
set_option linter.unusedVariables false
theorem ins_len : ∀ {L : List E} {x : E} {R : List E}, ins L x = some R → R.length ≤ L.length + 1
  | [], x, R, h => by cases h; simp
  | y :: L, x, R, h => by
    rw [ins] at h
    split at h
    · obtain ⟨R', h1, rfl⟩ := Option.map_eq_some_iff.1 h
      have := ins_len h1
      simp only [List.length_cons]; omega
    · split at h
      · obtain ⟨R', h1, rfl⟩ := Option.map_eq_some_iff.1 h
        simp only [List.length_cons]; omega
      · cases h; simp only [List.length_cons]; omega
theorem insAll_snoc : ∀ (b : List E) (L : List E) (x : E), insAll L (b ++ [x]) = (insAll L b).bind fun R => ins R x
  | [], L, x => by simp only [List.nil_append, insAll, Option.bind_some]; cases ins L x <;> rfl
  | y :: b, L, x => by
    rw [List.cons_append, insAll, insAll]
    cases e : ins L y with
    | none => rfl
    | some R => rw [Option.bind_some, Option.bind_some]; exact insAll_snoc b R x
theorem insAll_app : ∀ (b c : List E) (L : List E), insAll L (b ++ c) = (insAll L b).bind fun R => insAll R c
  | [], c, L => rfl
  | y :: b, c, L => by
    rw [List.cons_append, insAll, insAll]
    cases e : ins L y with
    | none => rfl
    | some R => rw [Option.bind_some, Option.bind_some]; exact insAll_app b c R
theorem insAll_take_none {L b : List E} (k : Nat) (h : insAll L (b.take k) = none) : insAll L b = none := by
  rw [← List.take_append_drop k b, insAll_app, h]; rfl
theorem take_snoc {b : List E} {k : Nat} (hk : k < b.length) : b.take (k + 1) = b.take k ++ [at' b k] := by
  rw [List.take_succ_eq_append_getElem hk, at_get b k hk]
theorem insAll_step {L b R : List E} {k : Nat} (hk : k < b.length) (h : insAll L (b.take k) = some R) : insAll L (b.take (k + 1)) = ins R (at' b k) := by
  rw [take_snoc hk, insAll_snoc, h]; rfl
theorem insAll_fine : ∀ (b : List E) {L R : List E}, Fine L → (∀ x ∈ b, Fine [x]) → insAll L b = some R → Fine R ∧ R.length ≤ L.length + b.length
  | [], L, R, hL, _, h => by cases h; exact ⟨hL, by simp⟩
  | x :: b, L, R, hL, hb, h => by
    rw [insAll] at h
    cases e : ins L x with
    | none => rw [e] at h; cases h
    | some S =>
      rw [e, Option.bind_some] at h
      have i1 := (ins_fine hL (hb x (List.mem_cons_self ..)) e).1
      have i2 := ins_len e
      obtain ⟨j1, j2⟩ := insAll_fine b i1 (fun y hy => hb y (List.mem_cons_of_mem _ hy)) h
      exact ⟨j1, by simp only [List.length_cons]; omega⟩
theorem ins_end : ∀ {L : List E} {x : E}, (∀ y ∈ L, Lab.cmpL y.1 x.1 < 0) → ins L x = some (L ++ [x])
  | [], x, _ => rfl
  | y :: L, x, h => by
    rw [ins_lt L (h y (List.mem_cons_self ..)), ins_end (fun z hz => h z (List.mem_cons_of_mem _ hz))]; rfl
theorem insAll_end : ∀ (b : List E) {L : List E}, (L ++ b).Pairwise (fun a b => Lab.cmpL a.1 b.1 < 0) → insAll L b = some (L ++ b)
  | [], L, _ => by rw [insAll, List.append_nil]
  | x :: b, L, h => by
    have h' := List.pairwise_append.1 h
    rw [insAll, ins_end (fun y hy => h'.2.2 y hy x (List.mem_cons_self ..)), Option.bind_some, insAll_end b (by rw [List.append_assoc]; exact h), List.append_assoc]; rfl
theorem insAll_self {b : List E} (h : ok b = true) : insAll [] b = some b := by
  rw [insAll_end b (by rw [List.nil_append]; exact ((ok_iff b).1 h).2.1)]; rfl
theorem lab_good {ls : List Lab.E} (h : Lab.ok ls = true) : ls.length ≤ 4 ∧ ∀ y ∈ ls, y.1.size ≤ 6 ∧ y.2.size ≤ 8 := by
  unfold Lab.ok Lab.okTo at h
  simp only [Bool.and_eq_true, decide_eq_true_eq, List.all_eq_true, List.mem_range] at h
  refine ⟨h.1.2, fun y hy => ?_⟩
  obtain ⟨i, hi, rfl⟩ := List.getElem_of_mem hy
  have := h.2 i hi
  unfold Lab.stepOk Lab.nameB Lab.wordB at this
  have e : Lab.at' ls i = ls[i] := by simp [Lab.at', List.getD, hi]
  rw [e] at this
  simp only [Bool.and_eq_true, decide_eq_true_eq] at this
  exact ⟨this.1.1.1.1.2, this.1.1.2.1⟩
theorem wf_i64 {n : Int} (h0 : -9223372036854775808 ≤ n) (h1 : n ≤ 9223372036854775807) : (Lit.int .i64 n).wf = true := by
  have h2 : IntKind.i64.min = -9223372036854775808 := by decide
  have h3 : IntKind.i64.max = 9223372036854775807 := by decide
  simp only [Lit.wf, h2, h3]
  simp
  omega
theorem fine_good {L : List E} (h : Fine L) : ∀ x ∈ L, good x := by
  intro x hx
  have h1 := lab_good (h.lab x hx)
  have h2 := (h.sam x hx).1
  have h3 := SampMath.ok_len h2
  refine ⟨⟨by unfold maxLen; omega, fun y hy => ⟨by have := (h1.2 y hy).1; unfold maxLen; omega, by have := (h1.2 y hy).2; unfold maxLen; omega⟩⟩, by unfold maxLen; omega, fun y hy => ?_⟩
  obtain ⟨i, hi, rfl⟩ := List.getElem_of_mem hy
  have := SampMath.ok_range h2 hi
  have e : SampMath.at' x.2 i = x.2[i] := by simp [SampMath.at', List.getD, hi]
  rw [e] at this
  exact ⟨wf_i64 (by omega) (by omega), wf_i64 (by omega) (by omega)⟩
theorem fine_sorted {L : List E} (h : Fine L) : Sorted L := by
  unfold Sorted
  rw [List.pairwise_map]
  exact h.up.imp_of_mem fun {a b} ha hb hab => key_lt (h.lab a ha) (h.lab b hb) hab
theorem fine_nil : Fine [] := ⟨fun y hy => (by cases hy), fun y hy => (by cases hy), List.Pairwise.nil⟩
theorem join_bad1 {a b : List E} (h : ok a = false) : join a b = ([], false) := by unfold join; rw [if_neg (by rw [h]; simp)]
theorem join_bad2 {a b : List E} (h : ok b = false) : join a b = ([], false) := by unfold join; rw [if_neg (by rw [h]; simp)]
theorem join_no {a b : List E} (ha : ok a = true) (hb : ok b = true) (h : insAll a b = none) : join a b = ([], false) := by rw [join_set ha hb, h]; rfl
theorem join_yes {a b R : List E} (ha : ok a = true) (hb : ok b = true) (h : insAll a b = some R) (hR : ok R = true) : join a b = (R, true) := by rw [join_set ha hb, h, Option.bind_some, if_pos hR]; rfl
theorem join_many {a b R : List E} (ha : ok a = true) (hb : ok b = true) (h : insAll a b = some R) (hR : ok R = false) : join a b = ([], false) := by rw [join_set ha hb, h, Option.bind_some, if_neg (by rw [hR]; simp)]; rfl
end Go.Proofs.Ytdggffcibcggoaa.Row

/- LabelsCmp of the program, at every two slices of labels. -/
namespace Go.Proofs.Ytdggffcibcggoaa.Lab
open Go.RowKit Rw
set_option linter.unusedVariables false
attribute [local go_sem ↓] Go.wp_at_zero Go.wp_at_succ
theorem new_cell {W : World} {cs : Array Value} {t : TypeId} {B o : Nat} {u : Value} (hB : B = W.heap.size) (h : cs[o]? = some u) : (W.alloc (.cells cs t)).cell? ⟨B, o, none⟩ = some u := by
  subst hB
  rw [cell_of_row (W.alloc (.cells cs t)) W.heap.size o cs t _ (heap_alloc_new W _)]
  exact h
set_option maxHeartbeats 1000000 in
theorem or_any (g cap : Nat) (x y : Int) (w : World) (h0 : w.cell? ⟨g, 0, none⟩ = some (.int .i64 x)) (h1 : w.cell? ⟨g, 1, none⟩ = some (.int .i64 y)) :
    Calls Try.prog 144 #[.slice (some ⟨g, 0, none⟩) 2 cap] w fun e w' => e = .returned (.int .i64 (if x ≠ 0 then x else y)) ∧ w' = w := by
  obtain ⟨R, hR⟩ : ∃ R, R = if x ≠ 0 then x else y := ⟨_, rfl⟩
  rw [← hR]
  have HR := hide hR
  clear hR
  go_enter Try.func144, Try.ntmps144
  go_wp2
  go_loop [8] (fun i => ∃ k : Nat, k ≤ 2 ∧ i = .int .i64 k ∧ (0 < k → x = 0) ∧ (1 < k → y = 0)) (fun i => 2 - (intOf i).toNat)
  case atStart => exact ⟨0, by omega, rfl, fun h => by omega, fun h => by omega⟩
  case round =>
    obtain ⟨k, hk, rfl, ha, hb⟩ := hrel
    rcases (show k = 0 ∨ k = 1 ∨ k = 2 from by omega) with rfl | rfl | rfl
    · by_cases hx : x = 0
      · subst hx
        go_wp2
        go_round
        case rel => exact ⟨1, by omega, rfl, fun _ => by first | rfl | trivial, fun h => by omega⟩
        case measure => simp [intOf]
      · have hxb : (x == 0) = false := by simpa using hx
        have hxn : (x != 0) = true := by simpa using hx
        have HRx := hide (show R = x by rw [unhide HR, if_pos hx])
        go_wp2
        go_ret
        exact ⟨ret_int (unhide HRx).symm, rfl⟩
    · have hx := ha (by omega)
      have HRy := hide (show R = y by rw [unhide HR, if_neg (by simp [hx])])
      clear ha hb
      by_cases hy : y = 0
      · subst hy
        have HX := hide hx
        clear hx
        go_wp2
        go_round
        case rel => exact ⟨2, by omega, rfl, fun _ => unhide HX, fun _ => by first | rfl | trivial⟩
        case measure => simp [intOf]
      · have hyb : (y == 0) = false := by simpa using hy
        have hyn : (y != 0) = true := by simpa using hy
        clear hx
        go_wp2
        go_ret
        exact ⟨ret_int (unhide HRy).symm, rfl⟩
    · have hx := ha (by omega)
      have hy := hb (by omega)
      have HRz := hide (show R = 0 by rw [unhide HR, if_neg (by simp [hx]), hy])
      clear ha hb hx hy
      go_wp2
      go_ret
      exact ⟨ret_int (unhide HRz).symm, rfl⟩
theorem or_is (g cap : Nat) (x y R : Int) (w : World) (hR : R = if x ≠ 0 then x else y) (h0 : w.cell? ⟨g, 0, none⟩ = some (.int .i64 x)) (h1 : w.cell? ⟨g, 1, none⟩ = some (.int .i64 y)) :
    Calls Try.prog 144 #[.slice (some ⟨g, 0, none⟩) 2 cap] w fun e w' => e = .returned (.int .i64 R) ∧ w' = w := by rw [hR]; exact or_any g cap x y w h0 h1
set_option maxRecDepth 100000 in
set_option maxHeartbeats 4000000 in
theorem labelCmp_any (A B C D : ByteArray) (w : World) : Calls Try.prog 118 #[.agg #[.string A, .string B], .agg #[.string C, .string D]] w fun e w' => e = .returned (.int .i64 (cmpE (A, B) (C, D))) ∧ Below w.heap.size w w' := by
  have H1 := hide (fun W => show Calls Try.prog 145 #[.string A, .string C] W fun e w' => e = .returned (.int .i64 (cmpS A C)) ∧ w' = W from Try.strings_Compare A C W)
  have H2 := hide (fun W => show Calls Try.prog 145 #[.string B, .string D] W fun e w' => e = .returned (.int .i64 (cmpS B D)) ∧ w' = W from Try.strings_Compare B D W)
  have HE := hide (show cmpE (A, B) (C, D) = if cmpS A C ≠ 0 then cmpS A C else cmpS B D from rfl)
  generalize cmpE (A, B) (C, D) = R at HE
  generalize cmpS A C = X at H1 HE
  generalize cmpS B D = Y at H2 HE
  go_enter Try.func118, Try.ntmps118
  go_wp2_with fail
  go_region_with (first
    | (go_at_call_of 145 (A); refine (unhide H1 _).mono ?_; rintro e w1 ⟨rfl, hw1⟩; subst hw1)
    | (go_at_call_of 145 (B); refine (unhide H2 _).mono ?_; rintro e w1 ⟨rfl, hw1⟩; subst hw1)
    | (go_at_call 144; refine (or_is _ _ X Y R _ (unhide HE) (by simp; exact new_cell (by simp) rfl) (by simp; exact new_cell (by simp) rfl)).mono ?_; rintro e w1 ⟨rfl, hw1⟩; subst hw1))
  all_goals
    go_wp2_with fail
    go_ret
    exact ⟨rfl, ((((Below.refl _ _).alloc (Nat.le_refl _) _).alloc (by simp) _).alloc (by simp; omega) _).drew⟩
end Go.Proofs.Ytdggffcibcggoaa.Lab

/- LabelsCmp, of the program and of the model, at every two slices of labels. -/
namespace Go.Proofs.Ytdggffcibcggoaa.Lab
open Go.RowKit Rw
set_option linter.unusedVariables false
attribute [local go_sem ↓] Go.wp_at_zero Go.wp_at_succ
theorem ag {zs : List E} {k : Nat} (h : k < zs.length) (A B : ByteArray) (e : (A, B) = at' zs k) : (flat zs)[k * 2]? = some (.string A) ∧ (flat zs)[k * 2 + 1]? = some (.string B) := by
  have := flat_at zs k h
  rwa [← e] at this
set_option maxRecDepth 100000 in
set_option maxHeartbeats 4000000 in
theorem compareFunc_any {w : World} {v u : Value} {zs ys : List E} (h : Is w v zs) (h' : Is w u ys) :
    Calls Try.prog 117 #[v, u, .func (.func 118) #[] #[]] w fun e w' => e = .returned (.int .i64 (cmpL zs ys)) ∧ Below w.heap.size w w' := by
  obtain ⟨-, a, cap, rfl, hc, hm, -, hr⟩ := h
  obtain ⟨-, a', cap', rfl, hc', hm', -, hr'⟩ := h'
  unfold maxLen at hm hm'
  obtain ⟨n, hn⟩ : ∃ n, n = zs.length := ⟨_, rfl⟩
  obtain ⟨m, hmm⟩ : ∃ m, m = ys.length := ⟨_, rfl⟩
  rw [← hn] at hc hr ⊢
  rw [← hmm] at hc' hr' ⊢
  have HN := hide hn
  have HM := hide hmm
  clear hn hmm
  obtain ⟨R, hR⟩ : ∃ R, R = cmpL zs ys := ⟨_, rfl⟩
  rw [← hR]
  have HR := hide hR
  clear hR
  go_enter Try.func117, Try.ntmps117
  go_wp2_with fail
  go_loopw [13] (fun i wr => ∃ k : Nat, k ≤ n ∧ k ≤ m ∧ i = .int .i64 k ∧ CLeft zs ys k ∧ Below w.heap.size w wr) (fun i _ => n - (intOf i).toNat)
  case atStart => exact ⟨0, Nat.zero_le _, Nat.zero_le _, rfl, left_start zs ys, Below.refl _ _⟩
  case round =>
    obtain ⟨k, hk, hkm, rfl, hcl, hbel⟩ := hrel
    have HO := hide hcl
    clear hcl
    have hsz := hbel.size
    have hk0 : (0 : Int) ≤ (k : Int) := Int.natCast_nonneg _
    by_cases hlt : k < n
    · obtain ⟨b, off, rfl, hl, hcells⟩ := hr (by omega)
      obtain ⟨A, B, hX⟩ : ∃ A B, (A, B) = at' zs k := ⟨_, _, rfl⟩
      have fa := ag (by have := unhide HN; omega) A B hX
      have hc0 : wr.cell? ⟨b, off + k * 2, none⟩ = some (.string A) := (hbel.cell (p := ⟨b, _, none⟩) hl).trans (hcells (k * 2) _ fa.1)
      have hc1 : wr.cell? ⟨b, off + k * 2 + 1, none⟩ = some (.string B) := (hbel.cell (p := ⟨b, _, none⟩) hl).trans (hcells (k * 2 + 1) _ fa.2)
      have HX := hide hX
      clear hX fa
      have hk1 : (k : Int) < (n : Int) := by omega
      by_cases hlm : k < m
      · obtain ⟨b', off', rfl, hl', hcells'⟩ := hr' (by omega)
        obtain ⟨C, D, hY⟩ : ∃ C D, (C, D) = at' ys k := ⟨_, _, rfl⟩
        have fb := ag (by have := unhide HM; omega) C D hY
        have hbl1 : b' < wr.heap.size := by omega
        have hd0 : wr.cell? ⟨b', off' + k * 2, none⟩ = some (.string C) := (hbel.cell (p := ⟨b', _, none⟩) hl').trans (hcells' (k * 2) _ fb.1)
        have hd1 : wr.cell? ⟨b', off' + k * 2 + 1, none⟩ = some (.string D) := (hbel.cell (p := ⟨b', _, none⟩) hl').trans (hcells' (k * 2 + 1) _ fb.2)
        have hA : ∀ o j, (wr.alloc o).cell? ⟨b', j, none⟩ = wr.cell? ⟨b', j, none⟩ := fun o j => World.cell?_alloc_lt _ _ _ hbl1
        have hd0' : ∀ o, (wr.alloc o).cell? ⟨b', off' + k * 2, none⟩ = some (.string C) := fun o => (hA o _).trans hd0
        have hd1' : ∀ o, (wr.alloc o).cell? ⟨b', off' + k * 2 + 1, none⟩ = some (.string D) := fun o => (hA o _).trans hd1
        have HY := hide hY
        clear hY fb hA
        have hk2 : (k : Int) < (m : Int) := by omega
        have hge : decide ((m : Int) ≤ (k : Int)) = false := by simp; omega
        have HC := hide (fun W => labelCmp_any A B C D W)
        have HCE := hide (show cmpE (A, B) (C, D) = cmpE (at' zs k) (at' ys k) by rw [← unhide HX, ← unhide HY])
        have hrg := cmpE_range (A, B) (C, D)
        generalize cmpE (A, B) (C, D) = X at HC HCE hrg
        go_wp2_with fail
        refine (unhide HC _).mono ?_
        rintro e w2 ⟨rfl, b2⟩
        have c2 : Below w.heap.size w w2 := ((hbel.alloc hsz _).alloc (by simp; omega) _).trans (b2.mono (by simp; omega))
        clear b2 hd0' hd1'
        by_cases hX0 : X = 0
        · have HL := hide (left_next (unhide HO) (by have := unhide HN; omega) (by have := unhide HM; omega) (by rw [← unhide HCE]; exact hX0))
          subst hX0
          go_wp2_with fail
          go_roundw
          case rel => exact ⟨k + 1, by omega, by omega, by go_num, unhide HL, c2⟩
          case measure => simp [intOf]; omega
        · have hXn : (X != 0) = true := by simpa using hX0
          have hXb : (X == 0) = false := by simpa using hX0
          have HL := hide (show R = X by rw [unhide HR, left_stop (unhide HO) (by have := unhide HN; omega) (by have := unhide HM; omega) (by rw [← unhide HCE]; exact hX0), ← unhide HCE])
          go_wp2_with fail
          go_ret
          exact ⟨ret_int (unhide HL).symm, c2⟩
      · have hge : (m : Int) ≤ (k : Int) := by omega
        have HL := hide (show R = 1 by rw [unhide HR]; exact left_long (unhide HO) (by have := unhide HN; omega) (by have := unhide HM; omega))
        go_wp2_with fail
        go_ret
        exact ⟨ret_int (unhide HL).symm, hbel.alloc hsz _⟩
    · have hkf : decide ((k : Int) < (n : Int)) = false := by simp; omega
      by_cases hlm : n < m
      · have hnm : (n : Int) < (m : Int) := by omega
        have HL := hide (show R = -1 by rw [unhide HR]; exact left_short (unhide HO) (by have := unhide HN; omega) (by have := unhide HM; omega))
        go_wp2_with fail
        go_ret
        exact ⟨ret_int (unhide HL).symm, hbel⟩
      · have hnm : decide ((n : Int) < (m : Int)) = false := by simp; omega
        have HL := hide (show R = 0 by rw [unhide HR]; exact left_same (unhide HO) (by have := unhide HN; omega) (by have := unhide HM; omega))
        go_wp2_with fail
        go_ret
        exact ⟨ret_int (unhide HL).symm, hbel⟩
theorem run_lss (a b : ByteArray) (W : World) : (binOp .lss 9 (.string a) (.string b)).run Try.prog W = .ok (.bool (ltS a b)) W := rfl
theorem run_gtr (a b : ByteArray) (W : World) : (binOp .gtr 9 (.string a) (.string b)).run Try.prog W = .ok (.bool (!(ltS a b || a.toList == b.toList))) W := rfl
theorem l3Texts_any (a b : ByteArray) (w : World) : Calls Try.prog 137 #[.string a, .string b] w fun e w' => e = .returned (.int .i64 (cmpS a b)) ∧ w' = w := by
  rw [cmpS_eq]
  cases h1 : ltS a b
  · by_cases h2 : a.toList = b.toList
    · have l1 : ∀ W, (binOp .lss 9 (.string a) (.string b)).run Try.prog W = .ok (.bool false) W := fun W => by rw [run_lss, h1]
      have l2 : ∀ W, (binOp .gtr 9 (.string a) (.string b)).run Try.prog W = .ok (.bool false) W := fun W => by rw [run_gtr, h1, h2]; simp
      have l3 : Op.bytesLess a.toList b.toList = false := h1
      rw [if_neg (by simp), if_pos h2]
      have l4 : (a.toList == b.toList) = true := by simpa using h2
      clear h1 h2
      go_enter Try.func137, Try.ntmps137
      go_wp2
      go_ret
      exact ⟨rfl, rfl⟩
    · have l1 : ∀ W, (binOp .lss 9 (.string a) (.string b)).run Try.prog W = .ok (.bool false) W := fun W => by rw [run_lss, h1]
      have l4 : (a.toList == b.toList) = false := by simpa using h2
      have l2 : ∀ W, (binOp .gtr 9 (.string a) (.string b)).run Try.prog W = .ok (.bool true) W := fun W => by rw [run_gtr, h1, l4]; rfl
      have l3 : Op.bytesLess a.toList b.toList = false := h1
      rw [if_neg (by simp), if_neg h2]
      clear h1 h2
      go_enter Try.func137, Try.ntmps137
      go_wp2
      go_ret
      exact ⟨rfl, rfl⟩
  · have l1 : ∀ W, (binOp .lss 9 (.string a) (.string b)).run Try.prog W = .ok (.bool true) W := fun W => by rw [run_lss, h1]
    have l3 : Op.bytesLess a.toList b.toList = true := h1
    rw [if_pos rfl]
    clear h1
    go_enter Try.func137, Try.ntmps137
    go_wp2
    go_ret
    exact ⟨rfl, rfl⟩
end Go.Proofs.Ytdggffcibcggoaa.Lab
