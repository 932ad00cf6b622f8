/- My own texts of one claim, laid together by program: SampMath, RowMath, TabMath, TabEnds. -/
import Derived.Test.YtlboekimnhgfdaaGreatG41d3d5ff59
/- Samples, as plain mathematics: when they are ok, what is cut of them, what both are together. No condition. -/
namespace Go.Proofs.YtlboekimnhgfdaaGreat.SampMath
abbrev S := Int × Int
def inR (t v : Int) : Bool := decide (0 ≤ t) && decide (t ≤ 9999) && (decide (0 ≤ v) && decide (v ≤ 2147483647))
def at' (zs : List S) (i : Nat) : S := zs.getD i (0, 0)
def stepOk (zs : List S) (i : Nat) : Bool := inR (at' zs i).1 (at' zs i).2 && (i == 0 || decide ((at' zs (i - 1)).1 < (at' zs i).1))
def okTo (zs : List S) (k : Nat) : Bool := (List.range k).all (stepOk zs)
def ok (zs : List S) : Bool := okTo zs zs.length

theorem inR_yes {t v : Int} (h1 : 0 ≤ t) (h2 : t ≤ 9999) (h3 : 0 ≤ v) (h4 : v ≤ 2147483647) : inR t v = true := by simp [inR, h1, h2, h3, h4]
theorem inR_iff {t v : Int} : inR t v = true ↔ 0 ≤ t ∧ t ≤ 9999 ∧ 0 ≤ v ∧ v ≤ 2147483647 := by simp [inR, and_assoc]
theorem inR_no {t v : Int} (h : t < 0 ∨ 9999 < t ∨ v < 0 ∨ 2147483647 < v) : inR t v = false := by
  rw [Bool.eq_false_iff]; intro e; rw [inR_iff] at e; omega
theorem okTo_zero (zs : List S) : okTo zs 0 = true := rfl
theorem okTo_succ (zs : List S) (k : Nat) : okTo zs (k + 1) = (okTo zs k && stepOk zs k) := by simp [okTo, List.range_succ]
theorem ok_of_bad {zs : List S} {k : Nat} (hk : k < zs.length) (h : stepOk zs k = false) : ok zs = false := by
  unfold ok okTo
  rw [List.all_eq_false]
  exact ⟨k, List.mem_range.2 hk, by simp [h]⟩
theorem stepOk_first {zs : List S} (h : inR (at' zs 0).1 (at' zs 0).2 = true) : stepOk zs 0 = true := by simp [stepOk, h]
theorem stepOk_next {zs : List S} {k : Nat} (h : inR (at' zs k).1 (at' zs k).2 = true) (h' : (at' zs (k - 1)).1 < (at' zs k).1) : stepOk zs k = true := by simp [stepOk, h, h']
theorem stepOk_range {zs : List S} {k : Nat} (h : inR (at' zs k).1 (at' zs k).2 = false) : stepOk zs k = false := by simp [stepOk, h]
theorem stepOk_late {zs : List S} {k : Nat} (hk : 0 < k) (h' : (at' zs k).1 ≤ (at' zs (k - 1)).1) : stepOk zs k = false := by
  have h0 : (k == 0) = false := by simp; omega
  simp [stepOk, h0]
  intro _
  exact h'
theorem ok_at {zs : List S} (h : ok zs = true) {k : Nat} (hk : k < zs.length) : stepOk zs k = true := by
  unfold ok okTo at h
  exact List.all_eq_true.1 h k (List.mem_range.2 hk)
theorem ok_range {zs : List S} (h : ok zs = true) {k : Nat} (hk : k < zs.length) : 0 ≤ (at' zs k).1 ∧ (at' zs k).1 ≤ 9999 ∧ 0 ≤ (at' zs k).2 ∧ (at' zs k).2 ≤ 2147483647 := by
  have := ok_at h hk
  unfold stepOk at this
  rw [Bool.and_eq_true] at this
  exact inR_iff.1 this.1
theorem ok_step {zs : List S} (h : ok zs = true) {k : Nat} (hk : k + 1 < zs.length) : (at' zs k).1 < (at' zs (k + 1)).1 := by
  have := ok_at h hk
  unfold stepOk at this
  rw [Bool.and_eq_true] at this
  simpa using this.2
theorem ok_lt {zs : List S} (h : ok zs = true) {i j : Nat} (hij : i < j) (hj : j < zs.length) : (at' zs i).1 < (at' zs j).1 := by
  induction j with
  | zero => omega
  | succ j ih =>
    have h1 := ok_step h hj
    by_cases e : i = j
    · subst e; exact h1
    · have := ih (by omega) (by omega); omega
/-- the cells of samples, one behind the other -/
theorem at_snoc (zs : List S) (k : Nat) (h : k < zs.length) : zs.take (k + 1) = zs.take k ++ [at' zs k] := by
  rw [List.take_succ_eq_append_getElem h]; simp [at', List.getD, h]
end Go.Proofs.YtlboekimnhgfdaaGreat.SampMath

/- Rows that are ok, as plain mathematics. No condition. -/
namespace Go.Proofs.YtlboekimnhgfdaaGreat.Row
open Go.RowKit Rw
def rowB (x : E) : Bool := Lab.ok x.1 && (decide (1 ≤ x.2.length) && decide (x.2.length ≤ 1000)) && SampMath.ok x.2
def stepOk (zs : List E) (i : Nat) : Bool := rowB (at' zs i) && (i == 0 || decide (Lab.cmpL (at' zs (i - 1)).1 (at' zs i).1 < 0))
def okTo (zs : List E) (k : Nat) : Bool := (List.range k).all (stepOk zs)
def ok (zs : List E) : Bool := okTo zs zs.length && decide (zs.length ≤ 10)
theorem okTo_succ (zs : List E) (k : Nat) : okTo zs (k + 1) = (okTo zs k && stepOk zs k) := by simp [okTo, List.range_succ]
theorem ok_of_bad {zs : List E} {k : Nat} (hk : k < zs.length) (h : stepOk zs k = false) : ok zs = false := by
  unfold ok okTo
  rw [Bool.and_eq_false_iff]
  left
  rw [List.all_eq_false]
  exact ⟨k, by simpa using hk, by simp [h]⟩
theorem ok_long {zs : List E} (h : 10 < zs.length) : ok zs = false := by unfold ok; rw [decide_eq_false (by omega), Bool.and_false]
theorem step_lab {zs : List E} {k : Nat} (h : Lab.ok (at' zs k).1 = false) : stepOk zs k = false := by unfold stepOk rowB; rw [h]; rfl
theorem step_len {zs : List E} {k : Nat} (h : (at' zs k).2.length < 1 ∨ 1000 < (at' zs k).2.length) : stepOk zs k = false := by
  unfold stepOk rowB
  rcases h with h | h
  · rw [decide_eq_false (show ¬ 1 ≤ (at' zs k).2.length by omega)]; simp
  · rw [decide_eq_false (show ¬ (at' zs k).2.length ≤ 1000 by omega)]; simp
theorem step_sam {zs : List E} {k : Nat} (h : SampMath.ok (at' zs k).2 = false) : stepOk zs k = false := by unfold stepOk rowB; rw [h]; simp
theorem step_cmp {zs : List E} {k : Nat} (h0 : 0 < k) (h : ¬ Lab.cmpL (at' zs (k - 1)).1 (at' zs k).1 < 0) : stepOk zs k = false := by
  unfold stepOk
  rw [decide_eq_false h, show (k == 0) = false from by simp; omega]; simp
theorem step_yes {zs : List E} {k : Nat} (h1 : Lab.ok (at' zs k).1 = true) (h2 : 1 ≤ (at' zs k).2.length) (h3 : (at' zs k).2.length ≤ 1000) (h4 : SampMath.ok (at' zs k).2 = true) (h5 : k = 0 ∨ Lab.cmpL (at' zs (k - 1)).1 (at' zs k).1 < 0) : stepOk zs k = true := by
  unfold stepOk rowB
  rw [h1, h4, decide_eq_true h2, decide_eq_true h3]
  rcases h5 with h | h
  · simp [h]
  · simp [h]
theorem okTo_at {zs : List E} {k : Nat} (h : okTo zs k = true) {i : Nat} (hi : i < k) : stepOk zs i = true := by
  unfold okTo at h
  rw [List.all_eq_true] at h
  exact h i (by simpa using hi)
theorem step_is {zs : List E} {k : Nat} (h : stepOk zs k = true) : Lab.ok (at' zs k).1 = true ∧ 1 ≤ (at' zs k).2.length ∧ (at' zs k).2.length ≤ 1000 ∧ SampMath.ok (at' zs k).2 = true := by
  unfold stepOk rowB at h
  simp only [Bool.and_eq_true, decide_eq_true_eq] at h
  exact ⟨h.1.1.1, h.1.1.2.1, h.1.1.2.2, h.1.2⟩
theorem ok_at {zs : List E} (h : ok zs = true) {i : Nat} (hi : i < zs.length) : stepOk zs i = true := by
  unfold ok at h
  rw [Bool.and_eq_true] at h
  exact okTo_at h.1 hi
theorem ok_len {zs : List E} (h : ok zs = true) : zs.length ≤ 10 := by
  unfold ok at h
  rw [Bool.and_eq_true] at h
  simpa using h.2
end Go.Proofs.YtlboekimnhgfdaaGreat.Row

/- Tables that are ok, as plain mathematics. No condition. -/
namespace Go.Proofs.YtlboekimnhgfdaaGreat.Row
open Go.RowKit Rw
def inT (f t : Int) (x : Int × Int) : Bool := decide (f ≤ x.1) && decide (x.1 < t)
def within1 (l : List (Int × Int)) (f t : Int) : Bool := l.all (inT f t)
def within (zs : List E) (f t : Int) : Bool := zs.all fun x => within1 x.2 f t
theorem within_bad {zs : List E} {f t : Int} {j : Nat} (hj : j < zs.length) (h : within1 (at' zs j).2 f t = false) : within zs f t = false := by
  unfold within
  rw [List.all_eq_false]
  exact ⟨at' zs j, at_mem zs j hj, by rw [h]; simp⟩
theorem within1_bad {l : List (Int × Int)} {f t : Int} {k : Nat} (hk : k < l.length) (h : (Sam.at' l k).1 < f ∨ t ≤ (Sam.at' l k).1) : within1 l f t = false := by
  unfold within1
  rw [List.all_eq_false]
  refine ⟨Sam.at' l k, by rw [Sam.at_get l k hk]; exact List.getElem_mem _, ?_⟩
  unfold inT
  simp only [Bool.and_eq_true, decide_eq_true_eq]
  omega
theorem within1_snoc {l : List (Int × Int)} {f t : Int} {k : Nat} (hk : k < l.length) (h : within1 (l.take k) f t = true) (h1 : f ≤ (Sam.at' l k).1) (h2 : (Sam.at' l k).1 < t) : within1 (l.take (k + 1)) f t = true := by
  unfold within1 at *
  rw [Sam.at_snoc l k hk, List.all_append, h]
  simp [inT, h1, h2]
theorem within_snoc {zs : List E} {f t : Int} {j : Nat} (hj : j < zs.length) (h : within (zs.take j) f t = true) (h1 : within1 (at' zs j).2 f t = true) : within (zs.take (j + 1)) f t = true := by
  unfold within at *
  rw [at_snoc zs j hj, List.all_append, h]
  simp [h1]
/-- the latest time, and the earliest one, of rows that all have some -/
def lastOf (l : List (Int × Int)) : Int := (Sam.at' l (l.length - 1)).1
def firstOf (l : List (Int × Int)) : Int := (Sam.at' l 0).1
def lastR (zs : List E) : Int := zs.foldl (fun a x => if a < lastOf x.2 then lastOf x.2 else a) (-1)
def firstR (zs : List E) : Int := zs.foldl (fun a x => if firstOf x.2 < a then firstOf x.2 else a) 10000
theorem lastR_snoc (zs : List E) (j : Nat) (h : j < zs.length) : lastR (zs.take (j + 1)) = if lastR (zs.take j) < lastOf (at' zs j).2 then lastOf (at' zs j).2 else lastR (zs.take j) := by
  unfold lastR
  rw [at_snoc zs j h, List.foldl_append]
  rfl
theorem firstR_snoc (zs : List E) (j : Nat) (h : j < zs.length) : firstR (zs.take (j + 1)) = if firstOf (at' zs j).2 < firstR (zs.take j) then firstOf (at' zs j).2 else firstR (zs.take j) := by
  unfold firstR
  rw [at_snoc zs j h, List.foldl_append]
  rfl
theorem lastR_le (zs : List E) (H : Int) : ∀ n, n ≤ zs.length → (lastR (zs.take n) ≤ H ↔ -1 ≤ H ∧ ∀ j, j < n → lastOf (at' zs j).2 ≤ H)
  | 0, _ => by simp [lastR]
  | n + 1, hn => by
    rw [lastR_snoc zs n (by omega)]
    have ih := lastR_le zs H n (by omega)
    constructor
    · intro h
      have h1 : lastR (zs.take n) ≤ H ∧ lastOf (at' zs n).2 ≤ H := by split at h <;> constructor <;> omega
      have h2 := ih.1 h1.1
      refine ⟨h2.1, fun j hj => ?_⟩
      by_cases e : j = n
      · subst e; exact h1.2
      · exact h2.2 j (by omega)
    · intro h
      have h1 := ih.2 ⟨h.1, fun j hj => h.2 j (by omega)⟩
      have h2 := h.2 n (by omega)
      split <;> omega
theorem firstR_ge (zs : List E) (F : Int) : ∀ n, n ≤ zs.length → (F ≤ firstR (zs.take n) ↔ F ≤ 10000 ∧ ∀ j, j < n → F ≤ firstOf (at' zs j).2)
  | 0, _ => by simp [firstR]
  | n + 1, hn => by
    rw [firstR_snoc zs n (by omega)]
    have ih := firstR_ge zs F n (by omega)
    constructor
    · intro h
      have h1 : F ≤ firstR (zs.take n) ∧ F ≤ firstOf (at' zs n).2 := by split at h <;> constructor <;> omega
      have h2 := ih.1 h1.1
      refine ⟨h2.1, fun j hj => ?_⟩
      by_cases e : j = n
      · subst e; exact h1.2
      · exact h2.2 j (by omega)
    · intro h
      have h1 := ih.2 ⟨h.1, fun j hj => h.2 j (by omega)⟩
      have h2 := h.2 n (by omega)
      split <;> omega
theorem within1_iff {l : List (Int × Int)} (hok : SampMath.ok l = true) (h1 : 1 ≤ l.length) (F T : Int) : within1 l F T = true ↔ F ≤ firstOf l ∧ lastOf l < T := by
  unfold within1
  rw [List.all_eq_true]
  constructor
  · intro h
    have a := h (Sam.at' l 0) (by rw [Sam.at_get l 0 (by omega)]; exact List.getElem_mem _)
    have b := h (Sam.at' l (l.length - 1)) (by rw [Sam.at_get l (l.length - 1) (by omega)]; exact List.getElem_mem _)
    unfold inT at a b
    simp only [Bool.and_eq_true, decide_eq_true_eq] at a b
    exact ⟨a.1, b.2⟩
  · rintro ⟨ha, hb⟩ x hx
    obtain ⟨i, hi, rfl⟩ := List.getElem_of_mem hx
    have e : l[i] = SampMath.at' l i := by simp [SampMath.at', List.getD, hi]
    have f0 : firstOf l ≤ (SampMath.at' l i).1 := by
      show (SampMath.at' l 0).1 ≤ _
      rcases Nat.eq_zero_or_pos i with h | h
      · subst h; exact Int.le_refl _
      · exact Int.le_of_lt (SampMath.ok_lt hok h hi)
    have f1 : (SampMath.at' l i).1 ≤ lastOf l := by
      show _ ≤ (SampMath.at' l (l.length - 1)).1
      rcases Nat.lt_or_ge i (l.length - 1) with h | h
      · exact Int.le_of_lt (SampMath.ok_lt hok h (by omega))
      · have : i = l.length - 1 := by omega
        subst this; exact Int.le_refl _
    unfold inT
    simp only [Bool.and_eq_true, decide_eq_true_eq]
    rw [e]
    exact ⟨by omega, by omega⟩
theorem within_iff {zs : List E} (hok : ok zs = true) {H F : Int} (hH : -1 ≤ H) (hF : F ≤ 10000) : within zs F (H + 1) = true ↔ lastR zs ≤ H ∧ F ≤ firstR zs := by
  have e1 := lastR_le zs H zs.length (Nat.le_refl _)
  have e2 := firstR_ge zs F zs.length (Nat.le_refl _)
  rw [List.take_of_length_le (Nat.le_refl _)] at e1 e2
  rw [e1, e2]
  have hs := fun (j : Nat) (hj : j < zs.length) => step_is (ok_at hok hj)
  unfold within
  rw [List.all_eq_true]
  constructor
  · intro h
    have g : ∀ j, j < zs.length → F ≤ firstOf (at' zs j).2 ∧ lastOf (at' zs j).2 < H + 1 := fun j hj => (within1_iff (hs j hj).2.2.2 (hs j hj).2.1 F (H + 1)).1 (h _ (at_mem zs j hj))
    exact ⟨⟨hH, fun j hj => by have := (g j hj).2; omega⟩, hF, fun j hj => (g j hj).1⟩
  · rintro ⟨⟨_, h1⟩, _, h2⟩ x hx
    obtain ⟨j, hj, rfl⟩ := List.getElem_of_mem hx
    rw [← at_get zs j hj]
    exact (within1_iff (hs j hj).2.2.2 (hs j hj).2.1 F (H + 1)).2 ⟨h2 j hj, by have := h1 j hj; omega⟩
def floorB (F : Int) : Bool := decide (0 ≤ F) && decide (F ≤ 9999) && decide (F.tmod 100 = 0)
def tableB (zs : List E) (H F : Int) : Bool := decide (-1 ≤ H) && decide (H ≤ 9999) && floorB F && (decide (F = 0) || decide (F ≤ H)) && ok zs && within zs F (H + 1)
end Go.Proofs.YtlboekimnhgfdaaGreat.Row

/- Whether all samples lie between two times; the latest and the earliest time. -/
namespace Go.Proofs.YtlboekimnhgfdaaGreat.Row
open Go.RowKit Rw
set_option linter.unusedVariables false
attribute [local go_sem ↓] Go.wp_at_zero Go.wp_at_succ
set_option maxRecDepth 100000 in
set_option maxHeartbeats 4000000 in
theorem within_any {w : World} {v : Value} {zs : List E} (f t : Int) (h : Is w v zs) : Calls Tryz.prog 68 #[v, .int .i64 f, .int .i64 t] w fun e w' => e = .returned (.bool (within zs f t)) ∧ Below w.heap.size w w' := by
  obtain ⟨cs, hcs, hL, hE⟩ := h
  have HE := hide hE
  obtain ⟨-, a, cap, rfl, hc, hm, -, hr⟩ := hL
  unfold maxLen at hm
  obtain ⟨n, hn⟩ : ∃ n, n = zs.length := ⟨_, rfl⟩
  rw [← hn] at hc hr hcs ⊢
  have HN := hide hn
  have HC := hide hcs
  clear hn hE hcs
  go_enter Tryz.func68, Tryz.ntmps68
  go_wp2_with fail
  go_loopw [13] (fun i wr => ∃ (j : Nat), j ≤ n ∧ i = .int .i64 j ∧ Hid (within (zs.take j) f t = true) ∧ Below w.heap.size w wr) (fun i _ => n - (intOf i).toNat)
  case atStart => exact ⟨0, Nat.zero_le _, rfl, hide rfl, Below.refl _ _⟩
  case round =>
    obtain ⟨j, hj, rfl, HO, hbel⟩ := hrel
    obtain ⟨wo, hwo⟩ : ∃ wo, wo = wr := ⟨_, rfl⟩
    subst hwo
    have hsz := hbel.size
    by_cases hlt : j < n
    · obtain ⟨b, off, rfl, hl, hcells⟩ := hr (by omega)
      have fa := flat_at cs j (by have := unhide HC; omega)
      have hc1 : wo.cell? ⟨b, off + j * 2 + 1, none⟩ = some (cat cs j).2 := (hbel.cell (p := ⟨b, _, none⟩) hl).trans (hcells (j * 2 + 1) _ fa.2)
      have hc0 : wo.cell? ⟨b, off + j * 2, none⟩ = some (cat cs j).1 := (hbel.cell (p := ⟨b, _, none⟩) hl).trans (hcells (j * 2) _ fa.1)
      have hEj := (unhide HE j (by have := unhide HN; omega)).below hbel
      obtain ⟨-, a2, q2, f2, g2, g2', -, hr2⟩ := hEj.2
      obtain ⟨l2, hl2⟩ : ∃ l, l = (at' zs j).2.length := ⟨_, rfl⟩
      unfold maxLen at g2'
      rw [f2, ← hl2] at hc1
      rw [← hl2] at g2 hr2
      have HL2 := hide hl2
      have hk0 : (0 : Int) ≤ (j : Int) := Int.natCast_nonneg _
      have hk1 : (j : Int) < (n : Int) := by omega
      obtain ⟨a1, q1, f1, -, -⟩ := hEj.1.form
      obtain ⟨l1, hl1⟩ : ∃ l, l = (at' zs j).1.length := ⟨_, rfl⟩
      rw [f1, ← hl1] at hc0
      clear fa hEj f1 f2 hl1 hl2
      go_wp2_with fail
      obtain ⟨wa, hwa⟩ : ∃ wa, wa = wo.alloc (.cells #[.slice a1 l1 q1, .slice a2 l2 q2] 93) := ⟨_, rfl⟩
      have ba : Below wo.heap.size wo wa := by rw [hwa]; exact (Below.refl _ _).alloc (Nat.le_refl _) _
      rw [← hwa]
      clear hwa
      have hbela : Below w.heap.size w wa := hbel.trans (ba.mono hsz)
      go_loopw [20] (fun i wr => ∃ (k : Nat), k ≤ l2 ∧ i = .int .i64 k ∧ Hid (within1 ((at' zs j).2.take k) f t = true) ∧ Below wo.heap.size wo wr) (fun i _ => l2 - (intOf i).toNat)
      case atStart => exact ⟨0, Nat.zero_le _, rfl, hide rfl, ba⟩
      case round =>
        obtain ⟨k, hk, rfl, HK, hbel2⟩ := hrel
        have hsz2 := hbel2.size
        have hbw : Below w.heap.size w wr := hbel.trans (hbel2.mono hsz)
        by_cases hlt2 : k < l2
        · obtain ⟨b2, off2, rfl, hlb, hcells2⟩ := hr2 (by omega)
          have fs := Sam.flat_at (at' zs j).2 k (by have := unhide HL2; omega)
          have hx0 : wr.cell? ⟨b2, off2 + k * 2, none⟩ = some (.int .i64 (Sam.at' (at' zs j).2 k).1) := (hbel2.cell (p := ⟨b2, _, none⟩) hlb).trans (hcells2 (k * 2) _ fs.1)
          have hx1 : wr.cell? ⟨b2, off2 + k * 2 + 1, none⟩ = some (.int .i64 (Sam.at' (at' zs j).2 k).2) := (hbel2.cell (p := ⟨b2, _, none⟩) hlb).trans (hcells2 (k * 2 + 1) _ fs.2)
          have HB := hide (fun h => within_bad (zs := zs) (f := f) (t := t) (j := j) (by have := unhide HN; omega) (within1_bad (k := k) (by have := unhide HL2; omega) h))
          have HSn := hide (fun h1 h2 => within1_snoc (l := (at' zs j).2) (f := f) (t := t) (k := k) (by have := unhide HL2; omega) (unhide HK) h1 h2)
          obtain ⟨T, hT⟩ : ∃ T, T = (Sam.at' (at' zs j).2 k).1 := ⟨_, rfl⟩
          obtain ⟨V, hV⟩ : ∃ V, V = (Sam.at' (at' zs j).2 k).2 := ⟨_, rfl⟩
          rw [← hT] at hx0 HB HSn
          rw [← hV] at hx1
          clear hT hV fs
          have hm0 : (0 : Int) ≤ (k : Int) := Int.natCast_nonneg _
          have hm1 : (k : Int) < (l2 : Int) := by omega
          have hb9 := hbw.alloc hbw.size (.cells #[.int .i64 T, .int .i64 V] 106)
          have hb8 := hbel2.alloc hbel2.size (.cells #[.int .i64 T, .int .i64 V] 106)
          rcases (show T < f ∨ (f ≤ T ∧ t ≤ T) ∨ (f ≤ T ∧ T < t) from by omega) with hs | ⟨hs, hs'⟩ | ⟨hs, hs'⟩
          · have HF := hide (unhide HB (.inl hs))
            go_wp2_with fail
            go_ret
            exact ⟨ret_bool (unhide HF).symm, hb9⟩
          · have HF := hide (unhide HB (.inr hs'))
            have hs3 : ¬ T < f := by omega
            go_wp2_with fail
            go_ret
            exact ⟨ret_bool (unhide HF).symm, hb9⟩
          · have HU := hide (unhide HSn hs hs')
            have hs3 : ¬ T < f := by omega
            have hs4 : ¬ t ≤ T := by omega
            go_wp2
            go_roundw
            case rel => exact ⟨k + 1, by omega, by go_num, HU, hb8⟩
            case measure => simp [intOf]; omega
        · obtain rfl : k = l2 := by omega
          have HU := hide (within_snoc (zs := zs) (f := f) (t := t) (j := j) (by have := unhide HN; omega) (unhide HO) (by have := unhide HK; rwa [List.take_of_length_le (by have := unhide HL2; omega)] at this))
          go_wp2
          go_roundw
          case rel => exact ⟨j + 1, by omega, by go_num, HU, hbw⟩
          case measure => simp [intOf]; omega
    · obtain rfl : j = n := by omega
      have HU := hide (show within zs f t = true by have := unhide HO; rwa [List.take_of_length_le (by have := unhide HN; omega)] at this)
      go_wp2
      go_ret
      exact ⟨ret_bool (unhide HU).symm, hbel⟩
set_option maxRecDepth 100000 in
set_option maxHeartbeats 4000000 in
theorem last_any {w : World} {v : Value} {zs : List E} (h : Is w v zs) (hok : ok zs = true) : Calls Tryz.prog 61 #[v] w fun e w' => e = .returned (.int .i64 (lastR zs)) ∧ w' = w := by
  have HOK := hide hok
  clear hok
  obtain ⟨cs, hcs, hL, hE⟩ := h
  have HE := hide hE
  obtain ⟨-, a, cap, rfl, hc, hm, -, hr⟩ := hL
  unfold maxLen at hm
  obtain ⟨n, hn⟩ : ∃ n, n = zs.length := ⟨_, rfl⟩
  rw [← hn] at hc hr hcs ⊢
  have HN := hide hn
  have HC := hide hcs
  clear hn hE hcs
  go_enter Tryz.func61, Tryz.ntmps61
  go_wp2_with fail
  go_loopw [3, 4] (fun o i wr => ∃ (j : Nat) (M : Int), j ≤ n ∧ i = .int .i64 j ∧ o = .int .i64 M ∧ Hid (M = lastR (zs.take j)) ∧ wr = w) (fun _ i _ => n - (intOf i).toNat)
  case atStart => exact ⟨0, _, Nat.zero_le _, rfl, rfl, hide rfl, rfl⟩
  case round =>
    obtain ⟨j, M, hj, rfl, rfl, HM, rfl⟩ := hrel
    by_cases hlt : j < n
    · obtain ⟨b, off, rfl, hl, hcells⟩ := hr (by omega)
      have hbel := Below.refl wr.heap.size wr
      have fa := flat_at cs j (by have := unhide HC; omega)
      have hc1 : wr.cell? ⟨b, off + j * 2 + 1, none⟩ = some (cat cs j).2 := (hbel.cell (p := ⟨b, _, none⟩) hl).trans (hcells (j * 2 + 1) _ fa.2)
      have hEj := (unhide HE j (by have := unhide HN; omega)).below hbel
      obtain ⟨-, a2, q2, f2, g2, g2', -, hr2⟩ := hEj.2
      obtain ⟨l2, hl2⟩ : ∃ l, l = (at' zs j).2.length := ⟨_, rfl⟩
      unfold maxLen at g2'
      rw [f2, ← hl2] at hc1
      rw [← hl2] at g2 hr2
      have HL2 := hide hl2
      have hk0 : (0 : Int) ≤ (j : Int) := Int.natCast_nonneg _
      have hk1 : (j : Int) < (n : Int) := by omega
      have hst := step_is (ok_at (unhide HOK) (show j < zs.length by have := unhide HN; omega))
      obtain ⟨b2, off2, rfl, hlb, hcells2⟩ := hr2 (by rw [hl2]; exact hst.2.1)
      have hpos : 1 ≤ l2 := by rw [hl2]; exact hst.2.1
      have HS := hide (lastR_snoc zs j (by have := unhide HN; omega))
      rw [← unhide HM] at HS
      obtain ⟨l3, rfl⟩ : ∃ l3, l2 = l3 + 1 := ⟨l2 - 1, by omega⟩
      have fs := Sam.flat_at (at' zs j).2 l3 (by have := unhide HL2; omega)
      have hx0 : wr.cell? ⟨b2, off2 + l3 * 2, none⟩ = some (.int .i64 (Sam.at' (at' zs j).2 l3).1) := hcells2 (l3 * 2) _ fs.1
      have hO : lastOf (at' zs j).2 = (Sam.at' (at' zs j).2 l3).1 := by unfold lastOf; rw [← unhide HL2]; rfl
      have hm0 : (0 : Int) ≤ (l3 : Int) := Int.natCast_nonneg _
      have hm1 : (l3 : Int) < ((l3 + 1 : Nat) : Int) := by omega
      have hm2 : ((l3 + 1 : Nat) : Int) - 1 = (l3 : Int) := by omega
      rw [← hO] at hx0
      clear hO
      obtain ⟨T, hT⟩ : ∃ T, T = lastOf (at' zs j).2 := ⟨_, rfl⟩
      rw [← hT] at hx0 HS
      clear hT fs hEj f2 fa hst hl2
      by_cases hc : M < T
      · have HU := hide (show T = lastR (zs.take (j + 1)) by rw [unhide HS, if_pos hc])
        go_wp2
        go_roundw
        case rel => exact ⟨j + 1, T, by omega, by go_num, rfl, HU, trivial⟩
        case measure => simp [intOf]; omega
      · have HU := hide (show M = lastR (zs.take (j + 1)) by rw [unhide HS, if_neg hc])
        go_wp2
        go_roundw
        case rel => exact ⟨j + 1, M, by omega, by go_num, rfl, HU, trivial⟩
        case measure => simp [intOf]; omega
    · obtain rfl : j = n := by omega
      have HU := hide (show M = lastR zs by rw [unhide HM, List.take_of_length_le (by have := unhide HN; omega)])
      go_wp2
      go_ret
      exact ⟨ret_int (unhide HU), rfl⟩
set_option maxRecDepth 100000 in
set_option maxHeartbeats 4000000 in
theorem first_any {w : World} {v : Value} {zs : List E} (h : Is w v zs) (hok : ok zs = true) : Calls Tryz.prog 62 #[v] w fun e w' => e = .returned (.int .i64 (firstR zs)) ∧ w' = w := by
  have HOK := hide hok
  clear hok
  obtain ⟨cs, hcs, hL, hE⟩ := h
  have HE := hide hE
  obtain ⟨-, a, cap, rfl, hc, hm, -, hr⟩ := hL
  unfold maxLen at hm
  obtain ⟨n, hn⟩ : ∃ n, n = zs.length := ⟨_, rfl⟩
  rw [← hn] at hc hr hcs ⊢
  have HN := hide hn
  have HC := hide hcs
  clear hn hE hcs
  go_enter Tryz.func62, Tryz.ntmps62
  go_wp2_with fail
  go_loopw [3, 4] (fun o i wr => ∃ (j : Nat) (M : Int), j ≤ n ∧ i = .int .i64 j ∧ o = .int .i64 M ∧ Hid (M = firstR (zs.take j)) ∧ wr = w) (fun _ i _ => n - (intOf i).toNat)
  case atStart => exact ⟨0, _, Nat.zero_le _, rfl, rfl, hide rfl, rfl⟩
  case round =>
    obtain ⟨j, M, hj, rfl, rfl, HM, rfl⟩ := hrel
    by_cases hlt : j < n
    · obtain ⟨b, off, rfl, hl, hcells⟩ := hr (by omega)
      have hbel := Below.refl wr.heap.size wr
      have fa := flat_at cs j (by have := unhide HC; omega)
      have hc1 : wr.cell? ⟨b, off + j * 2 + 1, none⟩ = some (cat cs j).2 := (hbel.cell (p := ⟨b, _, none⟩) hl).trans (hcells (j * 2 + 1) _ fa.2)
      have hEj := (unhide HE j (by have := unhide HN; omega)).below hbel
      obtain ⟨-, a2, q2, f2, g2, g2', -, hr2⟩ := hEj.2
      obtain ⟨l2, hl2⟩ : ∃ l, l = (at' zs j).2.length := ⟨_, rfl⟩
      unfold maxLen at g2'
      rw [f2, ← hl2] at hc1
      rw [← hl2] at g2 hr2
      have HL2 := hide hl2
      have hk0 : (0 : Int) ≤ (j : Int) := Int.natCast_nonneg _
      have hk1 : (j : Int) < (n : Int) := by omega
      have hst := step_is (ok_at (unhide HOK) (show j < zs.length by have := unhide HN; omega))
      obtain ⟨b2, off2, rfl, hlb, hcells2⟩ := hr2 (by rw [hl2]; exact hst.2.1)
      have hpos : 1 ≤ l2 := by rw [hl2]; exact hst.2.1
      have HS := hide (firstR_snoc zs j (by have := unhide HN; omega))
      rw [← unhide HM] at HS
      have fs := Sam.flat_at (at' zs j).2 0 (by have := unhide HL2; omega)
      have hx0 : wr.cell? ⟨b2, off2, none⟩ = some (.int .i64 (Sam.at' (at' zs j).2 0).1) := by have := hcells2 0 _ (by simpa using fs.1); simpa using this
      have hO : firstOf (at' zs j).2 = (Sam.at' (at' zs j).2 0).1 := rfl
      have hm1 : (0 : Int) < (l2 : Int) := by omega
      rw [← hO] at hx0
      clear hO
      obtain ⟨T, hT⟩ : ∃ T, T = firstOf (at' zs j).2 := ⟨_, rfl⟩
      rw [← hT] at hx0 HS
      clear hT fs hEj f2 fa hst hl2
      by_cases hc : T < M
      · have HU := hide (show T = firstR (zs.take (j + 1)) by rw [unhide HS, if_pos hc])
        go_wp2
        go_roundw
        case rel => exact ⟨j + 1, T, by omega, by go_num, rfl, HU, trivial⟩
        case measure => simp [intOf]; omega
      · have HU := hide (show M = firstR (zs.take (j + 1)) by rw [unhide HS, if_neg hc])
        go_wp2
        go_roundw
        case rel => exact ⟨j + 1, M, by omega, by go_num, rfl, HU, trivial⟩
        case measure => simp [intOf]; omega
    · obtain rfl : j = n := by omega
      have HU := hide (show M = firstR zs by rw [unhide HM, List.take_of_length_le (by have := unhide HN; omega)])
      go_wp2
      go_ret
      exact ⟨ret_int (unhide HU), rfl⟩
end Go.Proofs.YtlboekimnhgfdaaGreat.Row
