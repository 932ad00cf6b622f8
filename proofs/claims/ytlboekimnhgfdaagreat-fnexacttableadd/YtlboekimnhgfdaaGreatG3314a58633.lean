/- My own texts of one claim, laid together by program: TabMath, TabEnds, TabLaw, TabOk. -/
import Derived.Test.YtlboekimnhgfdaaGreatG5809efe2b5
import Derived.Test.YtlboekimnhgfdaaGreatGf4e7b64053
import Derived.Test.YtlboekimnhgfdaaGreatG32ba85294a
/- Tables that are ok, as plain mathematics. No condition. -/
namespace Go.Proofs.YtlboekimnhgfdaaGreat.Row
open Go.RowKit Rw
def inT (f t : Int) (x : Int × Int) : Bool := decide (f ≤ x.1) && decide (x.1 < t)
def within1 (l : List (Int × Int)) (f t : Int) : Bool := l.all (inT f t)
def within (zs : List E) (f t : Int) : Bool := zs.all fun x => within1 x.2 f t
theorem within_bad {zs : List E} {f t : Int} {j : Nat} (hj : j < zs.length) (h : within1 (at' zs j).2 f t = false) : within zs f t = false := by
  unfold within
  rw [List.all_eq_false]
  exact ⟨at' zs j, at_mem zs j hj, by rw [h]; simp⟩
theorem within1_bad {l : List (Int × Int)} {f t : Int} {k : Nat} (hk : k < l.length) (h : (Sam.at' l k).1 < f ∨ t ≤ (Sam.at' l k).1) : within1 l f t = false := by
  unfold within1
  rw [List.all_eq_false]
  refine ⟨Sam.at' l k, by rw [Sam.at_get l k hk]; exact List.getElem_mem _, ?_⟩
  unfold inT
  simp only [Bool.and_eq_true, decide_eq_true_eq]
  omega
theorem within1_snoc {l : List (Int × Int)} {f t : Int} {k : Nat} (hk : k < l.length) (h : within1 (l.take k) f t = true) (h1 : f ≤ (Sam.at' l k).1) (h2 : (Sam.at' l k).1 < t) : within1 (l.take (k + 1)) f t = true := by
  unfold within1 at *
  rw [Sam.at_snoc l k hk, List.all_append, h]
  simp [inT, h1, h2]
theorem within_snoc {zs : List E} {f t : Int} {j : Nat} (hj : j < zs.length) (h : within (zs.take j) f t = true) (h1 : within1 (at' zs j).2 f t = true) : within (zs.take (j + 1)) f t = true := by
  unfold within at *
  rw [at_snoc zs j hj, List.all_append, h]
  simp [h1]
/-- the latest time, and the earliest one, of rows that all have some -/
def lastOf (l : List (Int × Int)) : Int := (Sam.at' l (l.length - 1)).1
def firstOf (l : List (Int × Int)) : Int := (Sam.at' l 0).1
def lastR (zs : List E) : Int := zs.foldl (fun a x => if a < lastOf x.2 then lastOf x.2 else a) (-1)
def firstR (zs : List E) : Int := zs.foldl (fun a x => if firstOf x.2 < a then firstOf x.2 else a) 10000
theorem lastR_snoc (zs : List E) (j : Nat) (h : j < zs.length) : lastR (zs.take (j + 1)) = if lastR (zs.take j) < lastOf (at' zs j).2 then lastOf (at' zs j).2 else lastR (zs.take j) := by
  unfold lastR
  rw [at_snoc zs j h, List.foldl_append]
  rfl
theorem firstR_snoc (zs : List E) (j : Nat) (h : j < zs.length) : firstR (zs.take (j + 1)) = if firstOf (at' zs j).2 < firstR (zs.take j) then firstOf (at' zs j).2 else firstR (zs.take j) := by
  unfold firstR
  rw [at_snoc zs j h, List.foldl_append]
  rfl
theorem lastR_le (zs : List E) (H : Int) : ∀ n, n ≤ zs.length → (lastR (zs.take n) ≤ H ↔ -1 ≤ H ∧ ∀ j, j < n → lastOf (at' zs j).2 ≤ H)
  | 0, _ => by simp [lastR]
  | n + 1, hn => by
    rw [lastR_snoc zs n (by omega)]
    have ih := lastR_le zs H n (by omega)
    constructor
    · intro h
      have h1 : lastR (zs.take n) ≤ H ∧ lastOf (at' zs n).2 ≤ H := by split at h <;> constructor <;> omega
      have h2 := ih.1 h1.1
      refine ⟨h2.1, fun j hj => ?_⟩
      by_cases e : j = n
      · subst e; exact h1.2
      · exact h2.2 j (by omega)
    · intro h
      have h1 := ih.2 ⟨h.1, fun j hj => h.2 j (by omega)⟩
      have h2 := h.2 n (by omega)
      split <;> omega
theorem firstR_ge (zs : List E) (F : Int) : ∀ n, n ≤ zs.length → (F ≤ firstR (zs.take n) ↔ F ≤ 10000 ∧ ∀ j, j < n → F ≤ firstOf (at' zs j).2)
  | 0, _ => by simp [firstR]
  | n + 1, hn => by
    rw [firstR_snoc zs n (by omega)]
    have ih := firstR_ge zs F n (by omega)
    constructor
    · intro h
      have h1 : F ≤ firstR (zs.take n) ∧ F ≤ firstOf (at' zs n).2 := by split at h <;> constructor <;> omega
      have h2 := ih.1 h1.1
      refine ⟨h2.1, fun j hj => ?_⟩
      by_cases e : j = n
      · subst e; exact h1.2
      · exact h2.2 j (by omega)
    · intro h
      have h1 := ih.2 ⟨h.1, fun j hj => h.2 j (by omega)⟩
      have h2 := h.2 n (by omega)
      split <;> omega
theorem within1_iff {l : List (Int × Int)} (hok : SampMath.ok l = true) (h1 : 1 ≤ l.length) (F T : Int) : within1 l F T = true ↔ F ≤ firstOf l ∧ lastOf l < T := by
  unfold within1
  rw [List.all_eq_true]
  constructor
  · intro h
    have a := h (Sam.at' l 0) (by rw [Sam.at_get l 0 (by omega)]; exact List.getElem_mem _)
    have b := h (Sam.at' l (l.length - 1)) (by rw [Sam.at_get l (l.length - 1) (by omega)]; exact List.getElem_mem _)
    unfold inT at a b
    simp only [Bool.and_eq_true, decide_eq_true_eq] at a b
    exact ⟨a.1, b.2⟩
  · rintro ⟨ha, hb⟩ x hx
    obtain ⟨i, hi, rfl⟩ := List.getElem_of_mem hx
    have e : l[i] = SampMath.at' l i := by simp [SampMath.at', List.getD, hi]
    have f0 : firstOf l ≤ (SampMath.at' l i).1 := by
      show (SampMath.at' l 0).1 ≤ _
      rcases Nat.eq_zero_or_pos i with h | h
      · subst h; exact Int.le_refl _
      · exact Int.le_of_lt (SampMath.ok_lt hok h hi)
    have f1 : (SampMath.at' l i).1 ≤ lastOf l := by
      show _ ≤ (SampMath.at' l (l.length - 1)).1
      rcases Nat.lt_or_ge i (l.length - 1) with h | h
      · exact Int.le_of_lt (SampMath.ok_lt hok h (by omega))
      · have : i = l.length - 1 := by omega
        subst this; exact Int.le_refl _
    unfold inT
    simp only [Bool.and_eq_true, decide_eq_true_eq]
    rw [e]
    exact ⟨by omega, by omega⟩
theorem within_iff {zs : List E} (hok : ok zs = true) {H F : Int} (hH : -1 ≤ H) (hF : F ≤ 10000) : within zs F (H + 1) = true ↔ lastR zs ≤ H ∧ F ≤ firstR zs := by
  have e1 := lastR_le zs H zs.length (Nat.le_refl _)
  have e2 := firstR_ge zs F zs.length (Nat.le_refl _)
  rw [List.take_of_length_le (Nat.le_refl _)] at e1 e2
  rw [e1, e2]
  have hs := fun (j : Nat) (hj : j < zs.length) => step_is (ok_at hok hj)
  unfold within
  rw [List.all_eq_true]
  constructor
  · intro h
    have g : ∀ j, j < zs.length → F ≤ firstOf (at' zs j).2 ∧ lastOf (at' zs j).2 < H + 1 := fun j hj => (within1_iff (hs j hj).2.2.2 (hs j hj).2.1 F (H + 1)).1 (h _ (at_mem zs j hj))
    exact ⟨⟨hH, fun j hj => by have := (g j hj).2; omega⟩, hF, fun j hj => (g j hj).1⟩
  · rintro ⟨⟨_, h1⟩, _, h2⟩ x hx
    obtain ⟨j, hj, rfl⟩ := List.getElem_of_mem hx
    rw [← at_get zs j hj]
    exact (within1_iff (hs j hj).2.2.2 (hs j hj).2.1 F (H + 1)).2 ⟨h2 j hj, by have := h1 j hj; omega⟩
def floorB (F : Int) : Bool := decide (0 ≤ F) && decide (F ≤ 9999) && decide (F.tmod 100 = 0)
def tableB (zs : List E) (H F : Int) : Bool := decide (-1 ≤ H) && decide (H ≤ 9999) && floorB F && (decide (F = 0) || decide (F ≤ H)) && ok zs && within zs F (H + 1)
end Go.Proofs.YtlboekimnhgfdaaGreat.Row

/- Whether all samples lie between two times; the latest and the earliest time. -/
namespace Go.Proofs.YtlboekimnhgfdaaGreat.Row
open Go.RowKit Rw
set_option linter.unusedVariables false
attribute [local go_sem ↓] Go.wp_at_zero Go.wp_at_succ
set_option maxRecDepth 100000 in
set_option maxHeartbeats 4000000 in
theorem within_any {w : World} {v : Value} {zs : List E} (f t : Int) (h : Is w v zs) : Calls Tryz.prog 68 #[v, .int .i64 f, .int .i64 t] w fun e w' => e = .returned (.bool (within zs f t)) ∧ Below w.heap.size w w' := by
  obtain ⟨cs, hcs, hL, hE⟩ := h
  have HE := hide hE
  obtain ⟨-, a, cap, rfl, hc, hm, -, hr⟩ := hL
  unfold maxLen at hm
  obtain ⟨n, hn⟩ : ∃ n, n = zs.length := ⟨_, rfl⟩
  rw [← hn] at hc hr hcs ⊢
  have HN := hide hn
  have HC := hide hcs
  clear hn hE hcs
  go_enter Tryz.func68, Tryz.ntmps68
  go_wp2_with fail
  go_loopw [13] (fun i wr => ∃ (j : Nat), j ≤ n ∧ i = .int .i64 j ∧ Hid (within (zs.take j) f t = true) ∧ Below w.heap.size w wr) (fun i _ => n - (intOf i).toNat)
  case atStart => exact ⟨0, Nat.zero_le _, rfl, hide rfl, Below.refl _ _⟩
  case round =>
    obtain ⟨j, hj, rfl, HO, hbel⟩ := hrel
    obtain ⟨wo, hwo⟩ : ∃ wo, wo = wr := ⟨_, rfl⟩
    subst hwo
    have hsz := hbel.size
    by_cases hlt : j < n
    · obtain ⟨b, off, rfl, hl, hcells⟩ := hr (by omega)
      have fa := flat_at cs j (by have := unhide HC; omega)
      have hc1 : wo.cell? ⟨b, off + j * 2 + 1, none⟩ = some (cat cs j).2 := (hbel.cell (p := ⟨b, _, none⟩) hl).trans (hcells (j * 2 + 1) _ fa.2)
      have hc0 : wo.cell? ⟨b, off + j * 2, none⟩ = some (cat cs j).1 := (hbel.cell (p := ⟨b, _, none⟩) hl).trans (hcells (j * 2) _ fa.1)
      have hEj := (unhide HE j (by have := unhide HN; omega)).below hbel
      obtain ⟨-, a2, q2, f2, g2, g2', -, hr2⟩ := hEj.2
      obtain ⟨l2, hl2⟩ : ∃ l, l = (at' zs j).2.length := ⟨_, rfl⟩
      unfold maxLen at g2'
      rw [f2, ← hl2] at hc1
      rw [← hl2] at g2 hr2
      have HL2 := hide hl2
      have hk0 : (0 : Int) ≤ (j : Int) := Int.natCast_nonneg _
      have hk1 : (j : Int) < (n : Int) := by omega
      obtain ⟨a1, q1, f1, -, -⟩ := hEj.1.form
      obtain ⟨l1, hl1⟩ : ∃ l, l = (at' zs j).1.length := ⟨_, rfl⟩
      rw [f1, ← hl1] at hc0
      clear fa hEj f1 f2 hl1 hl2
      go_wp2_with fail
      obtain ⟨wa, hwa⟩ : ∃ wa, wa = wo.alloc (.cells #[.slice a1 l1 q1, .slice a2 l2 q2] 93) := ⟨_, rfl⟩
      have ba : Below wo.heap.size wo wa := by rw [hwa]; exact (Below.refl _ _).alloc (Nat.le_refl _) _
      rw [← hwa]
      clear hwa
      have hbela : Below w.heap.size w wa := hbel.trans (ba.mono hsz)
      go_loopw [20] (fun i wr => ∃ (k : Nat), k ≤ l2 ∧ i = .int .i64 k ∧ Hid (within1 ((at' zs j).2.take k) f t = true) ∧ Below wo.heap.size wo wr) (fun i _ => l2 - (intOf i).toNat)
      case atStart => exact ⟨0, Nat.zero_le _, rfl, hide rfl, ba⟩
      case round =>
        obtain ⟨k, hk, rfl, HK, hbel2⟩ := hrel
        have hsz2 := hbel2.size
        have hbw : Below w.heap.size w wr := hbel.trans (hbel2.mono hsz)
        by_cases hlt2 : k < l2
        · obtain ⟨b2, off2, rfl, hlb, hcells2⟩ := hr2 (by omega)
          have fs := Sam.flat_at (at' zs j).2 k (by have := unhide HL2; omega)
          have hx0 : wr.cell? ⟨b2, off2 + k * 2, none⟩ = some (.int .i64 (Sam.at' (at' zs j).2 k).1) := (hbel2.cell (p := ⟨b2, _, none⟩) hlb).trans (hcells2 (k * 2) _ fs.1)
          have hx1 : wr.cell? ⟨b2, off2 + k * 2 + 1, none⟩ = some (.int .i64 (Sam.at' (at' zs j).2 k).2) := (hbel2.cell (p := ⟨b2, _, none⟩) hlb).trans (hcells2 (k * 2 + 1) _ fs.2)
          have HB := hide (fun h => within_bad (zs := zs) (f := f) (t := t) (j := j) (by have := unhide HN; omega) (within1_bad (k := k) (by have := unhide HL2; omega) h))
          have HSn := hide (fun h1 h2 => within1_snoc (l := (at' zs j).2) (f := f) (t := t) (k := k) (by have := unhide HL2; omega) (unhide HK) h1 h2)
          obtain ⟨T, hT⟩ : ∃ T, T = (Sam.at' (at' zs j).2 k).1 := ⟨_, rfl⟩
          obtain ⟨V, hV⟩ : ∃ V, V = (Sam.at' (at' zs j).2 k).2 := ⟨_, rfl⟩
          rw [← hT] at hx0 HB HSn
          rw [← hV] at hx1
          clear hT hV fs
          have hm0 : (0 : Int) ≤ (k : Int) := Int.natCast_nonneg _
          have hm1 : (k : Int) < (l2 : Int) := by omega
          have hb9 := hbw.alloc hbw.size (.cells #[.int .i64 T, .int .i64 V] 106)
          have hb8 := hbel2.alloc hbel2.size (.cells #[.int .i64 T, .int .i64 V] 106)
          rcases (show T < f ∨ (f ≤ T ∧ t ≤ T) ∨ (f ≤ T ∧ T < t) from by omega) with hs | ⟨hs, hs'⟩ | ⟨hs, hs'⟩
          · have HF := hide (unhide HB (.inl hs))
            go_wp2_with fail
            go_ret
            exact ⟨ret_bool (unhide HF).symm, hb9⟩
          · have HF := hide (unhide HB (.inr hs'))
            have hs3 : ¬ T < f := by omega
            go_wp2_with fail
            go_ret
            exact ⟨ret_bool (unhide HF).symm, hb9⟩
          · have HU := hide (unhide HSn hs hs')
            have hs3 : ¬ T < f := by omega
            have hs4 : ¬ t ≤ T := by omega
            go_wp2
            go_roundw
            case rel => exact ⟨k + 1, by omega, by go_num, HU, hb8⟩
            case measure => simp [intOf]; omega
        · obtain rfl : k = l2 := by omega
          have HU := hide (within_snoc (zs := zs) (f := f) (t := t) (j := j) (by have := unhide HN; omega) (unhide HO) (by have := unhide HK; rwa [List.take_of_length_le (by have := unhide HL2; omega)] at this))
          go_wp2
          go_roundw
          case rel => exact ⟨j + 1, by omega, by go_num, HU, hbw⟩
          case measure => simp [intOf]; omega
    · obtain rfl : j = n := by omega
      have HU := hide (show within zs f t = true by have := unhide HO; rwa [List.take_of_length_le (by have := unhide HN; omega)] at this)
      go_wp2
      go_ret
      exact ⟨ret_bool (unhide HU).symm, hbel⟩
set_option maxRecDepth 100000 in
set_option maxHeartbeats 4000000 in
theorem last_any {w : World} {v : Value} {zs : List E} (h : Is w v zs) (hok : ok zs = true) : Calls Tryz.prog 61 #[v] w fun e w' => e = .returned (.int .i64 (lastR zs)) ∧ w' = w := by
  have HOK := hide hok
  clear hok
  obtain ⟨cs, hcs, hL, hE⟩ := h
  have HE := hide hE
  obtain ⟨-, a, cap, rfl, hc, hm, -, hr⟩ := hL
  unfold maxLen at hm
  obtain ⟨n, hn⟩ : ∃ n, n = zs.length := ⟨_, rfl⟩
  rw [← hn] at hc hr hcs ⊢
  have HN := hide hn
  have HC := hide hcs
  clear hn hE hcs
  go_enter Tryz.func61, Tryz.ntmps61
  go_wp2_with fail
  go_loopw [3, 4] (fun o i wr => ∃ (j : Nat) (M : Int), j ≤ n ∧ i = .int .i64 j ∧ o = .int .i64 M ∧ Hid (M = lastR (zs.take j)) ∧ wr = w) (fun _ i _ => n - (intOf i).toNat)
  case atStart => exact ⟨0, _, Nat.zero_le _, rfl, rfl, hide rfl, rfl⟩
  case round =>
    obtain ⟨j, M, hj, rfl, rfl, HM, rfl⟩ := hrel
    by_cases hlt : j < n
    · obtain ⟨b, off, rfl, hl, hcells⟩ := hr (by omega)
      have hbel := Below.refl wr.heap.size wr
      have fa := flat_at cs j (by have := unhide HC; omega)
      have hc1 : wr.cell? ⟨b, off + j * 2 + 1, none⟩ = some (cat cs j).2 := (hbel.cell (p := ⟨b, _, none⟩) hl).trans (hcells (j * 2 + 1) _ fa.2)
      have hEj := (unhide HE j (by have := unhide HN; omega)).below hbel
      obtain ⟨-, a2, q2, f2, g2, g2', -, hr2⟩ := hEj.2
      obtain ⟨l2, hl2⟩ : ∃ l, l = (at' zs j).2.length := ⟨_, rfl⟩
      unfold maxLen at g2'
      rw [f2, ← hl2] at hc1
      rw [← hl2] at g2 hr2
      have HL2 := hide hl2
      have hk0 : (0 : Int) ≤ (j : Int) := Int.natCast_nonneg _
      have hk1 : (j : Int) < (n : Int) := by omega
      have hst := step_is (ok_at (unhide HOK) (show j < zs.length by have := unhide HN; omega))
      obtain ⟨b2, off2, rfl, hlb, hcells2⟩ := hr2 (by rw [hl2]; exact hst.2.1)
      have hpos : 1 ≤ l2 := by rw [hl2]; exact hst.2.1
      have HS := hide (lastR_snoc zs j (by have := unhide HN; omega))
      rw [← unhide HM] at HS
      obtain ⟨l3, rfl⟩ : ∃ l3, l2 = l3 + 1 := ⟨l2 - 1, by omega⟩
      have fs := Sam.flat_at (at' zs j).2 l3 (by have := unhide HL2; omega)
      have hx0 : wr.cell? ⟨b2, off2 + l3 * 2, none⟩ = some (.int .i64 (Sam.at' (at' zs j).2 l3).1) := hcells2 (l3 * 2) _ fs.1
      have hO : lastOf (at' zs j).2 = (Sam.at' (at' zs j).2 l3).1 := by unfold lastOf; rw [← unhide HL2]; rfl
      have hm0 : (0 : Int) ≤ (l3 : Int) := Int.natCast_nonneg _
      have hm1 : (l3 : Int) < ((l3 + 1 : Nat) : Int) := by omega
      have hm2 : ((l3 + 1 : Nat) : Int) - 1 = (l3 : Int) := by omega
      rw [← hO] at hx0
      clear hO
      obtain ⟨T, hT⟩ : ∃ T, T = lastOf (at' zs j).2 := ⟨_, rfl⟩
      rw [← hT] at hx0 HS
      clear hT fs hEj f2 fa hst hl2
      by_cases hc : M < T
      · have HU := hide (show T = lastR (zs.take (j + 1)) by rw [unhide HS, if_pos hc])
        go_wp2
        go_roundw
        case rel => exact ⟨j + 1, T, by omega, by go_num, rfl, HU, trivial⟩
        case measure => simp [intOf]; omega
      · have HU := hide (show M = lastR (zs.take (j + 1)) by rw [unhide HS, if_neg hc])
        go_wp2
        go_roundw
        case rel => exact ⟨j + 1, M, by omega, by go_num, rfl, HU, trivial⟩
        case measure => simp [intOf]; omega
    · obtain rfl : j = n := by omega
      have HU := hide (show M = lastR zs by rw [unhide HM, List.take_of_length_le (by have := unhide HN; omega)])
      go_wp2
      go_ret
      exact ⟨ret_int (unhide HU), rfl⟩
set_option maxRecDepth 100000 in
set_option maxHeartbeats 4000000 in
theorem first_any {w : World} {v : Value} {zs : List E} (h : Is w v zs) (hok : ok zs = true) : Calls Tryz.prog 62 #[v] w fun e w' => e = .returned (.int .i64 (firstR zs)) ∧ w' = w := by
  have HOK := hide hok
  clear hok
  obtain ⟨cs, hcs, hL, hE⟩ := h
  have HE := hide hE
  obtain ⟨-, a, cap, rfl, hc, hm, -, hr⟩ := hL
  unfold maxLen at hm
  obtain ⟨n, hn⟩ : ∃ n, n = zs.length := ⟨_, rfl⟩
  rw [← hn] at hc hr hcs ⊢
  have HN := hide hn
  have HC := hide hcs
  clear hn hE hcs
  go_enter Tryz.func62, Tryz.ntmps62
  go_wp2_with fail
  go_loopw [3, 4] (fun o i wr => ∃ (j : Nat) (M : Int), j ≤ n ∧ i = .int .i64 j ∧ o = .int .i64 M ∧ Hid (M = firstR (zs.take j)) ∧ wr = w) (fun _ i _ => n - (intOf i).toNat)
  case atStart => exact ⟨0, _, Nat.zero_le _, rfl, rfl, hide rfl, rfl⟩
  case round =>
    obtain ⟨j, M, hj, rfl, rfl, HM, rfl⟩ := hrel
    by_cases hlt : j < n
    · obtain ⟨b, off, rfl, hl, hcells⟩ := hr (by omega)
      have hbel := Below.refl wr.heap.size wr
      have fa := flat_at cs j (by have := unhide HC; omega)
      have hc1 : wr.cell? ⟨b, off + j * 2 + 1, none⟩ = some (cat cs j).2 := (hbel.cell (p := ⟨b, _, none⟩) hl).trans (hcells (j * 2 + 1) _ fa.2)
      have hEj := (unhide HE j (by have := unhide HN; omega)).below hbel
      obtain ⟨-, a2, q2, f2, g2, g2', -, hr2⟩ := hEj.2
      obtain ⟨l2, hl2⟩ : ∃ l, l = (at' zs j).2.length := ⟨_, rfl⟩
      unfold maxLen at g2'
      rw [f2, ← hl2] at hc1
      rw [← hl2] at g2 hr2
      have HL2 := hide hl2
      have hk0 : (0 : Int) ≤ (j : Int) := Int.natCast_nonneg _
      have hk1 : (j : Int) < (n : Int) := by omega
      have hst := step_is (ok_at (unhide HOK) (show j < zs.length by have := unhide HN; omega))
      obtain ⟨b2, off2, rfl, hlb, hcells2⟩ := hr2 (by rw [hl2]; exact hst.2.1)
      have hpos : 1 ≤ l2 := by rw [hl2]; exact hst.2.1
      have HS := hide (firstR_snoc zs j (by have := unhide HN; omega))
      rw [← unhide HM] at HS
      have fs := Sam.flat_at (at' zs j).2 0 (by have := unhide HL2; omega)
      have hx0 : wr.cell? ⟨b2, off2, none⟩ = some (.int .i64 (Sam.at' (at' zs j).2 0).1) := by have := hcells2 0 _ (by simpa using fs.1); simpa using this
      have hO : firstOf (at' zs j).2 = (Sam.at' (at' zs j).2 0).1 := rfl
      have hm1 : (0 : Int) < (l2 : Int) := by omega
      rw [← hO] at hx0
      clear hO
      obtain ⟨T, hT⟩ : ∃ T, T = firstOf (at' zs j).2 := ⟨_, rfl⟩
      rw [← hT] at hx0 HS
      clear hT fs hEj f2 fa hst hl2
      by_cases hc : T < M
      · have HU := hide (show T = firstR (zs.take (j + 1)) by rw [unhide HS, if_pos hc])
        go_wp2
        go_roundw
        case rel => exact ⟨j + 1, T, by omega, by go_num, rfl, HU, trivial⟩
        case measure => simp [intOf]; omega
      · have HU := hide (show M = firstR (zs.take (j + 1)) by rw [unhide HS, if_neg hc])
        go_wp2
        go_roundw
        case rel => exact ⟨j + 1, M, by omega, by go_num, rfl, HU, trivial⟩
        case measure => simp [intOf]; omega
    · obtain rfl : j = n := by omega
      have HU := hide (show M = firstR zs by rw [unhide HM, List.take_of_length_le (by have := unhide HN; omega)])
      go_wp2
      go_ret
      exact ⟨ret_int (unhide HU), rfl⟩
end Go.Proofs.YtlboekimnhgfdaaGreat.Row

/- What the laws' own helpers do with impl.Table: it is copied, held against another, and counted. -/
namespace Go.Proofs.YtlboekimnhgfdaaGreat.Tab
open Go.RowKit Rw
set_option linter.unusedVariables false
attribute [local go_sem ↓] Go.wp_at_zero Go.wp_at_succ
abbrev E := List Row.E × Int × Int
abbrev C := Value × Value × Value
def Elem (w : World) (c : C) (x : E) : Prop := Row.Is w (c.1) (x.1) ∧ c.2.1 = .int .i64 (x.2.1) ∧ c.2.2 = .int .i64 (x.2.2)
theorem Elem.below {w w' : World} {c : C} {x : E} (h : Elem w c x) (hb : Below w.heap.size w w') : Elem w' c x := ⟨(h.1).below hb, h.2.1, h.2.2⟩
def good (x : E) : Prop := ((x.1).length ≤ maxLen ∧ ∀ y ∈ x.1, Row.good y) ∧ (Lit.int .i64 (x.2.1)).wf = true ∧ (Lit.int .i64 (x.2.2)).wf = true
set_option maxRecDepth 100000 in
theorem open_cells {H : Type} {enc : TypeId × Value → H} {W : World} {n : Nat} {cs : List Value} {y : DataW H × List MemPlace} (h : DataW.trod enc Tryz.prog W 0 (fun _ => true) true n 24 cs = some y) : ∃ (c : C) (x : E), cs = [c.1, c.2.1, c.2.2] ∧ Elem W c x ∧ good x := by
  have hl : cs.length = 3 := by
    obtain ⟨xs, m, -, -, hl, hxl, hf⟩ := DataW.trod_struct Tryz.underlying24 h
    rw [hl]; kernel_rfl
  obtain ⟨xs, m, -, -, -, hxl, hf⟩ := DataW.trod_struct Tryz.underlying24 h
  match cs, hl, xs, hxl with
  | [c0, c1, c2], _, [y0, y1, y2], _ =>
    have g0 := hf 0 _ rfl
    have g1 := hf 1 _ rfl
    have g2 := hf 2 _ rfl
    have ce0 : Tryz.prog.cellsOf 22 = 1 := by kernel_rfl
    have ce1 : Tryz.prog.cellsOf 3 = 1 := by kernel_rfl
    simp [ce0, ce1] at g0 g1 g2
    obtain ⟨a0, l0, k0, e0, t0⟩ := slice_cell Tryz.underlying22 g0
    obtain ⟨s0, n0, m0, i0, w0⟩ := Row.open_arg t0
    obtain ⟨s1, e1, -, w1⟩ := DataW.trod_int Tryz.underlying3 g1
    simp only [List.cons.injEq, and_true] at e1
    obtain ⟨s2, e2, -, w2⟩ := DataW.trod_int Tryz.underlying3 g2
    simp only [List.cons.injEq, and_true] at e2
    subst e0 e1 e2
    subst n0
    exact ⟨(.slice a0 s0.length k0, .int .i64 s1, .int .i64 s2), (s0, s1, s2), rfl, ⟨i0, rfl, rfl⟩, ⟨⟨m0, w0⟩, w1, w2⟩⟩
def tiny (x : E) : Prop := ((x.1).length ≤ 2097152 ∧ ∀ y ∈ x.1, Row.tiny y)
set_option maxHeartbeats 2000000 in
theorem to_one {c : C} {x : E} {w : World} (h : Elem w c x) (ht : tiny x) : Calls Tryz.prog 13 #[.agg #[c.1, c.2.1, c.2.2]] w fun e w' => ∃ c' : C, e = .returned (.agg #[c'.1, c'.2.1, c'.2.2]) ∧ Elem w' c' x ∧ Below w.heap.size w w' := by
  obtain ⟨c0, c1, c2⟩ := c
  obtain ⟨h0, h1, h2⟩ := h
  simp only at h0 h1 h2
  subst h1
  subst h2
  have T0 := hide (fun W (hb : Below w.heap.size w W) => Row.to_any (h0.below hb) (ht).1 (ht).2)
  clear h0 ht
  obtain ⟨l0, hl0⟩ : ∃ l, l = (x.1).length := ⟨_, rfl⟩
  rw [← hl0] at T0
  have HL0 := hide hl0
  clear hl0
  obtain ⟨N1, hN1⟩ : ∃ N, N = x.2.1 := ⟨_, rfl⟩
  rw [← hN1]
  have HN1 := hide hN1
  clear hN1
  obtain ⟨N2, hN2⟩ : ∃ N, N = x.2.2 := ⟨_, rfl⟩
  rw [← hN2]
  have HN2 := hide hN2
  clear hN2
  have B := (((Below.refl w.heap.size w).alloc (Nat.le_refl _) (.cells #[c0, .int .i64 N1, .int .i64 N2] 24)).alloc (by simp) (.cells #[.slice none 0 0, .int .i64 0, .int .i64 0] 30)).alloc (by simp; omega) (.cells #[.slice none 0 0, .int .i64 0, .int .i64 0] 30)
  go_enter Tryz.func13, Tryz.ntmps13
  go_wp2_with fail
  refine (unhide T0 _ B).mono ?_
  rintro e v0 ⟨rfl, r0, b0⟩
  obtain ⟨bc0, bf0⟩ := bcell b0
  have z0 := b0.size
  have B0 := B.trans (b0.mono B.size)
  simp only [World.size_alloc] at z0 bc0 bf0 r0 ⊢
  clear b0
  have I0 := hide r0
  clear r0
  have Bs0 := B0.setCell (p := ⟨w.heap.size + 1 + 1, 0, none⟩) (by show w.heap.size ≤ w.heap.size + 1 + 1; omega) (.slice (some ⟨w.heap.size + 1 + 1 + 1, 0, none⟩) l0 l0)
  clear B0
  have I0 := hide ((unhide I0).only ((OnlyAt.refl (w.heap.size + 1 + 1) _).setCell 0 (.slice (some ⟨w.heap.size + 1 + 1 + 1, 0, none⟩) l0 l0)) (by omega))
  have Bs1 := Bs0.setCell (p := ⟨w.heap.size + 1 + 1, 1, none⟩) (by show w.heap.size ≤ w.heap.size + 1 + 1; omega) (.int .i64 N1)
  clear Bs0
  have I0 := hide ((unhide I0).only ((OnlyAt.refl (w.heap.size + 1 + 1) _).setCell 1 (.int .i64 N1)) (by omega))
  have Bs2 := Bs1.setCell (p := ⟨w.heap.size + 1 + 1, 2, none⟩) (by show w.heap.size ≤ w.heap.size + 1 + 1; omega) (.int .i64 N2)
  clear Bs1
  have I0 := hide ((unhide I0).only ((OnlyAt.refl (w.heap.size + 1 + 1) _).setCell 2 (.int .i64 N2)) (by omega))
  have Br0 := Bs2.setCell (p := ⟨w.heap.size + 1, 0, none⟩) (by show w.heap.size ≤ w.heap.size + 1; omega) (.slice (some ⟨w.heap.size + 1 + 1 + 1, 0, none⟩) l0 l0)
  clear Bs2
  have I0 := hide ((unhide I0).only ((OnlyAt.refl (w.heap.size + 1) _).setCell 0 (.slice (some ⟨w.heap.size + 1 + 1 + 1, 0, none⟩) l0 l0)) (by omega))
  have Br1 := Br0.setCell (p := ⟨w.heap.size + 1, 1, none⟩) (by show w.heap.size ≤ w.heap.size + 1; omega) (.int .i64 N1)
  clear Br0
  have I0 := hide ((unhide I0).only ((OnlyAt.refl (w.heap.size + 1) _).setCell 1 (.int .i64 N1)) (by omega))
  have Br2 := Br1.setCell (p := ⟨w.heap.size + 1, 2, none⟩) (by show w.heap.size ≤ w.heap.size + 1; omega) (.int .i64 N2)
  clear Br1
  have I0 := hide ((unhide I0).only ((OnlyAt.refl (w.heap.size + 1) _).setCell 2 (.int .i64 N2)) (by omega))
  go_wp2
  refine bodyPost_ret (v := .agg #[(.slice (some ⟨w.heap.size + 1 + 1 + 1, 0, none⟩) l0 l0), (.int .i64 N1), (.int .i64 N2)]) (by simp [results, Tryz.results13, go_sem, bc0]) rfl ⟨((.slice (some ⟨w.heap.size + 1 + 1 + 1, 0, none⟩) l0 l0), (.int .i64 N1), (.int .i64 N2)), rfl, ⟨(unhide I0).is, by simp only; rw [unhide HN1], by simp only; rw [unhide HN2]⟩, Br2⟩
set_option maxHeartbeats 2000000 in
theorem eq_one {c d : C} {x : E} {w : World} (h : Elem w c x) (h' : Elem w d x) : Calls Tryz.prog 16 #[.agg #[c.1, c.2.1, c.2.2], .agg #[d.1, d.2.1, d.2.2]] w fun e w' => e = .returned (.bool true) ∧ Below w.heap.size w w' := by
  obtain ⟨c0, c1, c2⟩ := c
  obtain ⟨d0, d1, d2⟩ := d
  obtain ⟨h0, h1, h2⟩ := h
  obtain ⟨g0, g1, g2⟩ := h'
  simp only at h0 h1 h2 g0 g1 g2
  subst h1 g1
  subst h2 g2
  have T0 := hide (fun W (hb : Below w.heap.size w W) => Row.eq_any (h0.below hb) (g0.below hb))
  clear h0 g0
  generalize x.2.1 = N1
  generalize x.2.2 = N2
  have B := ((Below.refl w.heap.size w).alloc (Nat.le_refl _) (.cells #[c0, .int .i64 N1, .int .i64 N2] 30)).alloc (by simp) (.cells #[d0, .int .i64 N1, .int .i64 N2] 30)
  go_enter Tryz.func16, Tryz.ntmps16
  go_wp2_with fail
  refine (unhide T0 _ B).mono ?_
  rintro e v0 ⟨rfl, b0⟩
  obtain ⟨bc0, bf0⟩ := bcell b0
  have z0 := b0.size
  have B0 := B.trans (b0.mono B.size)
  simp only [World.size_alloc] at z0 bc0 bf0
  go_wp2
  go_ret
  exact ⟨rfl, B0⟩
def tot (x : E) : Nat := Row.tot (x.1)
set_option maxHeartbeats 2000000 in
theorem sz_one {c : C} {x : E} {w : World} (left : Int) (h : Elem w c x) (hg : good x) (h0 : 0 ≤ left) (h1 : left ≤ 1048576) :
    Calls Tryz.prog 10 #[.agg #[c.1, c.2.1, c.2.2], .int .i64 left] w fun e w' => e = .returned (.int .i64 (if left - (tot x : Int) < 0 then -1 else left - (tot x : Int))) ∧ Below w.heap.size w w' := by
  obtain ⟨c0, c1, c2⟩ := c
  obtain ⟨e0, e1, e2⟩ := h
  obtain ⟨g0, g1, g2⟩ := hg
  simp only at e0 e1 e2
  subst e1
  subst e2
  have T0 := hide (fun W (hb : Below w.heap.size w W) (l : Int) (p0 : 0 ≤ l) (p1 : l ≤ 1048576) => Row.sz_any l (e0.below hb) g0.1 g0.2 p0 p1)
  obtain ⟨t0, ht0⟩ : ∃ t, t = Row.tot (x.1) := ⟨_, rfl⟩
  rw [← ht0] at T0
  have HS : tot x = t0 := by unfold tot; rw [ht0]
  rw [HS]
  clear HS ht0 e0 g0 g1 g2
  generalize x.2.1 = N1
  generalize x.2.2 = N2
  have B := (Below.refl w.heap.size w).alloc (Nat.le_refl _) (.cells #[c0, .int .i64 N1, .int .i64 N2] 24)
  by_cases k0 : left - (t0 : Int) < 0
  · rw [if_pos (by omega)]
    go_enter Tryz.func10, Tryz.ntmps10
    go_wp2_with fail
    refine (unhide T0 _ B (left) (by omega) (by omega)).mono ?_
    rintro e v0 ⟨rfl, b0⟩
    have B0 := B.trans (b0.mono B.size)
    obtain ⟨bc0, bf0⟩ := bcell b0
    have z0 := b0.size
    simp only [World.size_alloc] at z0 bc0 bf0
    rw [if_pos (by omega)]
    go_wp2_with fail
    go_ret
    exact ⟨rfl, B0⟩
  rw [if_neg (by omega)]
  go_enter Tryz.func10, Tryz.ntmps10
  go_wp2_with fail
  refine (unhide T0 _ B (left) (by omega) (by omega)).mono ?_
  rintro e v0 ⟨rfl, b0⟩
  have B0 := B.trans (b0.mono B.size)
  obtain ⟨bc0, bf0⟩ := bcell b0
  have z0 := b0.size
  simp only [World.size_alloc] at z0 bc0 bf0
  rw [if_neg (by omega)]
  have n0 : 0 ≤ left - (t0 : Int) := by omega
  go_wp2_with fail
  go_ret
  exact ⟨rfl, B0⟩
end Go.Proofs.YtlboekimnhgfdaaGreat.Tab

/- TableOk of the program, at every table. -/
namespace Go.Proofs.YtlboekimnhgfdaaGreat.Row
open Go.RowKit Rw
set_option linter.unusedVariables false
attribute [local go_sem ↓] Go.wp_at_zero Go.wp_at_succ
theorem floorB_yes {F : Int} (h0 : 0 ≤ F) (h1 : F ≤ 9999) (h2 : F.tmod 100 = 0) : floorB F = true := by unfold floorB; rw [decide_eq_true h0, decide_eq_true h1, decide_eq_true h2]; rfl
theorem floorB_no {F : Int} (h : ¬ (0 ≤ F ∧ F ≤ 9999 ∧ F.tmod 100 = 0)) : floorB F = false := by
  cases hf : floorB F
  · rfl
  · unfold floorB at hf
    simp only [Bool.and_eq_true, decide_eq_true_eq] at hf
    exact absurd ⟨hf.1.1, hf.1.2, hf.2⟩ h
theorem floor_any (F : Int) (w : World) : Calls Tryz.prog 66 #[.int .i64 F] w fun e w' => e = .returned (.bool (floorB F)) ∧ w' = w := by
  by_cases h0 : 0 ≤ F
  · by_cases h1 : F ≤ 9999
    · obtain ⟨R, hR⟩ : ∃ R, F.tmod 100 = R := ⟨_, rfl⟩
      by_cases h2 : R = 0
      · subst h2
        have HR := hide (floorB_yes h0 h1 hR)
        go_enter Tryz.func66, Tryz.ntmps66
        go_wp2
        go_ret
        exact ⟨ret_bool (unhide HR).symm, rfl⟩
      · have HR := hide (floorB_no (F := F) (fun h => h2 (hR.symm.trans h.2.2)))
        have h2f : (R == 0) = false := by simpa using h2
        go_enter Tryz.func66, Tryz.ntmps66
        go_wp2
        go_ret
        exact ⟨ret_bool (unhide HR).symm, rfl⟩
    · have HR := hide (floorB_no (F := F) (fun h => h1 h.2.1))
      go_enter Tryz.func66, Tryz.ntmps66
      go_wp2
      go_ret
      exact ⟨ret_bool (unhide HR).symm, rfl⟩
  · have HR := hide (floorB_no (F := F) (fun h => h0 h.1))
    go_enter Tryz.func66, Tryz.ntmps66
    go_wp2
    go_ret
    exact ⟨ret_bool (unhide HR).symm, rfl⟩
theorem tableB_no {zs : List E} {H F : Int} (h : ¬ (-1 ≤ H ∧ H ≤ 9999 ∧ floorB F = true ∧ (F = 0 ∨ F ≤ H) ∧ ok zs = true ∧ within zs F (H + 1) = true)) : tableB zs H F = false := by
  cases hf : tableB zs H F
  · rfl
  · unfold tableB at hf
    simp only [Bool.and_eq_true, Bool.or_eq_true, decide_eq_true_eq] at hf
    obtain ⟨⟨⟨⟨⟨a, b⟩, c⟩, d⟩, e⟩, g⟩ := hf
    exact absurd ⟨a, b, c, d, e, g⟩ h
theorem tableB_yes {zs : List E} {H F : Int} (h1 : -1 ≤ H) (h2 : H ≤ 9999) (h3 : floorB F = true) (h4 : F = 0 ∨ F ≤ H) (h5 : ok zs = true) (h6 : within zs F (H + 1) = true) : tableB zs H F = true := by
  unfold tableB
  rw [decide_eq_true h1, decide_eq_true h2, h3, h5, h6]
  rcases h4 with h | h <;> simp [h]
set_option maxRecDepth 100000 in
set_option maxHeartbeats 4000000 in
theorem impl_table {w : World} {v : Value} {zs : List E} {H F : Int} (h : Is w v zs) (hg : ∀ x ∈ zs, good x) (hlen : zs.length ≤ maxLen) : Calls Tryz.prog 28 #[.agg #[v, .int .i64 H, .int .i64 F]] w fun e w' => e = .returned (.bool (tableB zs H F)) ∧ Below w.heap.size w w' := by
  have C1 := hide (fun W (hb : Below w.heap.size w W) => impl_ok (h.below hb) hg hlen)
  have C2 := hide (fun W (hb : Below w.heap.size w W) => within_any F (H + 1) (h.below hb))
  have C3 := hide (fun W => floor_any F W)
  clear h hg hlen
  have B := (Below.refl w.heap.size w).alloc (Nat.le_refl _) (.cells #[v, .int .i64 H, .int .i64 F] 30)
  by_cases h1 : H < -1
  · have HR := hide (tableB_no (zs := zs) (H := H) (F := F) (fun h => by omega))
    go_enter Tryz.func28, Tryz.ntmps28
    go_wp2_with fail
    go_ret
    exact ⟨ret_bool (unhide HR).symm, B⟩
  by_cases h2 : 9999 < H
  · have HR := hide (tableB_no (zs := zs) (H := H) (F := F) (fun h => by omega))
    go_enter Tryz.func28, Tryz.ntmps28
    go_wp2_with fail
    go_ret
    exact ⟨ret_bool (unhide HR).symm, B⟩
  cases h3 : floorB F
  · have HR := hide (tableB_no (zs := zs) (H := H) (F := F) (fun h => by rw [h3] at h; exact absurd h.2.2.1 (by simp)))
    rw [h3] at C3
    clear h3
    go_enter Tryz.func28, Tryz.ntmps28
    go_wp2_with fail
    refine (unhide C3 _).mono ?_
    rintro e v1 ⟨rfl, rfl⟩
    go_wp2_with fail
    go_ret
    exact ⟨ret_bool (unhide HR).symm, B⟩
  rw [h3] at C3
  have h3n : 0 ≤ F := by unfold floorB at h3; simp only [Bool.and_eq_true, decide_eq_true_eq] at h3; exact h3.1.1
  by_cases h4 : 0 < F ∧ H < F
  · have HR := hide (tableB_no (zs := zs) (H := H) (F := F) (fun h => by omega))
    obtain ⟨h4a, h4b⟩ := h4
    clear h3
    go_enter Tryz.func28, Tryz.ntmps28
    go_wp2_with fail
    refine (unhide C3 _).mono ?_
    rintro e v1 ⟨rfl, rfl⟩
    go_wp2_with fail
    go_ret
    exact ⟨ret_bool (unhide HR).symm, B⟩
  by_cases h0 : F = 0
  · subst h0
    clear h4 h3n
    cases h5 : ok zs
    · have HR := hide (tableB_no (zs := zs) (H := H) (F := 0) (fun h => by rw [h5] at h; exact absurd h.2.2.2.2.1 (by simp)))
      rw [h5] at C1
      clear h3 h5
      go_enter Tryz.func28, Tryz.ntmps28
      go_wp2_with fail
      refine (unhide C3 _).mono ?_
      rintro e v1 ⟨rfl, rfl⟩
      go_wp2_with fail
      refine (unhide C1 _ B).mono ?_
      rintro e v2 ⟨rfl, b2⟩
      have B2 := B.trans (b2.mono B.size)
      obtain ⟨bc, bf⟩ := bcell b2
      simp only [World.size_alloc] at bc bf
      go_wp2_with fail
      go_ret
      exact ⟨ret_bool (unhide HR).symm, B2⟩
    · rw [h5] at C1
      cases h6 : within zs 0 (H + 1)
      · have HR := hide (tableB_no (zs := zs) (H := H) (F := 0) (fun h => by rw [h6] at h; exact absurd h.2.2.2.2.2 (by simp)))
        rw [h6] at C2
        clear h3 h5 h6
        go_enter Tryz.func28, Tryz.ntmps28
        go_wp2_with fail
        refine (unhide C3 _).mono ?_
        rintro e v1 ⟨rfl, rfl⟩
        go_wp2_with fail
        refine (unhide C1 _ B).mono ?_
        rintro e v2 ⟨rfl, b2⟩
        have B2 := B.trans (b2.mono B.size)
        obtain ⟨bc, bf⟩ := bcell b2
        simp only [World.size_alloc] at bc bf
        go_wp2_with fail
        refine (unhide C2 _ B2).mono ?_
        rintro e v3 ⟨rfl, b3⟩
        have B3 := B2.trans (b3.mono B2.size)
        go_wp2_with fail
        go_ret
        exact ⟨ret_bool (unhide HR).symm, B3⟩
      · have HR := hide (tableB_yes (zs := zs) (H := H) (F := 0) (by omega) (by omega) h3 (.inl rfl) h5 h6)
        rw [h6] at C2
        clear h3 h5 h6
        go_enter Tryz.func28, Tryz.ntmps28
        go_wp2_with fail
        refine (unhide C3 _).mono ?_
        rintro e v1 ⟨rfl, rfl⟩
        go_wp2_with fail
        refine (unhide C1 _ B).mono ?_
        rintro e v2 ⟨rfl, b2⟩
        have B2 := B.trans (b2.mono B.size)
        obtain ⟨bc, bf⟩ := bcell b2
        simp only [World.size_alloc] at bc bf
        go_wp2_with fail
        refine (unhide C2 _ B2).mono ?_
        rintro e v3 ⟨rfl, b3⟩
        have B3 := B2.trans (b3.mono B2.size)
        go_wp2_with fail
        go_ret
        exact ⟨ret_bool (unhide HR).symm, B3⟩
  · have h0p : 0 < F := by omega
    have h0q : ¬ H < F := by omega
    clear h4
    cases h5 : ok zs
    · have HR := hide (tableB_no (zs := zs) (H := H) (F := F) (fun h => by rw [h5] at h; exact absurd h.2.2.2.2.1 (by simp)))
      rw [h5] at C1
      clear h3 h5
      go_enter Tryz.func28, Tryz.ntmps28
      go_wp2_with fail
      refine (unhide C3 _).mono ?_
      rintro e v1 ⟨rfl, rfl⟩
      go_wp2_with fail
      refine (unhide C1 _ B).mono ?_
      rintro e v2 ⟨rfl, b2⟩
      have B2 := B.trans (b2.mono B.size)
      obtain ⟨bc, bf⟩ := bcell b2
      simp only [World.size_alloc] at bc bf
      go_wp2_with fail
      go_ret
      exact ⟨ret_bool (unhide HR).symm, B2⟩
    · rw [h5] at C1
      cases h6 : within zs F (H + 1)
      · have HR := hide (tableB_no (zs := zs) (H := H) (F := F) (fun h => by rw [h6] at h; exact absurd h.2.2.2.2.2 (by simp)))
        rw [h6] at C2
        clear h3 h5 h6
        go_enter Tryz.func28, Tryz.ntmps28
        go_wp2_with fail
        refine (unhide C3 _).mono ?_
        rintro e v1 ⟨rfl, rfl⟩
        go_wp2_with fail
        refine (unhide C1 _ B).mono ?_
        rintro e v2 ⟨rfl, b2⟩
        have B2 := B.trans (b2.mono B.size)
        obtain ⟨bc, bf⟩ := bcell b2
        simp only [World.size_alloc] at bc bf
        go_wp2_with fail
        refine (unhide C2 _ B2).mono ?_
        rintro e v3 ⟨rfl, b3⟩
        have B3 := B2.trans (b3.mono B2.size)
        go_wp2_with fail
        go_ret
        exact ⟨ret_bool (unhide HR).symm, B3⟩
      · have HR := hide (tableB_yes (zs := zs) (H := H) (F := F) (by omega) (by omega) h3 (by omega) h5 h6)
        rw [h6] at C2
        clear h3 h5 h6
        go_enter Tryz.func28, Tryz.ntmps28
        go_wp2_with fail
        refine (unhide C3 _).mono ?_
        rintro e v1 ⟨rfl, rfl⟩
        go_wp2_with fail
        refine (unhide C1 _ B).mono ?_
        rintro e v2 ⟨rfl, b2⟩
        have B2 := B.trans (b2.mono B.size)
        obtain ⟨bc, bf⟩ := bcell b2
        simp only [World.size_alloc] at bc bf
        go_wp2_with fail
        refine (unhide C2 _ B2).mono ?_
        rintro e v3 ⟨rfl, b3⟩
        have B3 := B2.trans (b3.mono B2.size)
        go_wp2_with fail
        go_ret
        exact ⟨ret_bool (unhide HR).symm, B3⟩
end Go.Proofs.YtlboekimnhgfdaaGreat.Row
