/- My own texts of one claim, laid together by program: SampCut, CutMath. -/
import Derived.Test.YtogdllkbiibicaaG24590a8702
import Derived.Test.YtogdllkbiibicaaG3b0891f528
/- What SamplesCut answers, of the program and of the model, at every slice of samples. -/
namespace Go.Proofs.Ytogdllkbiibicaa.Samp
open Go.RowKit SampMath Rw
set_option linter.unusedVariables false
attribute [local go_sem ↓] Go.wp_at_zero Go.wp_at_succ
def inT (f t : Int) (x : S) : Bool := decide (f ≤ x.1) && decide (x.1 < t)
def cutL (zs : List S) (f t : Int) : List S := zs.filter (inT f t)
def cut (zs : List S) (f t : Int) : List S := if ok zs = true then cutL zs f t else []
theorem cutL_snoc (zs : List S) (f t : Int) (k : Nat) (h : k < zs.length) : cutL (zs.take (k + 1)) f t = cutL (zs.take k) f t ++ if inT f t (at' zs k) = true then [at' zs k] else [] := by
  rw [at_snoc zs k h, cutL, List.filter_append, cutL]
  cases hh : inT f t (at' zs k) <;> simp [hh]
theorem cutL_le (zs : List S) (f t : Int) (k : Nat) : (cutL (zs.take k) f t).length ≤ k := by
  have h1 := List.length_filter_le (inT f t) (zs.take k)
  have h2 := List.length_take_le k zs
  unfold cutL
  omega
set_option maxRecDepth 100000 in
set_option maxHeartbeats 1000000 in
theorem impl_cut_some (b off n cap : Nat) (zs : List S) (f t : Int) (w : World) (hz : zs.length = n) (hcap : n ≤ cap) (hm : cap ≤ maxLen) (hn : n ≤ 4194304) (hbl : b < w.heap.size) (hr : Reads w b off zs) :
    Calls Try.prog 29 #[.slice (some ⟨b, off, none⟩) n cap, .int .i64 f, .int .i64 t] w fun e w' => ∃ v, e = .returned v ∧ w'.ownsRow w.heap.size 41 2 v (cut zs f t).length (flat (cut zs f t)) ∧ Below w.heap.size w w' := by
  obtain ⟨i0, hi, hz0, hz1, hz2⟩ := info_parts info_sample
  have HOK := hide (fun W (hs : Smp W (.slice (some ⟨b, off, none⟩) n cap) zs) => impl_ok hs)
  have HS := hide (show Smp w (.slice (some ⟨b, off, none⟩) n cap) zs from .inr ⟨b, off, cap, by rw [hz], by omega, hm, hbl, hr⟩)
  unfold maxLen at hm
  cases hok : ok zs
  · have HK := hide (show cut zs f t = [] by unfold cut; rw [hok]; rfl)
    have HO := hide hok
    clear hok
    go_enter Try.func29, Try.ntmps29
    go_wp2_with (go_at_call 38; refine (unhide HOK _ (unhide HS)).mono ?_; rintro e w1 ⟨rfl, hb1⟩; rw [unhide HO])
    go_ret
    refine ⟨_, rfl, ?_, hb1⟩
    rw [unhide HK]
    exact World.ownsRow_nil _ _ _ _
  · have HK := hide (show cut zs f t = cutL zs f t by unfold cut; rw [hok]; rfl)
    have HO := hide hok
    clear hok
    go_enter Try.func29, Try.ntmps29
    go_wp2_with (go_at_call 38; refine (unhide HOK _ (unhide HS)).mono ?_; rintro e w1 ⟨rfl, hb1⟩; rw [unhide HO])
    go_loopw [7, 15] (fun v i wr => ∃ k : Nat, k ≤ n ∧ i = .int .i64 k ∧ wr.ownsRow w.heap.size 41 2 v (cutL (zs.take k) f t).length (flat (cutL (zs.take k) f t)) ∧ Below w.heap.size w wr) (fun _ i _ => n - (intOf i).toNat)
    case atStart => exact ⟨0, Nat.zero_le _, rfl, World.ownsRow_nil _ _ _ _, hb1⟩
    case round =>
      obtain ⟨k, hk, rfl, hown, hbel⟩ := hrel
      have hsz := hbel.size
      by_cases hlt : k < n
      · have hle := cutL_le zs f t k
        have HC := hide (cutL_snoc zs f t k (by omega))
        obtain ⟨T, hT⟩ : ∃ T, T = (at' zs k).1 := ⟨_, rfl⟩
        obtain ⟨V, hV⟩ : ∃ V, V = (at' zs k).2 := ⟨_, rfl⟩
        have hc0 : wr.cell? ⟨b, off + k * 2, none⟩ = some (.int .i64 T) := by rw [hT]; exact (hbel.cell (p := ⟨b, _, none⟩) hbl).trans (hr k (by omega)).1
        have hc1 : wr.cell? ⟨b, off + k * 2 + 1, none⟩ = some (.int .i64 V) := by rw [hV]; exact (hbel.cell (p := ⟨b, _, none⟩) hbl).trans (hr k (by omega)).2
        have hk0 : (0 : Int) ≤ (k : Int) := Int.natCast_nonneg _
        have hk1 : (k : Int) < (n : Int) := by omega
        have HT := hide (show at' zs k = (T, V) by rw [hT, hV])
        clear hT hV
        generalize cutL (zs.take k) f t = L at hown hle HC
        rcases (show T < f ∨ (f ≤ T ∧ t ≤ T) ∨ (f ≤ T ∧ T < t) from by omega) with h1 | ⟨h1, h2⟩ | ⟨h1, h2⟩
        · have HL := hide (show cutL (zs.take (k + 1)) f t = L by rw [unhide HC, unhide HT, show inT f t (T, V) = false from by simp [inT]; omega]; simp)
          go_wp2
          go_roundw
          case rel => exact ⟨k + 1, by omega, by go_num, by rw [unhide HL]; exact hown.alloc _, hbel.alloc hsz _⟩
          case measure => simp [intOf]; omega
        · have HL := hide (show cutL (zs.take (k + 1)) f t = L by rw [unhide HC, unhide HT, show inT f t (T, V) = false from by simp [inT]; omega]; simp)
          go_wp2
          go_roundw
          case rel => exact ⟨k + 1, by omega, by go_num, by rw [unhide HL]; exact hown.alloc _, hbel.alloc hsz _⟩
          case measure => simp [intOf]; omega
        · have HL := hide (show cutL (zs.take (k + 1)) f t = L ++ [(T, V)] by rw [unhide HC, unhide HT, show inT f t (T, V) = true from by simp [inT]; omega]; simp)
          go_wp2_with (at_builtin; refine wpList_append_lies _ rfl _ _ _ rfl w.heap.size 41 i0 _ 2 16 Try.underlying25 hi hz0 hz1 hz2 rfl (by omega) _ L.length _ rfl ((hown.alloc _).alloc _) _ 1 1 [.int .i64 T, .int .i64 V] rfl rfl (World.news_of_block (cs := #[.int .i64 T, .int .i64 V]) (t := 41) (fr := (0, 0)) (alloc_at (by simp))) (by simp [Value.oneCell']) (by omega) (by unfold maxLen; omega) (by omega) (by simp; omega) _ rfl ?_; intro gg cap' w2 hown2 hgrow hat hlt2)
          have R := below_grown ((hbel.alloc hsz _).alloc (by simp; omega) _) (by simp; omega) hgrow (own_ge hown)
          have R2 : w2.ownsRow w.heap.size 41 2 (.slice (some ⟨gg, 0, none⟩) (L.length + 1) cap') (cutL (zs.take (k + 1)) f t).length (flat (cutL (zs.take (k + 1)) f t)) := by
            rw [unhide HL, flat_append, flat_one, List.length_append]; exact hown2
          clear hown2 hgrow hown
          go_wp2
          go_roundw
          case rel => exact ⟨k + 1, by omega, by go_num, R2, R⟩
          case measure => simp [intOf]; omega
      · go_wp2
        go_ret
        exact ⟨_, rfl, by rw [unhide HK]; rw [List.take_of_length_le (by omega)] at hown; exact hown, hbel⟩
set_option maxRecDepth 100000 in
set_option maxHeartbeats 1000000 in
theorem l2cut_some (b off n cap : Nat) (zs : List S) (f t : Int) (w : World) (hz : zs.length = n) (hcap : n ≤ cap) (hm : cap ≤ maxLen) (hn : n ≤ 4194304) (hbl : b < w.heap.size) (hr : Reads w b off zs) :
    Calls Try.prog 46 #[.slice (some ⟨b, off, none⟩) n cap, .int .i64 f, .int .i64 t] w fun e w' => ∃ v, e = .returned v ∧ w'.ownsRow w.heap.size 41 2 v (cutL zs f t).length (flat (cutL zs f t)) ∧ Below w.heap.size w w' := by
  obtain ⟨i0, hi, hz0, hz1, hz2⟩ := info_parts info_sample
  unfold maxLen at hm
  go_enter Try.func46, Try.ntmps46
  go_wp2
  go_loopw [7, 8] (fun v i wr => ∃ k : Nat, k ≤ n ∧ i = .int .i64 k ∧ wr.ownsRow w.heap.size 41 2 v (cutL (zs.take k) f t).length (flat (cutL (zs.take k) f t)) ∧ Below w.heap.size w wr) (fun _ i _ => n - (intOf i).toNat)
  case atStart => exact ⟨0, Nat.zero_le _, rfl, own_empty (Nat.le_refl _), (Below.refl _ _).alloc (Nat.le_refl _) _⟩
  case round =>
    obtain ⟨k, hk, rfl, hown, hbel⟩ := hrel
    have hsz := hbel.size
    by_cases hlt : k < n
    · have hle := cutL_le zs f t k
      have HC := hide (cutL_snoc zs f t k (by omega))
      obtain ⟨T, hT⟩ : ∃ T, T = (at' zs k).1 := ⟨_, rfl⟩
      obtain ⟨V, hV⟩ : ∃ V, V = (at' zs k).2 := ⟨_, rfl⟩
      have hc0 : wr.cell? ⟨b, off + k * 2, none⟩ = some (.int .i64 T) := by rw [hT]; exact (hbel.cell (p := ⟨b, _, none⟩) hbl).trans (hr k (by omega)).1
      have hc1 : wr.cell? ⟨b, off + k * 2 + 1, none⟩ = some (.int .i64 V) := by rw [hV]; exact (hbel.cell (p := ⟨b, _, none⟩) hbl).trans (hr k (by omega)).2
      have hk0 : (0 : Int) ≤ (k : Int) := Int.natCast_nonneg _
      have hk1 : (k : Int) < (n : Int) := by omega
      have HT := hide (show at' zs k = (T, V) by rw [hT, hV])
      clear hT hV
      generalize cutL (zs.take k) f t = L at hown hle HC
      rcases (show T < f ∨ (f ≤ T ∧ t ≤ T) ∨ (f ≤ T ∧ T < t) from by omega) with h1 | ⟨h1, h2⟩ | ⟨h1, h2⟩
      · have HL := hide (show cutL (zs.take (k + 1)) f t = L by rw [unhide HC, unhide HT, show inT f t (T, V) = false from by simp [inT]; omega]; simp)
        go_wp2
        go_roundw
        case rel => exact ⟨k + 1, by omega, by go_num, by rw [unhide HL]; exact hown, hbel⟩
        case measure => simp [intOf]; omega
      · have HL := hide (show cutL (zs.take (k + 1)) f t = L by rw [unhide HC, unhide HT, show inT f t (T, V) = false from by simp [inT]; omega]; simp)
        go_wp2
        go_roundw
        case rel => exact ⟨k + 1, by omega, by go_num, by rw [unhide HL]; exact hown, hbel⟩
        case measure => simp [intOf]; omega
      · have HL := hide (show cutL (zs.take (k + 1)) f t = L ++ [(T, V)] by rw [unhide HC, unhide HT, show inT f t (T, V) = true from by simp [inT]; omega]; simp)
        go_wp2_with (at_builtin; refine wpList_append_lies _ rfl _ _ _ rfl w.heap.size 41 i0 _ 2 16 Try.underlying25 hi hz0 hz1 hz2 rfl (by omega) _ L.length _ rfl (hown.alloc _) _ 1 1 [.int .i64 T, .int .i64 V] rfl rfl (World.news_of_block (cs := #[.int .i64 T, .int .i64 V]) (t := 41) (fr := (0, 0)) (alloc_at (by simp))) (by simp [Value.oneCell']) (by omega) (by unfold maxLen; omega) (by omega) (by simp; omega) _ rfl ?_; intro gg cap' w2 hown2 hgrow hat hlt2)
        have R := below_grown (hbel.alloc hsz _) (by simp; omega) hgrow (own_ge hown)
        have R2 : w2.ownsRow w.heap.size 41 2 (.slice (some ⟨gg, 0, none⟩) (L.length + 1) cap') (cutL (zs.take (k + 1)) f t).length (flat (cutL (zs.take (k + 1)) f t)) := by
          rw [unhide HL, flat_append, flat_one, List.length_append]; exact hown2
        clear hown2 hgrow hown
        go_wp2
        go_roundw
        case rel => exact ⟨k + 1, by omega, by go_num, R2, R⟩
        case measure => simp [intOf]; omega
    · go_wp2
      go_ret
      exact ⟨_, rfl, by rw [List.take_of_length_le (by omega)] at hown; exact hown, hbel⟩
theorem l2cut_nil (f t : Int) (w : World) :
    Calls Try.prog 46 #[.slice none 0 0, .int .i64 f, .int .i64 t] w fun e w' => ∃ v, e = .returned v ∧ w'.ownsRow w.heap.size 41 2 v (cutL [] f t).length (flat (cutL [] f t)) ∧ Below w.heap.size w w' := by
  go_enter Try.func46, Try.ntmps46
  go_wp2
  refine wp_loop_rounds 1 ?_
  rw [rounds_succ]
  go_wp2
  go_ret
  exact ⟨_, rfl, own_empty (Nat.le_refl _), (Below.refl _ _).alloc (Nat.le_refl _) _⟩
theorem l2cut {w : World} {v : Value} {zs : List S} (f t : Int) (h : Smp w v zs) (hn : zs.length ≤ 4194304) :
    Calls Try.prog 46 #[v, .int .i64 f, .int .i64 t] w fun e w' => ∃ v, e = .returned v ∧ w'.ownsRow w.heap.size 41 2 v (cutL zs f t).length (flat (cutL zs f t)) ∧ Below w.heap.size w w' := by
  rcases h with ⟨rfl, rfl⟩ | ⟨b, off, cap, rfl, h2, h3, h4, h5⟩
  · exact l2cut_nil f t w
  · exact l2cut_some b off _ cap zs f t w rfl h2 h3 hn h4 h5
theorem impl_cut_nil (f t : Int) (w : World) :
    Calls Try.prog 29 #[.slice none 0 0, .int .i64 f, .int .i64 t] w fun e w' => ∃ v, e = .returned v ∧ w'.ownsRow w.heap.size 41 2 v (cut [] f t).length (flat (cut [] f t)) ∧ Below w.heap.size w w' := by
  have HOK := hide (fun W => impl_ok (w := W) (v := .slice none 0 0) (zs := []) (.inl ⟨rfl, rfl⟩))
  go_enter Try.func29, Try.ntmps29
  go_wp2_with (go_at_call 38; refine (unhide HOK _).mono ?_; rintro e w1 ⟨rfl, hb1⟩; rw [show ok [] = true from rfl])
  refine wp_loop_rounds 1 ?_
  rw [rounds_succ]
  go_wp2
  go_ret
  exact ⟨_, rfl, World.ownsRow_nil _ _ _ _, hb1⟩
theorem impl_cut {w : World} {v : Value} {zs : List S} (f t : Int) (h : Smp w v zs) (hn : zs.length ≤ 4194304) :
    Calls Try.prog 29 #[v, .int .i64 f, .int .i64 t] w fun e w' => ∃ v, e = .returned v ∧ w'.ownsRow w.heap.size 41 2 v (cut zs f t).length (flat (cut zs f t)) ∧ Below w.heap.size w w' := by
  rcases h with ⟨rfl, rfl⟩ | ⟨b, off, cap, rfl, h2, h3, h4, h5⟩
  · exact impl_cut_nil f t w
  · exact impl_cut_some b off _ cap zs f t w rfl h2 h3 hn h4 h5
end Go.Proofs.Ytogdllkbiibicaa.Samp

/- What is cut and joined again is the whole. No condition. -/
namespace Go.Proofs.Ytogdllkbiibicaa.Samp
open SampMath
set_option linter.unusedVariables false
theorem ok_iff (zs : List S) : ok zs = true ↔ (∀ z ∈ zs, inR z.1 z.2 = true) ∧ zs.Pairwise (fun a b => a.1 < b.1) := by
  constructor
  · intro h
    constructor
    · intro z hz
      obtain ⟨i, hi, rfl⟩ := List.getElem_of_mem hz
      have h1 := ok_at h hi
      have e : at' zs i = zs[i] := by simp [at', List.getD, hi]
      unfold stepOk at h1
      rw [e] at h1
      simp only [Bool.and_eq_true] at h1
      exact h1.1
    · rw [List.pairwise_iff_getElem]
      intro i j hi hj hij
      have := ok_lt h hij hj
      have e1 : at' zs i = zs[i] := by simp [at', List.getD, hi]
      have e2 : at' zs j = zs[j] := by simp [at', List.getD, hj]
      rw [e1, e2] at this
      exact this
  · rintro ⟨h1, h2⟩
    unfold ok okTo
    rw [List.all_eq_true]
    intro i hi
    have hi' : i < zs.length := by simpa using hi
    have e : at' zs i = zs[i] := by simp [at', List.getD, hi']
    have hr := h1 zs[i] (List.getElem_mem hi')
    rcases Nat.eq_zero_or_pos i with h0 | h0
    · subst h0
      exact stepOk_first (by rw [e]; exact hr)
    · refine stepOk_next (by rw [e]; exact hr) ?_
      have hp : i - 1 < zs.length := by omega
      have e1 : at' zs (i - 1) = zs[i - 1] := by simp [at', List.getD, hp]
      rw [e, e1]
      exact (List.pairwise_iff_getElem.1 h2) (i - 1) i hp hi' (by omega)
theorem ok_filter {zs : List S} (h : ok zs = true) (f : S → Bool) : ok (zs.filter f) = true := by
  rw [ok_iff] at h ⊢
  exact ⟨fun z hz => h.1 z ((List.mem_filter.1 hz).1), h.2.filter _⟩
theorem merge_apart : ∀ (a b : List S), (∀ x ∈ a, ∀ y ∈ b, x.1 < y.1) → merge a b = some (a ++ b)
  | [], b, _ => by rw [merge_nil]; rfl
  | x :: a, [], _ => by rw [merge_nil_right, List.append_nil]
  | x :: a, y :: b, h => by
    have hlt : x.1 < y.1 := h x (by simp) y (by simp)
    rw [merge, if_pos hlt, merge_apart a (y :: b) (fun u hu v hv => h u (by simp [hu]) v hv)]
    rfl
theorem filter_parts : ∀ (zs : List S) (f : Int), zs.Pairwise (fun a b => a.1 < b.1) → (zs.filter fun z => decide (z.1 < f)) ++ (zs.filter fun z => decide (f ≤ z.1)) = zs
  | [], _, _ => rfl
  | z :: zs, f, h => by
    rw [List.pairwise_cons] at h
    by_cases hz : z.1 < f
    · rw [List.filter_cons_of_pos (by simpa using hz), List.filter_cons_of_neg (by simp; omega), List.cons_append, filter_parts zs f h.2]
    · rw [List.filter_cons_of_neg (by simpa using hz), List.filter_cons_of_pos (by simp; omega)]
      have e1 : zs.filter (fun z => decide (z.1 < f)) = [] := by
        rw [List.filter_eq_nil_iff]
        intro y hy
        have := h.1 y hy
        simp
        omega
      have e2 : zs.filter (fun z => decide (f ≤ z.1)) = zs := by
        rw [List.filter_eq_self]
        intro y hy
        have := h.1 y hy
        simp
        omega
      rw [e1, e2]
      rfl
/-- both sides of a cut together are all -/
theorem join_sides {zs : List S} (h : ok zs = true) (f : Int) : join (cut zs 0 f) (cut zs f 10000) = (zs, true) := by
  have h' := (ok_iff zs).1 h
  have ea : cut zs 0 f = zs.filter fun z => decide (z.1 < f) := by
    unfold cut cutL
    rw [if_pos h]
    refine List.filter_congr fun z hz => ?_
    have := inR_iff.1 (h'.1 z hz)
    unfold inT
    rw [decide_eq_true this.1, Bool.true_and]
  have eb : cut zs f 10000 = zs.filter fun z => decide (f ≤ z.1) := by
    unfold cut cutL
    rw [if_pos h]
    refine List.filter_congr fun z hz => ?_
    have := inR_iff.1 (h'.1 z hz)
    unfold inT
    rw [decide_eq_true (show z.1 < 10000 by omega), Bool.and_true]
  rw [ea, eb]
  refine join_some (ok_filter h _) (ok_filter h _) ?_
  rw [merge_apart _ _ (fun x hx y hy => by
    have h1 := (List.mem_filter.1 hx).2
    have h2 := (List.mem_filter.1 hy).2
    simp at h1 h2
    omega), filter_parts zs f h'.2]
theorem cut_cut {zs : List S} (h : ok zs = true) (f t : Int) : cut (cut zs f t) f t = cut zs f t := by
  have e : cut zs f t = cutL zs f t := by unfold cut; rw [if_pos h]
  have h2 : ok (cutL zs f t) = true := ok_filter h _
  rw [e]
  unfold cut
  rw [if_pos h2]
  unfold cutL
  rw [List.filter_filter]
  simp
theorem cut_in {zs : List S} (h : ok zs = true) (f t : Int) (i : Nat) (hi : i < (cut zs f t).length) : f ≤ (at' (cut zs f t) i).1 ∧ (at' (cut zs f t) i).1 < t := by
  have e : at' (cut zs f t) i = (cut zs f t)[i] := by simp [at', List.getD, hi]
  have hm := List.getElem_mem hi
  rw [e]
  have e2 : cut zs f t = cutL zs f t := by unfold cut; rw [if_pos h]
  generalize (cut zs f t)[i] = y at hm
  rw [e2] at hm
  have := (List.mem_filter.1 hm).2
  unfold inT at this
  simpa using this
end Go.Proofs.Ytogdllkbiibicaa.Samp
