/- What SamplesCut answers, of the program and of the model, at every slice of samples. -/
import Derived.Test.YtogdllkbiibicaaSampMark
namespace Go.Proofs.Ytogdllkbiibicaa.Samp
open Go.RowKit SampMath Rw
set_option linter.unusedVariables false
attribute [local go_sem ↓] Go.wp_at_zero Go.wp_at_succ
def inT (f t : Int) (x : S) : Bool := decide (f ≤ x.1) && decide (x.1 < t)
def cutL (zs : List S) (f t : Int) : List S := zs.filter (inT f t)
def cut (zs : List S) (f t : Int) : List S := if ok zs = true then cutL zs f t else []
theorem cutL_snoc (zs : List S) (f t : Int) (k : Nat) (h : k < zs.length) : cutL (zs.take (k + 1)) f t = cutL (zs.take k) f t ++ if inT f t (at' zs k) = true then [at' zs k] else [] := by
  rw [at_snoc zs k h, cutL, List.filter_append, cutL]
  cases hh : inT f t (at' zs k) <;> simp [hh]
theorem cutL_le (zs : List S) (f t : Int) (k : Nat) : (cutL (zs.take k) f t).length ≤ k := by
  have h1 := List.length_filter_le (inT f t) (zs.take k)
  have h2 := List.length_take_le k zs
  unfold cutL
  omega
set_option maxRecDepth 100000 in
set_option maxHeartbeats 1000000 in
theorem impl_cut_some (b off n cap : Nat) (zs : List S) (f t : Int) (w : World) (hz : zs.length = n) (hcap : n ≤ cap) (hm : cap ≤ maxLen) (hn : n ≤ 4194304) (hbl : b < w.heap.size) (hr : Reads w b off zs) :
    Calls Try.prog 29 #[.slice (some ⟨b, off, none⟩) n cap, .int .i64 f, .int .i64 t] w fun e w' => ∃ v, e = .returned v ∧ w'.ownsRow w.heap.size 41 2 v (cut zs f t).length (flat (cut zs f t)) ∧ Below w.heap.size w w' := by
  obtain ⟨i0, hi, hz0, hz1, hz2⟩ := info_parts info_sample
  have HOK := hide (fun W (hs : Smp W (.slice (some ⟨b, off, none⟩) n cap) zs) => impl_ok hs)
  have HS := hide (show Smp w (.slice (some ⟨b, off, none⟩) n cap) zs from .inr ⟨b, off, cap, by rw [hz], by omega, hm, hbl, hr⟩)
  unfold maxLen at hm
  cases hok : ok zs
  · have HK := hide (show cut zs f t = [] by unfold cut; rw [hok]; rfl)
    have HO := hide hok
    clear hok
    go_enter Try.func29, Try.ntmps29
    go_wp2_with (go_at_call 38; refine (unhide HOK _ (unhide HS)).mono ?_; rintro e w1 ⟨rfl, hb1⟩; rw [unhide HO])
    go_ret
    refine ⟨_, rfl, ?_, hb1⟩
    rw [unhide HK]
    exact World.ownsRow_nil _ _ _ _
  · have HK := hide (show cut zs f t = cutL zs f t by unfold cut; rw [hok]; rfl)
    have HO := hide hok
    clear hok
    go_enter Try.func29, Try.ntmps29
    go_wp2_with (go_at_call 38; refine (unhide HOK _ (unhide HS)).mono ?_; rintro e w1 ⟨rfl, hb1⟩; rw [unhide HO])
    go_loopw [7, 15] (fun v i wr => ∃ k : Nat, k ≤ n ∧ i = .int .i64 k ∧ wr.ownsRow w.heap.size 41 2 v (cutL (zs.take k) f t).length (flat (cutL (zs.take k) f t)) ∧ Below w.heap.size w wr) (fun _ i _ => n - (intOf i).toNat)
    case atStart => exact ⟨0, Nat.zero_le _, rfl, World.ownsRow_nil _ _ _ _, hb1⟩
    case round =>
      obtain ⟨k, hk, rfl, hown, hbel⟩ := hrel
      have hsz := hbel.size
      by_cases hlt : k < n
      · have hle := cutL_le zs f t k
        have HC := hide (cutL_snoc zs f t k (by omega))
        obtain ⟨T, hT⟩ : ∃ T, T = (at' zs k).1 := ⟨_, rfl⟩
        obtain ⟨V, hV⟩ : ∃ V, V = (at' zs k).2 := ⟨_, rfl⟩
        have hc0 : wr.cell? ⟨b, off + k * 2, none⟩ = some (.int .i64 T) := by rw [hT]; exact (hbel.cell (p := ⟨b, _, none⟩) hbl).trans (hr k (by omega)).1
        have hc1 : wr.cell? ⟨b, off + k * 2 + 1, none⟩ = some (.int .i64 V) := by rw [hV]; exact (hbel.cell (p := ⟨b, _, none⟩) hbl).trans (hr k (by omega)).2
        have hk0 : (0 : Int) ≤ (k : Int) := Int.natCast_nonneg _
        have hk1 : (k : Int) < (n : Int) := by omega
        have HT := hide (show at' zs k = (T, V) by rw [hT, hV])
        clear hT hV
        generalize cutL (zs.take k) f t = L at hown hle HC
        rcases (show T < f ∨ (f ≤ T ∧ t ≤ T) ∨ (f ≤ T ∧ T < t) from by omega) with h1 | ⟨h1, h2⟩ | ⟨h1, h2⟩
        · have HL := hide (show cutL (zs.take (k + 1)) f t = L by rw [unhide HC, unhide HT, show inT f t (T, V) = false from by simp [inT]; omega]; simp)
          go_wp2
          go_roundw
          case rel => exact ⟨k + 1, by omega, by go_num, by rw [unhide HL]; exact hown.alloc _, hbel.alloc hsz _⟩
          case measure => simp [intOf]; omega
        · have HL := hide (show cutL (zs.take (k + 1)) f t = L by rw [unhide HC, unhide HT, show inT f t (T, V) = false from by simp [inT]; omega]; simp)
          go_wp2
          go_roundw
          case rel => exact ⟨k + 1, by omega, by go_num, by rw [unhide HL]; exact hown.alloc _, hbel.alloc hsz _⟩
          case measure => simp [intOf]; omega
        · have HL := hide (show cutL (zs.take (k + 1)) f t = L ++ [(T, V)] by rw [unhide HC, unhide HT, show inT f t (T, V) = true from by simp [inT]; omega]; simp)
          go_wp2_with (at_builtin; refine wpList_append_lies _ rfl _ _ _ rfl w.heap.size 41 i0 _ 2 16 Try.underlying25 hi hz0 hz1 hz2 rfl (by omega) _ L.length _ rfl ((hown.alloc _).alloc _) _ 1 1 [.int .i64 T, .int .i64 V] rfl rfl (World.news_of_block (cs := #[.int .i64 T, .int .i64 V]) (t := 41) (fr := (0, 0)) (alloc_at (by simp))) (by simp [Value.oneCell']) (by omega) (by unfold maxLen; omega) (by omega) (by simp; omega) _ rfl ?_; intro gg cap' w2 hown2 hgrow hat hlt2)
          have R := below_grown ((hbel.alloc hsz _).alloc (by simp; omega) _) (by simp; omega) hgrow (own_ge hown)
          have R2 : w2.ownsRow w.heap.size 41 2 (.slice (some ⟨gg, 0, none⟩) (L.length + 1) cap') (cutL (zs.take (k + 1)) f t).length (flat (cutL (zs.take (k + 1)) f t)) := by
            rw [unhide HL, flat_append, flat_one, List.length_append]; exact hown2
          clear hown2 hgrow hown
          go_wp2
          go_roundw
          case rel => exact ⟨k + 1, by omega, by go_num, R2, R⟩
          case measure => simp [intOf]; omega
      · go_wp2
        go_ret
        exact ⟨_, rfl, by rw [unhide HK]; rw [List.take_of_length_le (by omega)] at hown; exact hown, hbel⟩
set_option maxRecDepth 100000 in
set_option maxHeartbeats 1000000 in
theorem l2cut_some (b off n cap : Nat) (zs : List S) (f t : Int) (w : World) (hz : zs.length = n) (hcap : n ≤ cap) (hm : cap ≤ maxLen) (hn : n ≤ 4194304) (hbl : b < w.heap.size) (hr : Reads w b off zs) :
    Calls Try.prog 46 #[.slice (some ⟨b, off, none⟩) n cap, .int .i64 f, .int .i64 t] w fun e w' => ∃ v, e = .returned v ∧ w'.ownsRow w.heap.size 41 2 v (cutL zs f t).length (flat (cutL zs f t)) ∧ Below w.heap.size w w' := by
  obtain ⟨i0, hi, hz0, hz1, hz2⟩ := info_parts info_sample
  unfold maxLen at hm
  go_enter Try.func46, Try.ntmps46
  go_wp2
  go_loopw [7, 8] (fun v i wr => ∃ k : Nat, k ≤ n ∧ i = .int .i64 k ∧ wr.ownsRow w.heap.size 41 2 v (cutL (zs.take k) f t).length (flat (cutL (zs.take k) f t)) ∧ Below w.heap.size w wr) (fun _ i _ => n - (intOf i).toNat)
  case atStart => exact ⟨0, Nat.zero_le _, rfl, own_empty (Nat.le_refl _), (Below.refl _ _).alloc (Nat.le_refl _) _⟩
  case round =>
    obtain ⟨k, hk, rfl, hown, hbel⟩ := hrel
    have hsz := hbel.size
    by_cases hlt : k < n
    · have hle := cutL_le zs f t k
      have HC := hide (cutL_snoc zs f t k (by omega))
      obtain ⟨T, hT⟩ : ∃ T, T = (at' zs k).1 := ⟨_, rfl⟩
      obtain ⟨V, hV⟩ : ∃ V, V = (at' zs k).2 := ⟨_, rfl⟩
      have hc0 : wr.cell? ⟨b, off + k * 2, none⟩ = some (.int .i64 T) := by rw [hT]; exact (hbel.cell (p := ⟨b, _, none⟩) hbl).trans (hr k (by omega)).1
      have hc1 : wr.cell? ⟨b, off + k * 2 + 1, none⟩ = some (.int .i64 V) := by rw [hV]; exact (hbel.cell (p := ⟨b, _, none⟩) hbl).trans (hr k (by omega)).2
      have hk0 : (0 : Int) ≤ (k : Int) := Int.natCast_nonneg _
      have hk1 : (k : Int) < (n : Int) := by omega
      have HT := hide (show at' zs k = (T, V) by rw [hT, hV])
      clear hT hV
      generalize cutL (zs.take k) f t = L at hown hle HC
      rcases (show T < f ∨ (f ≤ T ∧ t ≤ T) ∨ (f ≤ T ∧ T < t) from by omega) with h1 | ⟨h1, h2⟩ | ⟨h1, h2⟩
      · have HL := hide (show cutL (zs.take (k + 1)) f t = L by rw [unhide HC, unhide HT, show inT f t (T, V) = false from by simp [inT]; omega]; simp)
        go_wp2
        go_roundw
        case rel => exact ⟨k + 1, by omega, by go_num, by rw [unhide HL]; exact hown, hbel⟩
        case measure => simp [intOf]; omega
      · have HL := hide (show cutL (zs.take (k + 1)) f t = L by rw [unhide HC, unhide HT, show inT f t (T, V) = false from by simp [inT]; omega]; simp)
        go_wp2
        go_roundw
        case rel => exact ⟨k + 1, by omega, by go_num, by rw [unhide HL]; exact hown, hbel⟩
        case measure => simp [intOf]; omega
      · have HL := hide (show cutL (zs.take (k + 1)) f t = L ++ [(T, V)] by rw [unhide HC, unhide HT, show inT f t (T, V) = true from by simp [inT]; omega]; simp)
        go_wp2_with (at_builtin; refine wpList_append_lies _ rfl _ _ _ rfl w.heap.size 41 i0 _ 2 16 Try.underlying25 hi hz0 hz1 hz2 rfl (by omega) _ L.length _ rfl (hown.alloc _) _ 1 1 [.int .i64 T, .int .i64 V] rfl rfl (World.news_of_block (cs := #[.int .i64 T, .int .i64 V]) (t := 41) (fr := (0, 0)) (alloc_at (by simp))) (by simp [Value.oneCell']) (by omega) (by unfold maxLen; omega) (by omega) (by simp; omega) _ rfl ?_; intro gg cap' w2 hown2 hgrow hat hlt2)
        have R := below_grown (hbel.alloc hsz _) (by simp; omega) hgrow (own_ge hown)
        have R2 : w2.ownsRow w.heap.size 41 2 (.slice (some ⟨gg, 0, none⟩) (L.length + 1) cap') (cutL (zs.take (k + 1)) f t).length (flat (cutL (zs.take (k + 1)) f t)) := by
          rw [unhide HL, flat_append, flat_one, List.length_append]; exact hown2
        clear hown2 hgrow hown
        go_wp2
        go_roundw
        case rel => exact ⟨k + 1, by omega, by go_num, R2, R⟩
        case measure => simp [intOf]; omega
    · go_wp2
      go_ret
      exact ⟨_, rfl, by rw [List.take_of_length_le (by omega)] at hown; exact hown, hbel⟩
theorem l2cut_nil (f t : Int) (w : World) :
    Calls Try.prog 46 #[.slice none 0 0, .int .i64 f, .int .i64 t] w fun e w' => ∃ v, e = .returned v ∧ w'.ownsRow w.heap.size 41 2 v (cutL [] f t).length (flat (cutL [] f t)) ∧ Below w.heap.size w w' := by
  go_enter Try.func46, Try.ntmps46
  go_wp2
  refine wp_loop_rounds 1 ?_
  rw [rounds_succ]
  go_wp2
  go_ret
  exact ⟨_, rfl, own_empty (Nat.le_refl _), (Below.refl _ _).alloc (Nat.le_refl _) _⟩
theorem l2cut {w : World} {v : Value} {zs : List S} (f t : Int) (h : Smp w v zs) (hn : zs.length ≤ 4194304) :
    Calls Try.prog 46 #[v, .int .i64 f, .int .i64 t] w fun e w' => ∃ v, e = .returned v ∧ w'.ownsRow w.heap.size 41 2 v (cutL zs f t).length (flat (cutL zs f t)) ∧ Below w.heap.size w w' := by
  rcases h with ⟨rfl, rfl⟩ | ⟨b, off, cap, rfl, h2, h3, h4, h5⟩
  · exact l2cut_nil f t w
  · exact l2cut_some b off _ cap zs f t w rfl h2 h3 hn h4 h5
theorem impl_cut_nil (f t : Int) (w : World) :
    Calls Try.prog 29 #[.slice none 0 0, .int .i64 f, .int .i64 t] w fun e w' => ∃ v, e = .returned v ∧ w'.ownsRow w.heap.size 41 2 v (cut [] f t).length (flat (cut [] f t)) ∧ Below w.heap.size w w' := by
  have HOK := hide (fun W => impl_ok (w := W) (v := .slice none 0 0) (zs := []) (.inl ⟨rfl, rfl⟩))
  go_enter Try.func29, Try.ntmps29
  go_wp2_with (go_at_call 38; refine (unhide HOK _).mono ?_; rintro e w1 ⟨rfl, hb1⟩; rw [show ok [] = true from rfl])
  refine wp_loop_rounds 1 ?_
  rw [rounds_succ]
  go_wp2
  go_ret
  exact ⟨_, rfl, World.ownsRow_nil _ _ _ _, hb1⟩
theorem impl_cut {w : World} {v : Value} {zs : List S} (f t : Int) (h : Smp w v zs) (hn : zs.length ≤ 4194304) :
    Calls Try.prog 29 #[v, .int .i64 f, .int .i64 t] w fun e w' => ∃ v, e = .returned v ∧ w'.ownsRow w.heap.size 41 2 v (cut zs f t).length (flat (cut zs f t)) ∧ Below w.heap.size w w' := by
  rcases h with ⟨rfl, rfl⟩ | ⟨b, off, cap, rfl, h2, h3, h4, h5⟩
  · exact impl_cut_nil f t w
  · exact impl_cut_some b off _ cap zs f t w rfl h2 h3 hn h4 h5
end Go.Proofs.Ytogdllkbiibicaa.Samp
