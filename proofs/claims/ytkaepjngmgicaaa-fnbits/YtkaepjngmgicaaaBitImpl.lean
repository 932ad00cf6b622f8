/- What impl.BitsPut answers. -/
import Derived.Test.YtkaepjngmgicaaaBitText
import Derived.Test.YtkaepjngmgicaaaBitOk
namespace Go.Proofs.Ytkaepjngmgicaaa.BitPut
open Go.RowKit Samp SampMath
set_option linter.unusedVariables false
attribute [local go_sem ↓] Go.wp_at_zero Go.wp_at_succ
def GoodTo (zs : List S) (k : Nat) : Prop := ∀ j, j < k → okz (at' zs j) = true ∧ (bitsTo zs (j + 1)).length ≤ 6000
theorem good_len {zs : List S} {k : Nat} (h : GoodTo zs k) : (bitsTo zs k).length ≤ 6000 := by
  rcases k with _ | k
  · simp [bitsTo]
  · exact (h k (by omega)).2
theorem own_slice {w : World} {base : Nat} {e : TypeId} {size n : Nat} {v : Value} {xs : List Value} (h : w.ownsRow base e size v n xs) : ∃ a cp, v = .slice a n cp := by
  rcases h.2 with ⟨rfl, h2⟩ | ⟨g, cap, cur, rfl, _⟩
  · exact ⟨none, 0, by rw [h2]⟩
  · exact ⟨_, cap, rfl⟩
set_option maxRecDepth 100000 in
set_option maxHeartbeats 2000000 in
theorem impl_some (b off cap : Nat) (zs : List S) (w : World) (hcap : zs.length ≤ cap) (hm : cap ≤ maxLen) (hbl : b < w.heap.size) (hr : Reads w b off zs) :
    Calls Try.prog 21 #[.slice (some ⟨b, off, none⟩) zs.length cap] w fun e w' => ∃ X : List UInt8, e = .returned (.string ⟨X.toArray⟩) ∧ ((Good zs ∧ X = textK (bitsTo zs zs.length) (bitsTo zs zs.length).length) ∨ (¬ Good zs ∧ X = [])) ∧ Below w.heap.size w w' := by
  unfold maxLen at hm
  obtain ⟨n, hn⟩ : ∃ n, n = zs.length := ⟨_, rfl⟩
  rw [← hn]
  have HN := hide hn
  have hn1 : n ≤ cap := by omega
  clear hn hcap
  go_enter Try.func21, Try.ntmps21
  go_wp2_with fail
  go_loopw [8] (fun iv wr => ∃ (k : Nat) (u : Value), iv = .int .i64 (k : Int) ∧ k ≤ n ∧ GoodTo zs k ∧ wr.cell? ⟨w.heap.size, 0, none⟩ = some u ∧ wr.frozen? ⟨w.heap.size, 0, none⟩ = false ∧ wr.ownsRow (w.heap.size + 1) 5 1 u (bitsTo zs k).length ((bitsTo zs k).map byteV) ∧ Below w.heap.size w wr ∧ w.heap.size + 1 ≤ wr.heap.size) (fun iv _ => n - (intOf iv).toNat)
  case atStart =>
    refine ⟨0, .slice none 0 0, rfl, Nat.zero_le _, fun j hj => by omega, by simp, by simp, ?_, (Below.refl _ _).alloc (Nat.le_refl _) _, by simp⟩
    exact World.ownsRow_nil _ _ _ _
  case round =>
    obtain ⟨k, u, rfl, hk, hgood, hcB, hfB, hown, hbel, hsz⟩ := hrel
    have HG := hide hgood
    have HL := hide (good_len hgood)
    clear hgood
    by_cases hlt : k < n
    · have hc0 : wr.cell? ⟨b, off + k * 2, none⟩ = some (.int .i64 (at' zs k).1) := (hbel.cell (p := ⟨b, _, none⟩) hbl).trans (hr k (by have := unhide HN; omega)).1
      have hc1 : wr.cell? ⟨b, off + k * 2 + 1, none⟩ = some (.int .i64 (at' zs k).2) := (hbel.cell (p := ⟨b, _, none⟩) hbl).trans (hr k (by have := unhide HN; omega)).2
      have hk0 : (0 : Int) ≤ (k : Int) := Int.natCast_nonneg _
      have hk1 : (k : Int) < (n : Int) := by omega
      cases hin : okz (at' zs k)
      · have HF := hide (show ¬ Good zs from fun h => by have := (h k (by have := unhide HN; omega)).1; rw [hin] at this; cases this)
        obtain ⟨T, hT⟩ : ∃ T, T = (at' zs k).1 := ⟨_, rfl⟩
        obtain ⟨V, hV⟩ : ∃ V, V = (at' zs k).2 := ⟨_, rfl⟩
        rw [← hT] at hc0
        rw [← hV] at hc1
        have HI := hide (show okz (T, V) = false by rw [hT, hV]; exact hin)
        clear hin hT hV
        go_wp2_with fail
        refine (bitOk_is _ _ false _ (unhide HI)).mono ?_
        rintro e W2 ⟨rfl, b2⟩
        have R := (hbel.alloc (by omega) (.cells #[.int .i64 T, .int .i64 V] 29)).trans (b2.mono (by simp; omega))
        go_wp2
        go_ret
        exact ⟨[], rfl, .inr ⟨unhide HF, rfl⟩, R⟩
      · obtain ⟨T, q, hz, hq1, hq2, hTq⟩ := okz_parts hin
        rw [hz] at hc0 hc1
        dsimp only at hc0 hc1
        have HI := hide (show okz ((T : Int), (q : Int)) = true by rw [← hz]; exact hin)
        have HS := hide (show bitsTo zs (k + 1) = bitsTo zs k ++ bitsK T q q by rw [bitsTo_succ zs k (by have := unhide HN; omega), hz]; rfl)
        have hT32 : T < 4294967296 := by
          have h : 2 ^ q ≤ 2 ^ 32 := Nat.pow_le_pow_right (by decide) hq2
          omega
        have HK := hide hin
        clear hin hTq hz
        obtain ⟨a, cp, hu⟩ := own_slice hown
        obtain ⟨L, hL⟩ : ∃ L, L = (bitsTo zs k).length := ⟨_, rfl⟩
        have hL6 : L ≤ 6000 := by rw [hL]; exact unhide HL
        rw [← hL] at hu
        have HLL := hide hL
        clear hL
        subst hu
        have gB : ∀ o, (wr.alloc o).cell? ⟨w.heap.size, 0, none⟩ = some (.slice a L cp) := fun o => (World.cell?_alloc_lt _ _ _ (show w.heap.size < wr.heap.size by omega)).trans hcB
        have gF : ∀ o, (wr.alloc o).frozen? ⟨w.heap.size, 0, none⟩ = false := fun o => (World.frozen?_of_block (a := ⟨w.heap.size, 0, none⟩) (Below.heap_alloc wr o w.heap.size (by omega))).trans hfB
        go_wp2_with fail
        refine (bitOk_is _ _ true _ (unhide HI)).mono ?_
        rintro e W2 ⟨rfl, b2⟩
        have R := (hbel.alloc (by omega) (.cells #[.int .i64 T, .int .i64 q] 29)).trans (b2.mono (by simp; omega))
        have z2 := b2.size
        simp only [World.size_alloc] at z2
        have d0 := (b2.cell (p := ⟨w.heap.size, 0, none⟩) (show w.heap.size < _ by simp; omega)).trans (gB _)
        have df := (b2.frozen (p := ⟨w.heap.size, 0, none⟩) (show w.heap.size < _ by simp; omega)).trans (gF _)
        have d1 : W2.cell? ⟨wr.heap.size, 0, none⟩ = some (.int .i64 T) := (b2.cell (p := ⟨wr.heap.size, 0, none⟩) (show wr.heap.size < _ by simp)).trans (by simp)
        have d2 : W2.cell? ⟨wr.heap.size, 1, none⟩ = some (.int .i64 q) := (b2.cell (p := ⟨wr.heap.size, 1, none⟩) (show wr.heap.size < _ by simp)).trans (by simp)
        have o2 := own_below (hown.alloc (.cells #[.int .i64 T, .int .i64 q] 29)) b2
        by_cases hmore : 6000 < L + q
        · have HF := hide (show ¬ Good zs from fun h => by
            have := (h k (by have := unhide HN; omega)).2
            rw [unhide HS, List.length_append, bitsK_length, ← unhide HLL] at this
            omega)
          go_wp2
          go_ret
          exact ⟨[], rfl, .inr ⟨unhide HF, rfl⟩, R⟩
        · go_wp2_with fail
          refine (put_any w.heap.size (w.heap.size + 1) T q _ (bitsTo zs k) W2 (by omega) (by omega) hq2 hT32 (by rw [← unhide HLL]; omega) d0 df o2).mono ?_
          rintro e W3 ⟨⟨rr, rfl⟩, v', k1, k2, k3, k4⟩
          have R3 := R.trans k4
          have z3 := k4.size
          have HO := hide (show W3.ownsRow (w.heap.size + 1) 5 1 v' (bitsTo zs (k + 1)).length ((bitsTo zs (k + 1)).map byteV) by
            rw [unhide HS, List.length_append, bitsK_length]
            exact k3)
          have HGG := hide (show GoodTo zs (k + 1) by
            intro j hj
            rcases (show j < k ∨ j = k by omega) with h | rfl
            · exact unhide HG j h
            · refine ⟨unhide HK, ?_⟩
              rw [unhide HS, List.length_append, bitsK_length, ← unhide HLL]
              omega)
          clear k3 hown o2
          go_wp2
          go_roundw
          case rel => exact ⟨k + 1, v', by go_num, by omega, unhide HGG, k1, k2, unhide HO, R3, by omega⟩
          case measure => simp [intOf]; omega
    · obtain rfl : k = n := by omega
      go_wp2_with fail
      refine (text_own hown (unhide HL) (bitsTo_bit zs k)).mono ?_
      rintro e W2 ⟨rfl, b2⟩
      have R := hbel.trans (b2.mono (by omega))
      go_wp2
      go_ret
      refine ⟨_, rfl, .inl ⟨?_, rfl⟩, R⟩
      intro j hj
      exact unhide HG j (by have := unhide HN; omega)
end Go.Proofs.Ytkaepjngmgicaaa.BitPut
