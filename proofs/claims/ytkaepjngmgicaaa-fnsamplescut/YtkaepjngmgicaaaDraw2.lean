/- The reader is opened; numbers, bytes are drawn. -/
import Derived.Test.YtkaepjngmgicaaaDraw
namespace Go.Proofs.Ytkaepjngmgicaaa.Draw
open Go.RowKit Samp
set_option linter.unusedVariables false
attribute [local go_sem ↓] Go.wp_at_zero Go.wp_at_succ
theorem row_bytes {w : World} {a : Option Addr} {len cap : Nat} {zs : List Int} (h : IsRow .u8 w a len cap zs) :
    len ≤ cap ∧ cap ≤ maxLen ∧ (len = 0 ∨ ∃ b off, a = some ⟨b, off, none⟩ ∧ b < w.heap.size ∧ ∀ i, i < len → ∃ c : Nat, c < 256 ∧ w.cell? ⟨b, off + i, none⟩ = some (.int .u8 (c : Int))) := by
  rcases h with ⟨rfl, rfl, rfl, rfl⟩ | ⟨x, rfl, h1, h2, h3, h4, h5⟩
  · exact ⟨Nat.le_refl _, Nat.zero_le _, .inl rfl⟩
  · refine ⟨h1, h2, ?_⟩
    by_cases h0 : len = 0
    · exact .inl h0
    · right
      obtain ⟨b, off, rfl, hc⟩ := ints_at h4 (by omega)
      refine ⟨b, off, rfl, World.block_lt_of_cell? w ⟨b, off + 0, none⟩ (hc 0 (by omega)), fun i hi => ?_⟩
      have hw : (Lit.int .u8 (zs.getD i 0)).wf = true := h5 _ (by simp [List.getD, show i < zs.length by omega])
      have hr : 0 ≤ zs.getD i 0 ∧ zs.getD i 0 ≤ 255 := by simpa [Lit.wf, IntKind.min, IntKind.max, IntKind.signed, IntKind.bits] using hw
      refine ⟨(zs.getD i 0).toNat, by omega, ?_⟩
      rw [hc i (by omega), show ((zs.getD i 0).toNat : Int) = zs.getD i 0 from by omega]
theorem open_zero (a : Option Addr) (cap : Nat) (w : World) (hc : cap ≤ maxLen) : Calls Try.prog 58 #[.slice a 0 cap] w fun e w' => e = .returned (.pointer (some ⟨w.heap.size, 0, none⟩)) ∧ Rd w' w.heap.size 0 ∧ Below w.heap.size w w' := by
  go_enter Try.func58, Try.ntmps58
  go_wp2
  go_ret
  exact ⟨rfl, ⟨a, 0, cap, heap_alloc_new w _, Nat.zero_le _, hc, Nat.zero_le _, fun h => by omega⟩, (Below.refl _ _).alloc (Nat.le_refl _) _⟩
theorem open_some (b off len cap : Nat) (w : World) (h1 : len ≤ cap) (h2 : cap ≤ maxLen) (hl : 0 < len) (hb : b < w.heap.size) (hc : ∀ i, i < len → ∃ c : Nat, c < 256 ∧ w.cell? ⟨b, off + i, none⟩ = some (.int .u8 (c : Int))) :
    Calls Try.prog 58 #[.slice (some ⟨b, off, none⟩) len cap] w fun e w' => e = .returned (.pointer (some ⟨w.heap.size, 0, none⟩)) ∧ Rd w' w.heap.size 0 ∧ Below w.heap.size w w' := by
  have HC := hide hc
  have h3 := h2
  unfold maxLen at h3
  clear hc
  by_cases hlen : 2000 < len
  · go_enter Try.func58, Try.ntmps58
    go_wp2
    all_goals go_ret
    all_goals first
      | (refine ⟨rfl, ⟨some ⟨b, off, none⟩, 2000, cap, ?_, by omega, h2, Nat.le_refl _, fun _ => ⟨b, off, rfl, hb, fun i hi => ?_⟩⟩, (Below.refl _ _).alloc (Nat.le_refl _) _⟩
         · exact heap_alloc_new w _
         · obtain ⟨c, hc1, hc2⟩ := unhide HC i (by omega)
           exact ⟨c, hc1, (((Below.refl w.heap.size w).alloc (Nat.le_refl _) _).cell (p := ⟨b, off + i, none⟩) hb).trans hc2⟩)
      | go_show
  · go_enter Try.func58, Try.ntmps58
    go_wp2
    go_ret
    refine ⟨rfl, ⟨some ⟨b, off, none⟩, len, cap, heap_alloc_new w _, h1, h2, by omega, fun _ => ⟨b, off, rfl, hb, fun i hi => ?_⟩⟩, (Below.refl _ _).alloc (Nat.le_refl _) _⟩
    obtain ⟨c, hc1, hc2⟩ := unhide HC i (by omega)
    exact ⟨c, hc1, (((Below.refl w.heap.size w).alloc (Nat.le_refl _) _).cell (p := ⟨b, off + i, none⟩) hb).trans hc2⟩
theorem open_any {a : Option Addr} {len cap : Nat} {zs : List Int} (w0 w : World) (h : IsRow .u8 w0 a len cap zs) (hB : Below w0.heap.size w0 w) :
    Calls Try.prog 58 #[.slice a len cap] w fun e w' => e = .returned (.pointer (some ⟨w.heap.size, 0, none⟩)) ∧ Rd w' w.heap.size 0 ∧ Below w.heap.size w w' := by
  obtain ⟨h1, h2, h3⟩ := row_bytes h
  by_cases h0 : len = 0
  · subst h0; exact open_zero a cap w h2
  · rcases h3 with h3 | ⟨b, off, rfl, hb, hc⟩
    · exact absurd h3 h0
    · refine open_some b off len cap w h1 h2 (by omega) (by have := hB.size; omega) fun i hi => ?_
      obtain ⟨c, hc1, hc2⟩ := hc i hi
      exact ⟨c, hc1, (hB.cell (p := ⟨b, off + i, none⟩) hb).trans hc2⟩
theorem ints_block {w : World} {g : Nat} {l : List Int} {t : TypeId} (h : w.heap[g]? = some (.cells (l.map (Value.int .i64)).toArray t (0, 0))) : Ints w g l := fun i hi => by
  rw [cell_of_row w g i _ _ _ h]
  simp [List.getD, hi]
/-- one of numbers that are written out -/
theorem one_new (rb p : Nat) (l : List Int) (w : World) (h : Rd w rb p) (hp : p ≤ 1000000) (hl : 0 < l.length) (hl2 : l.length ≤ 1000) :
    Calls Try.prog 60 #[.pointer (some ⟨rb, 0, none⟩), .slice (some ⟨w.heap.size, 0, none⟩) l.length l.length] (w.alloc (.cells (l.map (Value.int .i64)).toArray 3)) fun e w' => ∃ x : Int, e = .returned (.int .i64 x) ∧ x ∈ l ∧ Rd w' rb (p + 1) ∧ w.grownBy w' (some rb) := by
  have hb : Below w.heap.size w (w.alloc (.cells (l.map (Value.int .i64)).toArray 3)) := (Below.refl _ _).alloc (Nat.le_refl _) _
  refine (one_any rb p w.heap.size l _ (h.below hb) hp hl hl2 (ints_block (heap_alloc_new w _)) (by simp) (by have := h.lt; omega)).mono ?_
  rintro e w' ⟨x, rfl, hx, hr, hg⟩
  exact ⟨x, rfl, hx, hr, grown_trans (grown_below hb) hg⟩
set_option maxHeartbeats 1000000 in
theorem draw_zig {a : Option Addr} {len cap : Nat} {zs : List Int} (w0 w : World) (h : IsRow .u8 w0 a len cap zs) (hB : Below w0.heap.size w0 w) :
    Calls Try.prog 26 #[.slice a len cap] w fun e w' => ∃ x : Int, e = .returned (.int .i64 x) ∧ -1073741824 ≤ x ∧ x ≤ 1073741824 ∧ Below w.heap.size w w' := by
  have HO := hide (open_any w0 w h hB)
  clear h hB
  go_enter Try.func26, Try.ntmps26
  go_wp2_with fail
  refine (unhide HO).mono ?_
  rintro e w1 ⟨rfl, r1, b1⟩
  go_wp2_with fail
  refine (pick_any _ 0 _ _ r1 (by omega) (by omega)).mono ?_
  rintro e w2 ⟨x, rfl, x0, x1, -, r2, g2⟩
  have x2 : x < 256 := x1 (by omega)
  have b2 := b1.trans (below_of_grown g2 (Nat.le_refl _) b1.size)
  clear x1 r1 b1
  go_wp2_with (first | (go_at_call 73; refine (Zig.spec_limit _).mono ?_; rintro e w3 ⟨rfl, rfl⟩) | fail)
  have hone := one_new w.heap.size (0 + 1) [x - 128, 1073741823, -1073741823, 1073741824, -1073741824, 0, -1] _ r2 (by omega) (by simp) (by simp)
  simp only [List.map_cons, List.map_nil, List.length_cons, List.length_nil, Nat.zero_add, Nat.reduceAdd] at hone
  refine hone.mono ?_
  clear hone
  rintro e w4 ⟨y, rfl, hy, r4, g4⟩
  have b4 := b2.trans (below_of_grown g4 (Nat.le_refl _) b2.size)
  have y0 : -1073741824 ≤ y ∧ y ≤ 1073741824 := by
    simp only [List.mem_cons, List.not_mem_nil, or_false] at hy
    omega
  clear hy g4 g2 r4 r2
  go_wp2
  go_ret
  exact ⟨y, rfl, y0.1, y0.2, b4⟩
set_option maxHeartbeats 1000000 in
theorem draw_zag {a : Option Addr} {len cap : Nat} {zs : List Int} (w0 w : World) (h : IsRow .u8 w0 a len cap zs) (hB : Below w0.heap.size w0 w) :
    Calls Try.prog 30 #[.slice a len cap] w fun e w' => ∃ x : Int, e = .returned (.int .i64 x) ∧ -1 ≤ x ∧ x ≤ 2147483647 ∧ Below w.heap.size w w' := by
  have HO := hide (open_any w0 w h hB)
  clear h hB
  go_enter Try.func30, Try.ntmps30
  go_wp2_with fail
  refine (unhide HO).mono ?_
  rintro e w1 ⟨rfl, r1, b1⟩
  go_wp2_with fail
  refine (pick_any _ 0 _ _ r1 (by omega) (by omega)).mono ?_
  rintro e w2 ⟨x, rfl, x0, x1, -, r2, g2⟩
  have x2 : x < 256 := x1 (by omega)
  have b2 := b1.trans (below_of_grown g2 (Nat.le_refl _) b1.size)
  clear x1 r1 b1
  go_wp2_with (first | (go_at_call 73; refine (Zig.spec_limit _).mono ?_; rintro e w3 ⟨rfl, rfl⟩) | fail)
  have hone := one_new w.heap.size (0 + 1) [x, 2147483646, 2147483647, -1, 2147483645] _ r2 (by omega) (by simp) (by simp)
  simp only [List.map_cons, List.map_nil, List.length_cons, List.length_nil, Nat.zero_add, Nat.reduceAdd] at hone
  refine hone.mono ?_
  clear hone
  rintro e w4 ⟨y, rfl, hy, r4, g4⟩
  have b4 := b2.trans (below_of_grown g4 (Nat.le_refl _) b2.size)
  have y0 : -1 ≤ y ∧ y ≤ 2147483647 := by
    simp only [List.mem_cons, List.not_mem_nil, or_false] at hy
    omega
  clear hy g4 g2 r4 r2
  go_wp2
  go_ret
  exact ⟨y, rfl, y0.1, y0.2, b4⟩
end Go.Proofs.Ytkaepjngmgicaaa.Draw
