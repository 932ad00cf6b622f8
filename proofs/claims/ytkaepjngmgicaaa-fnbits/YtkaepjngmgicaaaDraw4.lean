/- A word of some is drawn, and a text is cut. -/
import Derived.Test.YtkaepjngmgicaaaDraw3
namespace Go.Proofs.Ytkaepjngmgicaaa.Draw
open Go.RowKit Samp
set_option linter.unusedVariables false
attribute [local go_sem ↓] Go.wp_at_zero Go.wp_at_succ
/-- words that lie in a block of their own -/
def Strs (w : World) (g : Nat) (l : List ByteArray) : Prop := ∀ i, i < l.length → w.cell? ⟨g, i, none⟩ = some (.string (l.getD i ByteArray.empty))
set_option maxHeartbeats 1000000 in
theorem of_any (rb p g : Nat) (l : List ByteArray) (w : World) (h : Rd w rb p) (hp : p ≤ 1000000) (hl : 0 < l.length) (hl2 : l.length ≤ 1000) (hg : Strs w g l) (hgs : g < w.heap.size) (hne : g ≠ rb) :
    Calls Try.prog 88 #[.pointer (some ⟨rb, 0, none⟩), .slice (some ⟨g, 0, none⟩) l.length l.length] w fun e w' => ∃ x : ByteArray, e = .returned (.string x) ∧ x ∈ l ∧ Rd w' rb (p + 1) ∧ w.grownBy w' (some rb) := by
  obtain ⟨n, hn⟩ : ∃ n, n = l.length := ⟨_, rfl⟩
  rw [← hn]
  have HN := hide hn
  have n1 : 0 < n := by omega
  have n2 : n ≤ 1000 := by omega
  have HP := hide (fun k (hk : k ≤ (4294967296 : Int)) => pick_any rb p k w h hp hk)
  clear h hn hl hl2
  go_enter Try.func88, Try.ntmps88
  go_wp2_with fail
  refine (unhide HP _ (by omega)).mono ?_
  rintro e w1 ⟨x, rfl, x0, x1, -, r1, g1⟩
  have x2 : x < (n : Int) := x1 (by omega)
  obtain ⟨k, rfl⟩ := Int.eq_ofNat_of_zero_le x0
  have hk : k < n := by omega
  have hc : w1.cell? ⟨g, k, none⟩ = some (.string (l.getD k ByteArray.empty)) := (grown_cell g1 hgs hne).trans (hg k (by have := unhide HN; omega))
  have hm := hide (show l.getD k ByteArray.empty ∈ l by
    have hk' : k < l.length := by have := unhide HN; omega
    simp [List.getD, hk'])
  generalize l.getD k ByteArray.empty = X at hc hm
  clear x1
  go_wp2
  go_ret
  exact ⟨X, rfl, unhide hm, r1, g1⟩
theorem strs_block {w : World} {g : Nat} {l : List ByteArray} {t : TypeId} (h : w.heap[g]? = some (.cells (l.map Value.string).toArray t (0, 0))) : Strs w g l := fun i hi => by
  rw [cell_of_row w g i _ _ _ h]
  simp [List.getD, hi]
theorem of_new (rb p : Nat) (l : List ByteArray) (w : World) (h : Rd w rb p) (hp : p ≤ 1000000) (hl : 0 < l.length) (hl2 : l.length ≤ 1000) :
    Calls Try.prog 88 #[.pointer (some ⟨rb, 0, none⟩), .slice (some ⟨w.heap.size, 0, none⟩) l.length l.length] (w.alloc (.cells (l.map Value.string).toArray 9)) fun e w' => ∃ x : ByteArray, e = .returned (.string x) ∧ x ∈ l ∧ Rd w' rb (p + 1) ∧ w.grownBy w' (some rb) := by
  have hb : Below w.heap.size w (w.alloc (.cells (l.map Value.string).toArray 9)) := (Below.refl _ _).alloc (Nat.le_refl _) _
  refine (of_any rb p w.heap.size l _ (h.below hb) hp hl hl2 (strs_block (heap_alloc_new w _)) (by simp) (by have := h.lt; omega)).mono ?_
  rintro e w' ⟨x, rfl, hx, hr, hg⟩
  exact ⟨x, rfl, hx, hr, grown_trans (grown_below hb) hg⟩
theorem size_one {x : ByteArray} (h : x ∈ [(⟨#[48]⟩ : ByteArray), ⟨#[103]⟩, ⟨#[32]⟩, ⟨#[10]⟩, ⟨#[120]⟩, ⟨#[44]⟩, ⟨#[49]⟩]) : x.size = 1 := by
  simp only [List.mem_cons, List.not_mem_nil, or_false] at h
  rcases h with h | h | h | h | h | h | h <;> subst h <;> rfl
set_option maxRecDepth 100000 in
set_option maxHeartbeats 2000000 in
theorem cut_any (rb p : Nat) (s : ByteArray) (w : World) (h : Rd w rb p) (hp : p ≤ 900000) (hs : s.size ≤ 1000000) :
    Calls Try.prog 75 #[.pointer (some ⟨rb, 0, none⟩), .string s] w fun e w' => ∃ (x : ByteArray) (p' : Nat), e = .returned (.string x) ∧ x.size ≤ s.size + 1 ∧ p' ≤ p + 3 ∧ Rd w' rb p' ∧ w.grownBy w' (some rb) := by
  have HR := hide (fun n hn => pick_any rb p n w h (by omega) hn)
  clear h
  go_enter Try.func75, Try.ntmps75
  go_wp2_with fail
  refine (unhide HR _ (by omega)).mono ?_
  rintro e w1 ⟨n, rfl, n0, n1, -, r1, g1⟩
  have n2 : n < (s.size : Int) + 1 := n1 (by omega)
  obtain ⟨K, rfl⟩ := Int.eq_ofNat_of_zero_le n0
  have hK : K ≤ s.size := by omega
  clear n0 n1 n2 HR
  go_wp2_with fail
  refine (pick_any rb (p + 1) _ _ r1 (by omega) (by omega)).mono ?_
  rintro e w2 ⟨m, rfl, m0, m1, -, r2, g2⟩
  have q2 := grown_trans g1 g2
  clear g1 g2 r1 m1
  by_cases h0 : m = 0
  · subst h0
    have hz1 : (s.extract 0 K).size = K := by simp [ByteArray.size_extract]; omega
    have hz2 : (s.extract K s.size).size = s.size - K := by simp [ByteArray.size_extract]
    have hof := of_new rb (p + 1 + 1) [⟨#[48]⟩, ⟨#[103]⟩, ⟨#[32]⟩, ⟨#[10]⟩, ⟨#[120]⟩, ⟨#[44]⟩, ⟨#[49]⟩] w2.drew (rd_drew r2) (by omega) (by simp) (by simp)
    simp only [List.map_cons, List.map_nil, List.length_cons, List.length_nil, Nat.zero_add, Nat.reduceAdd, World.size_drew] at hof
    go_wp2_with fail
    go_region_held3 (fun _ => True) (trivial) ((go_at_call 88; refine hof.mono ?_; rintro e w3 ⟨x, rfl, hx, r3, g3⟩; have hx1 := size_one hx; have hc1 : ∀ W : World, (Op.stringOp .add (s.extract 0 K) x).run Try.prog W = .ok (.string (s.extract 0 K ++ x)) W := fun W => run_string_add_sum W _ _ (by rw [hx1, hz1]; omega); have hc2 : ∀ W : World, (Op.stringOp .add (s.extract 0 K ++ x) (s.extract K s.size)).run Try.prog W = .ok (.string (s.extract 0 K ++ x ++ s.extract K s.size)) W := fun W => run_string_add_sum W _ _ (by rw [ByteArray.size_append, hx1, hz1, hz2]; omega)))
    go_wp2
    go_ret
    exact ⟨_, p + 3, rfl, by rw [ByteArray.size_append, ByteArray.size_append, hx1, hz1, hz2]; omega, by omega, r3, grown_trans q2 (grown_trans (grown_below (Below.refl _ _).drew) g3)⟩
  by_cases h1 : m = 1
  · subst h1
    go_wp2
    go_ret
    exact ⟨_, p + 2, rfl, by simp [ByteArray.size_extract]; omega, by omega, r2, q2⟩
  go_wp2
  go_ret
  exact ⟨s, p + 2, rfl, by omega, by omega, r2, q2⟩
end Go.Proofs.Ytkaepjngmgicaaa.Draw
