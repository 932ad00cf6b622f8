/- A word of some is drawn. -/
import Derived.Test.YtfccibbgjjajjaaRd
namespace Go.Proofs.Ytfccibbgjjajjaa.Draw
open Go.RowKit Rw
set_option linter.unusedVariables false
attribute [local go_sem ↓] Go.wp_at_zero Go.wp_at_succ
/-- words that lie in a block of their own -/
def Strs (w : World) (g : Nat) (l : List ByteArray) : Prop := ∀ i, i < l.length → w.cell? ⟨g, i, none⟩ = some (.string (l.getD i ByteArray.empty))
set_option maxHeartbeats 1000000 in
theorem of_any (rb p g : Nat) (l : List ByteArray) (w : World) (h : Rd w rb p) (hp : p ≤ 1000000) (hl : 0 < l.length) (hl2 : l.length ≤ 1000) (hg : Strs w g l) (hgs : g < w.heap.size) (hne : g ≠ rb) :
    Calls Try.prog 76 #[.pointer (some ⟨rb, 0, none⟩), .slice (some ⟨g, 0, none⟩) l.length l.length] w fun e w' => ∃ x : ByteArray, e = .returned (.string x) ∧ x ∈ l ∧ Rd w' rb (p + 1) ∧ w.grownBy w' (some rb) := by
  obtain ⟨n, hn⟩ : ∃ n, n = l.length := ⟨_, rfl⟩
  rw [← hn]
  have HN := hide hn
  have n1 : 0 < n := by omega
  have n2 : n ≤ 1000 := by omega
  have HP := hide (fun k (hk : k ≤ (4294967296 : Int)) => pick_any rb p k w h hp hk)
  clear h hn hl hl2
  go_enter Try.func76, Try.ntmps76
  go_wp2_with fail
  refine (unhide HP _ (by omega)).mono ?_
  rintro e w1 ⟨x, rfl, x0, x1, -, r1, g1⟩
  have x2 : x < (n : Int) := x1 (by omega)
  obtain ⟨k, rfl⟩ := Int.eq_ofNat_of_zero_le x0
  have hk : k < n := by omega
  have hc : w1.cell? ⟨g, k, none⟩ = some (.string (l.getD k ByteArray.empty)) := (grown_cell g1 hgs hne).trans (hg k (by have := unhide HN; omega))
  have hm := hide (show l.getD k ByteArray.empty ∈ l by
    have hk' : k < l.length := by have := unhide HN; omega
    simp [List.getD, hk'])
  generalize l.getD k ByteArray.empty = X at hc hm
  clear x1
  go_wp2
  go_ret
  exact ⟨X, rfl, unhide hm, r1, g1⟩
theorem strs_block {w : World} {g : Nat} {l : List ByteArray} {t : TypeId} (h : w.heap[g]? = some (.cells (l.map Value.string).toArray t (0, 0))) : Strs w g l := fun i hi => by
  rw [cell_of_row w g i _ _ _ h]
  simp [List.getD, hi]
theorem of_new (rb p : Nat) (l : List ByteArray) (w : World) (h : Rd w rb p) (hp : p ≤ 1000000) (hl : 0 < l.length) (hl2 : l.length ≤ 1000) :
    Calls Try.prog 76 #[.pointer (some ⟨rb, 0, none⟩), .slice (some ⟨w.heap.size, 0, none⟩) l.length l.length] (w.alloc (.cells (l.map Value.string).toArray 9)) fun e w' => ∃ x : ByteArray, e = .returned (.string x) ∧ x ∈ l ∧ Rd w' rb (p + 1) ∧ w.grownBy w' (some rb) := by
  have hb : Below w.heap.size w (w.alloc (.cells (l.map Value.string).toArray 9)) := (Below.refl _ _).alloc (Nat.le_refl _) _
  refine (of_any rb p w.heap.size l _ (h.below hb) hp hl hl2 (strs_block (heap_alloc_new w _)) (by simp) (by have := h.lt; omega)).mono ?_
  rintro e w' ⟨x, rfl, hx, hr, hg⟩
  exact ⟨x, rfl, hx, hr, grown_trans (grown_below hb) hg⟩
end Go.Proofs.Ytfccibbgjjajjaa.Draw
