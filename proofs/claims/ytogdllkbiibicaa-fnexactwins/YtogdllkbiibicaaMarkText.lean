/- The text of a mark, markText, at every number from 1 on. No condition but that the number is not too great. -/
import Derived.Test.YtogdllkbiibicaaZone
import Derived.Laws.Concat
namespace Go.Proofs.Ytogdllkbiibicaa.Mark
open Go.RowKit Rw
set_option linter.unusedVariables false
attribute [local go_sem ↓] Go.wp_at_zero Go.wp_at_succ
def digs : Nat → Nat → List UInt8
  | 0, _ => []
  | f + 1, k => if k = 0 then [] else digs f (k / 10) ++ [UInt8.ofNat (48 + k % 10)]
theorem digs_zero (f : Nat) : digs f 0 = [] := by cases f <;> simp [digs]
theorem digs_len : ∀ (f k : Nat), (digs f k).length ≤ f
  | 0, _ => by simp [digs]
  | f + 1, k => by
    unfold digs
    split
    · simp
    · have := digs_len f (k / 10)
      simp only [List.length_append, List.length_cons, List.length_nil]
      omega
def text (k : Nat) : ByteArray := ⟨(109 :: digs 20 k).toArray⟩
theorem digs_step (f k : Nat) (h : 0 < k) : digs (f + 1) k = digs f (k / 10) ++ [UInt8.ofNat (48 + k % 10)] := by
  conv => lhs; unfold digs
  rw [if_neg (by omega)]
/-- what a round meets, its numbers as letters -/
theorem round_facts (K : Nat) (h : 0 < K) : ∃ m c q : Nat, (K : Int).tmod 10 = (m : Int) ∧ (K : Int) % 10 = (m : Int) ∧ (48 : Int) + (m : Int) = (c : Int) ∧ IntKind.u8.wrap (c : Int) = (c : Int) ∧ (K : Int).tdiv 10 = (q : Int) ∧ (K : Int) / 10 = (q : Int) ∧ q < K ∧ c < 256 ∧
    Hid (∀ f, digs (f + 1) K = digs f q ++ [UInt8.ofNat c]) ∧ Hid (q = K / 10) := by
  refine ⟨K % 10, 48 + K % 10, K / 10, ?_, by omega, by omega, ?_, ?_, by omega, by omega, by omega, fun f => digs_step f K h, rfl⟩
  · rw [Int.tmod_eq_emod_of_nonneg (by omega)]; omega
  · rw [IntKind.wrap_u8']; omega
  · rw [Int.tdiv_eq_ediv_of_nonneg (by omega)]; omega
theorem conv_one (w : World) (c : Nat) (h : c < 256) : (convert 37 9 (.slice (some ⟨w.heap.size, 0, none⟩) 1 1)).run Try.prog (w.alloc (.cells #[.int .u8 (c : Int)] 5)) = .ok (.string ⟨#[UInt8.ofNat c]⟩) (w.alloc (.cells #[.int .u8 (c : Int)] 5)) := by
  have ho : (w.alloc (.cells #[.int .u8 (c : Int)] 5)).ownsRow 0 5 1 (.slice (some ⟨w.heap.size, 0, none⟩) 1 1) 1 ([UInt8.ofNat c].map byteV) := by
    refine ⟨rfl, .inr ⟨w.heap.size, 1, #[.int .u8 (c : Int)], rfl, Nat.zero_le _, heap_alloc_new w _, Nat.le_refl _, by unfold maxLen; omega, rfl, ?_⟩⟩
    have e : (UInt8.ofNat c).toNat = c := by simp; omega
    simp [byteV, e]
  exact conv_owned ho
end Go.Proofs.Ytogdllkbiibicaa.Mark
