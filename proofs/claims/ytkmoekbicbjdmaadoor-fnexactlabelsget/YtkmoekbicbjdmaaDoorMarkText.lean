/- The text of a mark, markText, at every number from 1 on. No condition but that the number is not too great. -/
import Derived.Test.YtkmoekbicbjdmaaDoorZone
import Derived.Laws.Concat
namespace Go.Proofs.YtkmoekbicbjdmaaDoor.Mark
open Go.RowKit Rw
set_option linter.unusedVariables false
attribute [local go_sem ↓] Go.wp_at_zero Go.wp_at_succ
def digs : Nat → Nat → List UInt8
  | 0, _ => []
  | f + 1, k => if k = 0 then [] else digs f (k / 10) ++ [UInt8.ofNat (48 + k % 10)]
theorem digs_zero (f : Nat) : digs f 0 = [] := by cases f <;> simp [digs]
theorem digs_len : ∀ (f k : Nat), (digs f k).length ≤ f
  | 0, _ => by simp [digs]
  | f + 1, k => by
    unfold digs
    split
    · simp
    · have := digs_len f (k / 10)
      simp only [List.length_append, List.length_cons, List.length_nil]
      omega
def text (k : Nat) : ByteArray := ⟨(109 :: digs 20 k).toArray⟩
theorem digs_step (f k : Nat) (h : 0 < k) : digs (f + 1) k = digs f (k / 10) ++ [UInt8.ofNat (48 + k % 10)] := by
  conv => lhs; unfold digs
  rw [if_neg (by omega)]
/-- what a round meets, its numbers as letters -/
theorem round_facts (K : Nat) (h : 0 < K) : ∃ m c q : Nat, (K : Int).tmod 10 = (m : Int) ∧ (K : Int) % 10 = (m : Int) ∧ (48 : Int) + (m : Int) = (c : Int) ∧ IntKind.u8.wrap (c : Int) = (c : Int) ∧ (K : Int).tdiv 10 = (q : Int) ∧ (K : Int) / 10 = (q : Int) ∧ q < K ∧ c < 256 ∧
    Hid (∀ f, digs (f + 1) K = digs f q ++ [UInt8.ofNat c]) ∧ Hid (q = K / 10) := by
  refine ⟨K % 10, 48 + K % 10, K / 10, ?_, by omega, by omega, ?_, ?_, by omega, by omega, by omega, fun f => digs_step f K h, rfl⟩
  · rw [Int.tmod_eq_emod_of_nonneg (by omega)]; omega
  · rw [IntKind.wrap_u8']; omega
  · rw [Int.tdiv_eq_ediv_of_nonneg (by omega)]; omega
theorem conv_one (w : World) (c : Nat) (h : c < 256) : (convert 22 9 (.slice (some ⟨w.heap.size, 0, none⟩) 1 1)).run Tryd.prog (w.alloc (.cells #[.int .u8 (c : Int)] 5)) = .ok (.string ⟨#[UInt8.ofNat c]⟩) (w.alloc (.cells #[.int .u8 (c : Int)] 5)) := by
  have ho : (w.alloc (.cells #[.int .u8 (c : Int)] 5)).ownsRow 0 5 1 (.slice (some ⟨w.heap.size, 0, none⟩) 1 1) 1 ([UInt8.ofNat c].map byteV) := by
    refine ⟨rfl, .inr ⟨w.heap.size, 1, #[.int .u8 (c : Int)], rfl, Nat.zero_le _, heap_alloc_new w _, Nat.le_refl _, by unfold maxLen; omega, rfl, ?_⟩⟩
    have e : (UInt8.ofNat c).toNat = c := by simp; omega
    simp [byteV, e]
  exact conv_owned ho
set_option maxHeartbeats 1000000 in
theorem text_any (k : Nat) (h1 : 1 ≤ k) (h2 : k ≤ 1000000000000) (w : World) : Calls Tryd.prog 55 #[.int .i64 k] w fun e w' => e = .returned (.string (text k)) ∧ Below w.heap.size w w' := by
  have HD := hide (show text k = ⟨#[109]⟩ ++ ⟨(digs 20 k).toArray⟩ by apply ByteArray.ext; simp [text])
  have HL := hide (digs_len 20 k)
  obtain ⟨D, hD⟩ : ∃ D, D = digs 20 k := ⟨_, rfl⟩
  rw [← hD] at HD HL
  obtain ⟨R, hR⟩ : ∃ R, R = text k := ⟨_, rfl⟩
  rw [← hR] at HD ⊢
  have HR := hide hD
  clear hR hD
  go_enter Tryd.func55, Tryd.ntmps55
  go_wp2
  go_loopw [0, 3] (fun kv ov wr => ∃ (f K : Nat) (o : List UInt8), kv = .int .i64 K ∧ ov = .string ⟨o.toArray⟩ ∧ Hid (digs f K ++ o = D) ∧ Hid (K < 10 ^ f) ∧ f ≤ 20 ∧ K ≤ 1000000000000 ∧ o.length ≤ 20 - f ∧ Below w.heap.size w wr) (fun kv _ _ => (intOf kv).toNat)
  case atStart => exact ⟨20, k, [], rfl, rfl, hide (by rw [List.append_nil]; exact (unhide HR).symm), hide (by omega), by omega, h2, by simp, Below.refl _ _⟩
  case round =>
    obtain ⟨f, K, o, rfl, rfl, HI, HF, hf, hKm, ho, hbel⟩ := hrel
    have hsz := hbel.size
    by_cases hK : 0 < K
    · obtain ⟨m, c, q, t1, t2, t3, t4, t5, t6, hq, hc, HG, HQ⟩ := round_facts K hK
      have hK' : (0 : Int) < (K : Int) := by omega
      have hf1 : 0 < f := by
        rcases Nat.eq_zero_or_pos f with e | e
        · have := unhide HF; rw [e] at this; simp at this; omega
        · exact e
      obtain ⟨f, rfl⟩ : ∃ g, f = g + 1 := ⟨f - 1, by omega⟩
      have hcv := conv_one wr c hc
      have so : (⟨o.toArray⟩ : ByteArray).size = o.length := rfl
      have s1 : ∀ W, (Op.stringOp .add ⟨#[UInt8.ofNat c]⟩ ⟨o.toArray⟩).run Tryd.prog W = .ok (.string ⟨(UInt8.ofNat c :: o).toArray⟩) W := fun W => by
        rw [run_string_add_sum W _ _ (by rw [so]; show 1 + o.length ≤ _; omega)]
        congr 2
      have HI' := hide (show digs f q ++ (UInt8.ofNat c :: o) = D by have := unhide HI; rw [unhide HG f] at this; simpa using this)
      have HF' := hide (show q < 10 ^ f by have h := unhide HF; rw [Nat.pow_succ] at h; rw [unhide HQ]; exact Nat.div_lt_of_lt_mul (by omega))
      clear HI HF HG HQ so
      go_wp2
      go_roundw
      case rel => exact ⟨f, q, UInt8.ofNat c :: o, by go_num, rfl, HI', HF', by omega, by omega, by simp; omega, hbel.alloc hsz _⟩
      case measure => simp [intOf]; omega
    · obtain rfl : K = 0 := by omega
      have e0 : o = D := by have := unhide HI; rwa [digs_zero, List.nil_append] at this
      have s2 : ∀ W, (Op.stringOp .add ⟨#[109]⟩ ⟨o.toArray⟩).run Tryd.prog W = .ok (.string R) W := fun W => by
        rw [unhide HD, ← e0]
        exact run_string_add_sum W _ _ (by show 1 + o.length ≤ _; omega)
      clear e0 HI HF HD HL
      go_wp2
      go_ret
      exact ⟨rfl, hbel⟩
theorem text_at (k : Nat) (z : Int) (hz : z = (k : Int)) (h1 : 1 ≤ k) (h2 : k ≤ 1000000000000) (w : World) : Calls Tryd.prog 55 #[.int .i64 z] w fun e w' => e = .returned (.string (text k)) ∧ Below w.heap.size w w' := by
  subst hz
  exact text_any k h1 h2 w
end Go.Proofs.YtkmoekbicbjdmaaDoor.Mark
