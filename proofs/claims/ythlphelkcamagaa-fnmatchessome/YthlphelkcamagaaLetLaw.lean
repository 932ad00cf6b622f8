/- Matches and labels are drawn; a match and its opposite. -/
import Derived.Test.YthlphelkcamagaaDrawMat2
import Derived.Test.YthlphelkcamagaaDrawLab2
import Derived.Test.YthlphelkcamagaaLet4
namespace Go.Proofs.Ythlphelkcamagaa.Mat
open Go.RowKit Rw Draw
set_option linter.unusedVariables false
attribute [local go_sem ↓] Go.wp_at_zero Go.wp_at_succ
set_option maxHeartbeats 2000000 in
theorem draw_let {a : Option Addr} {len cap : Nat} {zs : List Int} (w0 w : World) (h : IsRow .u8 w0 a len cap zs) (hB : Below w0.heap.size w0 w) :
    Calls Try.prog 17 #[.slice a len cap] w fun e w' => ∃ (zs : List E) (ys : List Lab.E) (v u : Value), e = .returned (.tuple #[v, u]) ∧ zs.length ≤ 20 ∧ ys.length ≤ 20 ∧ (∀ x ∈ zs, smallM x) ∧ (∀ x ∈ ys, smallL x) ∧ Is w' v zs ∧ Lab.Is w' u ys ∧ Below w.heap.size w w' := by
  have HO := hide (open_any w0 w h hB)
  clear h hB
  go_enter Try.func17, Try.ntmps17
  go_wp2_with fail
  refine (unhide HO).mono ?_
  rintro e w1 ⟨rfl, r1, b1⟩
  have hlt := r1.lt
  have hs1 := b1.size
  go_wp2_with fail
  refine (anymatches_any w.heap.size 0 _ r1 (by omega)).mono ?_
  rintro e w2 ⟨zs, v, rfl, hl, hsm, o2, ⟨p2, hp2, r2⟩, q2⟩
  have M1 := hide hsm
  clear r1 HO hsm
  go_wp2_with fail
  refine (anylabels_any w.heap.size p2 _ r2 (by omega)).mono ?_
  rintro e w3 ⟨ys, u, rfl, hl', hsm, o3, ⟨p3, hp3, r3⟩, q3⟩
  have M2 := hide hsm
  have o3' := own_kept o2 q3 hlt
  have q4 := grown_trans q2 q3
  have b4 := b1.trans (below_of_grown q4 (Nat.le_refl _) hs1)
  have S1 := hide (is_of_own o3')
  have S2 := hide (Lab.is_of_own o3)
  clear o3 o3' o2 q2 q3 r2 r3 hsm
  go_wp2_with fail
  go_ret2
  exact ⟨zs, ys, _, _, rfl, hl, hl', unhide M1, unhide M2, unhide S1, unhide S2, b4⟩
def opp (k : Int) : Int := if k = 1 then 2 else if k = 2 then 1 else if k = 3 then 4 else 3
theorem opp_range (k : Int) : 1 ≤ opp k ∧ opp k ≤ 4 := by
  unfold opp; split
  · omega
  · split
    · omega
    · split <;> omega
theorem letB_opp (k : Int) (A B : ByteArray) (ls : List Lab.E) (h1 : 1 ≤ k) (h4 : k ≤ 4) : letB (opp k, A, B) ls = !letB (k, A, B) ls := by
  rcases (show k = 1 ∨ k = 2 ∨ k = 3 ∨ k = 4 from by omega) with rfl | rfl | rfl | rfl <;> simp [letB, opp]
theorem ok_at {zs : List E} (h : ok zs = true) {k : Nat} (hk : k < zs.length) : 1 ≤ (at' zs k).1 ∧ (at' zs k).1 ≤ 4 ∧ Lab.nameB (at' zs k).2.1 = true ∧ Lab.wordB (at' zs k).2.2 = true := by
  unfold ok at h; rw [Bool.and_eq_true] at h
  have := h.1; unfold okTo at this
  have := List.all_eq_true.1 this k (List.mem_range.2 hk)
  unfold stepOk at this
  simp only [Bool.and_eq_true, decide_eq_true_eq] at this
  exact ⟨this.1.1.1, this.1.1.2, this.1.2, this.2⟩
theorem ok_one {k : Int} {A B : ByteArray} (h1 : 1 ≤ k) (h4 : k ≤ 4) (h2 : Lab.nameB A = true) (h3 : Lab.wordB B = true) : ok [(k, A, B)] = true := by
  unfold ok okTo
  have := step_yes (zs := [(k, A, B)]) (k := 0) h1 h4 h2 h3
  simp [this]
theorem mlet_one {k : Int} {A B : ByteArray} {ls : List Lab.E} (h1 : 1 ≤ k) (h4 : k ≤ 4) (h2 : Lab.nameB A = true) (h3 : Lab.wordB B = true) (hl : Lab.ok ls = true) : mlet [(k, A, B)] ls = letB (k, A, B) ls := by
  unfold mlet; rw [ok_one h1 h4 h2 h3, hl]; simp [lets]
theorem mlet_nil {ls : List Lab.E} (hl : Lab.ok ls = true) : mlet [] ls = true := by
  unfold mlet; rw [hl]; simp [lets, ok, okTo]
theorem mlet_ok {zs : List E} {ls : List Lab.E} (h : ok zs = true) (hl : Lab.ok ls = true) : mlet zs ls = lets zs ls := by
  unfold mlet; rw [h, hl]; rfl
theorem is_nil (w : World) : Is w (.slice none 0 0) [] := ⟨rfl, none, 0, rfl, Nat.le_refl _, Nat.zero_le _, fun _ => rfl, fun h => absurd h (by decide)⟩
theorem is_one (w : World) (k : Int) (A B : ByteArray) {N : Nat} (hN : N = w.heap.size) : Is (w.alloc (.cells #[.int .i64 k, .string A, .string B] 36)) (.slice (some ⟨N, 0, none⟩) 1 1) [(k, A, B)] :=
  lies_new hN rfl (by unfold maxLen; omega)
theorem good_one {k : Int} {A B : ByteArray} (h1 : 1 ≤ k) (h4 : k ≤ 4) (h2 : A.size ≤ 100) (h3 : B.size ≤ 100) : ∀ x ∈ [((k, A, B) : E)], good x := by
  intro x hx
  rw [List.mem_singleton] at hx
  subst hx
  exact good_smallM ⟨by show 0 ≤ k; omega, by show k ≤ 5; omega, h2, h3⟩
end Go.Proofs.Ythlphelkcamagaa.Mat
