/- Samples are drawn, for Rises and Thin; slices of samples, cut. -/
import Derived.Test.YtogdllkbiibicaaAlSamp
import Derived.Test.YtogdllkbiibicaaWinRise
namespace Go.Proofs.Ytogdllkbiibicaa.Sam
open Go.RowKit Rw
theorem sflat_eq (zs : List E) : Samp.flat zs = flat zs := by
  induction zs with
  | nil => rfl
  | cons x zs ih => unfold flat at ih ⊢; rw [flatOf_cons, ← ih]; rfl
theorem is_of_smp {w : World} {v : Value} {zs : List E} (h : Samp.Smp w v zs) : Is w v zs := by
  refine ⟨flat_length zs, ?_⟩
  rcases h with ⟨rfl, rfl⟩ | ⟨b, off, cap, rfl, h2, h3, h4, h5⟩
  · exact ⟨none, 0, rfl, Nat.le_refl _, Nat.zero_le _, fun _ => rfl, fun h => by simp at h⟩
  · refine ⟨_, cap, rfl, h2, h3, fun e => (by cases e), fun h0 => ⟨b, off, rfl, h4, fun j u hu => ?_⟩⟩
    have hj : j < zs.length * 2 := by have := (List.getElem?_eq_some_iff.1 hu).1; rwa [flat_length] at this
    obtain ⟨i, c, rfl, hc⟩ : ∃ i c, j = i * 2 + c ∧ c < 2 := ⟨j / 2, j % 2, by omega, by omega⟩
    have fa := flat_at zs i (by omega)
    have r := h5 i (by omega)
    rcases (show c = 0 ∨ c = 1 by omega) with rfl | rfl
    · rw [Nat.add_zero] at hu ⊢
      rw [fa.1] at hu
      cases hu
      exact r.1
    · rw [fa.2] at hu
      cases hu
      rw [← Nat.add_assoc]
      exact r.2
theorem smp_of_is {w : World} {v : Value} {zs : List E} (h : Is w v zs) (ha : ∃ b off n cap, v = .slice (some ⟨b, off, none⟩) n cap ∧ b < w.heap.size) : Samp.Smp w v zs := by
  obtain ⟨b, off, n, cap, rfl, hb⟩ := ha
  obtain ⟨-, a, cap', h1, h2, h3, h4, h5⟩ := h
  simp only [Value.slice.injEq] at h1
  obtain ⟨rfl, rfl, rfl⟩ := h1
  refine .inr ⟨b, off, cap, rfl, h2, h3, hb, fun i hi => ?_⟩
  obtain ⟨b', off', e, -, hc⟩ := h5 (by omega)
  cases e
  exact reads_of hc i hi
theorem size_s : (sizeOf (Try.prog.elem 25)).run Try.prog = fun w => .ok 2 w := by kernel_rfl
theorem head_ok {w : World} {a : Option Addr} {N cap k : Nat} {xs : List Value} (h : Lies w (.slice a N cap) N 2 xs) (h0 : k ≤ N) :
    ∃ R, (∀ W, (Instr.slice 25 (.slice a N cap) none (some (.int .i64 (k : Int))) none).run Try.prog W = .ok R W) ∧ Lies w R k 2 (xs.take (k * 2)) := by
  have hc : N ≤ cap := by obtain ⟨-, a', cap', h1, h2, -⟩ := h; simp only [Value.slice.injEq, true_and] at h1; omega
  have h1 := take_lies (k := k) (cut_lies h (i := 0) (by omega)) (by omega)
  rw [Nat.zero_mul, List.drop_zero] at h1
  refine ⟨_, fun W => ?_, h1⟩
  have e := run_slice_h (P := Try.prog) W 25 a N cap (by kernel_rfl) .i64 (k : Int) (by omega) (by omega)
  rw [e]
  show ((sizeOf (Try.prog.elem 25)).run Try.prog W).andThen _ = _
  rw [size_s]
  simp [sliced]
theorem rest_ok {w : World} {a : Option Addr} {N cap k : Nat} {xs : List Value} (h : Lies w (.slice a N cap) N 2 xs) (h0 : k ≤ N) :
    ∃ R, (∀ W, (Instr.slice 25 (.slice a N cap) (some (.int .i64 (k : Int))) none none).run Try.prog W = .ok R W) ∧ Lies w R (N - k) 2 (xs.drop (k * 2)) := by
  have hc : N ≤ cap := by obtain ⟨-, a', cap', h1, h2, -⟩ := h; simp only [Value.slice.injEq, true_and] at h1; omega
  refine ⟨_, fun W => ?_, cut_lies h (i := k) (by omega)⟩
  have e := run_slice_l (P := Try.prog) W 25 a N cap (by kernel_rfl) .i64 (k : Int) (by omega) (by omega)
  rw [e]
  show ((sizeOf (Try.prog.elem 25)).run Try.prog W).andThen _ = _
  rw [size_s]
  simp [sliced]
theorem head_is {w : World} {a : Option Addr} {N cap k : Nat} {zs : List E} (h : Is w (.slice a N cap) zs) (hN : N = zs.length) (h0 : k ≤ N) :
    ∃ R, (∀ W, (Instr.slice 25 (.slice a N cap) none (some (.int .i64 (k : Int))) none).run Try.prog W = .ok R W) ∧ Is w R (zs.take k) := by
  subst hN
  obtain ⟨R, h1, h2⟩ := head_ok h h0
  refine ⟨R, h1, ?_⟩
  unfold Is flat
  rw [flatOf_take flk, List.length_take, Nat.min_eq_left h0]
  exact h2
theorem rest_is {w : World} {a : Option Addr} {N cap k : Nat} {zs : List E} (h : Is w (.slice a N cap) zs) (hN : N = zs.length) (h0 : k ≤ N) :
    ∃ R, (∀ W, (Instr.slice 25 (.slice a N cap) (some (.int .i64 (k : Int))) none none).run Try.prog W = .ok R W) ∧ Is w R (zs.drop k) := by
  subst hN
  obtain ⟨R, h1, h2⟩ := rest_ok h h0
  refine ⟨R, h1, ?_⟩
  unfold Is flat
  rw [flatOf_drop flk, List.length_drop]
  exact h2
end Go.Proofs.Ytogdllkbiibicaa.Sam
namespace Go.Proofs.Ytogdllkbiibicaa.Draw
open Go.RowKit Samp SampMath Rw
set_option linter.unusedVariables false
attribute [local go_sem ↓] Go.wp_at_zero Go.wp_at_succ
set_option maxRecDepth 100000 in
set_option maxHeartbeats 2000000 in
theorem draw_rises {a : Option Addr} {len cap : Nat} {zs : List Int} (w0 w : World) (h : IsRow .u8 w0 a len cap zs) (hB : Below w0.heap.size w0 w) :
    Calls Try.prog 25 #[.slice a len cap] w fun e w' => ∃ (zs : List S) (g cp : Nat), e = .returned (.slice (some ⟨g, 0, none⟩) zs.length cp) ∧ zs.length ≤ 9 ∧ Sam.Is w' (.slice (some ⟨g, 0, none⟩) zs.length cp) zs ∧ g < w'.heap.size ∧ Below w.heap.size w w' := by
  have HO := hide (open_any w0 w h hB)
  clear h hB
  go_enter Try.func25, Try.ntmps25
  go_wp2_with fail
  refine (unhide HO).mono ?_
  rintro e w1 ⟨rfl, r1, b1⟩
  have hlt := r1.lt
  have hs1 := b1.size
  go_wp2_with fail
  refine (anysamples_any w.heap.size 0 9 _ r1 (by omega) (by omega)).mono ?_
  rintro e w2 ⟨zs, g, cp, rfl, hl, o2, ⟨p2, hp2, r2⟩, q2⟩
  have b2 := b1.trans (below_of_grown q2 (Nat.le_refl _) hs1)
  have S2 := hide (Sam.is_of_smp (smp_of_own o2))
  have G2 := hide (own_lt o2)
  clear o2 r1 HO r2 q2
  go_wp2
  go_ret
  exact ⟨zs, g, cp, rfl, hl, unhide S2, unhide G2, b2⟩
end Go.Proofs.Ytogdllkbiibicaa.Draw
