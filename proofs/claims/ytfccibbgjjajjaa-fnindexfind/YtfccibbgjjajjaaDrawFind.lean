/- Labels and matches are drawn, for the index; a slice of one match. -/
import Derived.Test.YtfccibbgjjajjaaDrawMany
import Derived.Test.YtfccibbgjjajjaaDrawMat2
import Derived.Test.YtfccibbgjjajjaaMatLaw
namespace Go.Proofs.Ytfccibbgjjajjaa.Draw
open Go.RowKit Rw
set_option linter.unusedVariables false
attribute [local go_sem ↓] Go.wp_at_zero Go.wp_at_succ
set_option maxHeartbeats 2000000 in
theorem draw_indexfind {a : Option Addr} {len cap : Nat} {bs : List Int} (w0 w : World) (h : IsRow .u8 w0 a len cap bs) (hB : Below w0.heap.size w0 w) :
    Calls Try.prog 36 #[.slice a len cap] w fun e w' => ∃ (zs : List Lss.E) (ms : List Mat.E) (v u : Value), e = .returned (.tuple #[v, u]) ∧ zs.length ≤ 7 ∧ ms.length ≤ 20 ∧ (∀ x ∈ zs, smallLL x) ∧ (∀ x ∈ ms, smallM x) ∧ Lss.Is w' v zs ∧ Mat.Is w' u ms ∧ Below w.heap.size w w' := by
  have HO := hide (open_any w0 w h hB)
  clear h hB
  go_enter Try.func36, Try.ntmps36
  go_wp2_with fail
  refine (unhide HO).mono ?_
  rintro e w1 ⟨rfl, r1, b1⟩
  have hlt := r1.lt
  have hs1 := b1.size
  go_wp2_with fail
  refine (drawMany_any w.heap.size 0 _ r1 (by omega)).mono ?_
  rintro e w2 ⟨zs, v, rfl, hl, hsm, o2, ⟨p2, hp2, r2⟩, q2⟩
  have M1 := hide hsm
  have O2 := hide o2
  clear r1 HO hsm o2
  go_wp2_with fail
  refine (anymatches_any w.heap.size p2 _ r2 (by omega)).mono ?_
  rintro e w3 ⟨ms, u, rfl, hl', hsm, o3, ⟨p3, hp3, r3⟩, q3⟩
  have M2 := hide hsm
  have O3 := hide ((unhide O2).kept q3 hlt)
  have q4 := grown_trans q2 q3
  have b4 := b1.trans (below_of_grown q4 (Nat.le_refl _) hs1)
  have S1 := hide (unhide O3).is
  have S2 := hide (Mat.is_of_own o3)
  clear o3 O3 O2 q2 q3 r2 r3 hsm
  go_wp2_with fail
  go_ret2
  exact ⟨zs, ms, _, _, rfl, hl, hl', unhide M1, unhide M2, unhide S1, unhide S2, b4⟩
theorem size_match : (sizeOf (Try.prog.elem 37)).run Try.prog = fun w => .ok 3 w := by kernel_rfl
theorem one_match {w : World} {a : Option Addr} {cap i : Nat} {ms : List Mat.E} (h : Mat.Is w (.slice a ms.length cap) ms) (hi : i < ms.length) :
    ∃ R, (∀ W, (Instr.slice 37 (.slice a ms.length cap) (some (.int .i64 (i : Int))) (some (.int .i64 ((i : Int) + 1))) none).run Try.prog W = .ok R W) ∧ Mat.Is w R [Mat.at' ms i] ∧ ∃ a l q, R = .slice a l q := by
  have hc : ms.length ≤ cap := by obtain ⟨-, a', cap', h1, h2, -⟩ := h; simp only [Value.slice.injEq, true_and] at h1; omega
  have h1 := take_lies (k := 1) (cut_lies h (i := i) (by omega)) (by omega)
  have e1 : (List.drop (i * 3) (Mat.flat ms)).take (1 * 3) = Mat.flat [Mat.at' ms i] := by
    unfold Mat.flat
    rw [← flatOf_drop Mat.flk, ← flatOf_take Mat.flk]
    congr 1
    rw [List.drop_eq_getElem_cons hi, Mat.at_get ms i hi]
    rfl
  rw [e1] at h1
  refine ⟨_, fun W => ?_, h1, _, _, _, rfl⟩
  have e := run_slice_lh (P := Try.prog) W 37 a ms.length cap (by kernel_rfl) .i64 .i64 (i : Int) ((i : Int) + 1) (by omega) (by omega) (by omega)
  rw [e]
  show ((sizeOf (Try.prog.elem 37)).run Try.prog W).andThen _ = _
  rw [size_match]
  have e2 : ((i : Int) + 1).toNat = i + 1 := by omega
  simp [sliced, e2]
end Go.Proofs.Ytfccibbgjjajjaa.Draw
