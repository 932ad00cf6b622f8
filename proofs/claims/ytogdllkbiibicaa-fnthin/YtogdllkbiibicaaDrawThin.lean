/- Samples and a step are drawn, for Thin. -/
import Derived.Test.YtogdllkbiibicaaDrawWin
namespace Go.Proofs.Ytogdllkbiibicaa.Draw
open Go.RowKit Samp SampMath Rw
set_option linter.unusedVariables false
attribute [local go_sem ↓] Go.wp_at_zero Go.wp_at_succ
set_option maxRecDepth 100000 in
set_option maxHeartbeats 2000000 in
theorem draw_thin {a : Option Addr} {len cap : Nat} {zs : List Int} (w0 w : World) (h : IsRow .u8 w0 a len cap zs) (hB : Below w0.heap.size w0 w) :
    Calls Try.prog 27 #[.slice a len cap] w fun e w' => ∃ (zs : List S) (g cp : Nat) (st : Int), e = .returned (.tuple #[.slice (some ⟨g, 0, none⟩) zs.length cp, .int .i64 st]) ∧ zs.length ≤ 9 ∧ -1 ≤ st ∧ st ≤ 100 ∧ Sam.Is w' (.slice (some ⟨g, 0, none⟩) zs.length cp) zs ∧ g < w'.heap.size ∧ Below w.heap.size w w' := by
  have HO := hide (open_any w0 w h hB)
  clear h hB
  go_enter Try.func27, Try.ntmps27
  go_wp2_with fail
  refine (unhide HO).mono ?_
  rintro e w1 ⟨rfl, r1, b1⟩
  have hlt := r1.lt
  have hs1 := b1.size
  go_wp2_with fail
  refine (anysamples_any w.heap.size 0 9 _ r1 (by omega) (by omega)).mono ?_
  rintro e w2 ⟨zs, g, cp, rfl, hl, o2, ⟨p2, hp2, r2⟩, q2⟩
  clear r1 HO
  go_wp2_with fail
  refine (one_new w.heap.size p2 [1, 10, 60, 100, 0, -1] w2 r2 (by omega) (by decide) (by decide)).mono ?_
  rintro e w3 ⟨x, rfl, hx, r3, g3⟩
  have o3 := own_kept o2 g3 hlt
  have b3 := b1.trans (below_of_grown (grown_trans q2 g3) (Nat.le_refl _) hs1)
  have S3 := hide (Sam.is_of_smp (smp_of_own o3))
  have G3 := hide (own_lt o3)
  have hx' : -1 ≤ x ∧ x ≤ 100 := by simp at hx; omega
  clear o2 o3 r2 r3 q2 g3
  go_wp2
  refine bodyPost_ret (results_tmp2 rfl _ _ _) rfl ?_
  exact ⟨zs, g, cp, x, rfl, hl, hx'.1, hx'.2, unhide S3, unhide G3, b3⟩
end Go.Proofs.Ytogdllkbiibicaa.Draw
