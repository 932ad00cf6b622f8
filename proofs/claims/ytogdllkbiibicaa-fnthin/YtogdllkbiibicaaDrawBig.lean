/- Great numbers are drawn. -/
import Derived.Test.YtogdllkbiibicaaRdOne
namespace Go.Proofs.Ytogdllkbiibicaa.Draw
open Go.RowKit Rw
set_option linter.unusedVariables false
attribute [local go_sem ↓] Go.wp_at_zero Go.wp_at_succ
set_option maxRecDepth 100000 in
set_option maxHeartbeats 2000000 in
theorem big_any (rb p n : Nat) (w : World) (h : Rd w rb p) (hp : p ≤ 900000) (hn : 0 < n) (hn2 : n ≤ 4294967296) :
    Calls Try.prog 67 #[.pointer (some ⟨rb, 0, none⟩), .int .i64 n] w fun e w' => ∃ x : Nat, e = .returned (.int .i64 x) ∧ x < n ∧ Rd w' rb (p + 3) ∧ w.grownBy w' (some rb) := by
  have HR := hide h
  clear h
  go_enter Try.func67, Try.ntmps67
  go_wp2_with fail
  refine (pick_any rb p _ _ (unhide HR) (by omega) (by omega)).mono ?_
  rintro e w1 ⟨x, rfl, x0, x1, -, r1, g1⟩
  have x2 : x < 256 := x1 (by omega)
  clear x1 HR
  go_wp2_with fail
  refine (pick_any rb (p + 1) _ _ r1 (by omega) (by omega)).mono ?_
  rintro e w2 ⟨y, rfl, y0, y1, -, r2, g2⟩
  have y2 : y < 256 := y1 (by omega)
  have q2 := grown_trans g1 g2
  clear y1 r1 g1 g2
  go_wp2_with fail
  refine (pick_any rb (p + 1 + 1) _ _ r2 (by omega) (by omega)).mono ?_
  rintro e w3 ⟨z, rfl, z0, z1, -, r3, g3⟩
  have z2 : z < 256 := z1 (by omega)
  have q3 := grown_trans q2 g3
  clear z1 r2 q2 g3
  obtain ⟨X, hX⟩ : ∃ X : Nat, (X : Int) = (x * 65536 + y * 256 + z) % (n : Int) := ⟨((x * 65536 + y * 256 + z) % (n : Int)).toNat, Int.toNat_of_nonneg (Int.emod_nonneg _ (by omega))⟩
  have hX2 : X < n := by have := Int.emod_lt_of_pos (x * 65536 + y * 256 + z) (show (0 : Int) < (n : Int) by omega); omega
  have hX3 : (x * 65536 + y * 256 + z).tmod (n : Int) = (X : Int) := by rw [Int.tmod_eq_emod_of_nonneg (by omega), hX]
  have hX4 := hX.symm
  clear hX
  go_wp2
  go_ret
  exact ⟨X, rfl, hX2, r3, q3⟩
end Go.Proofs.Ytogdllkbiibicaa.Draw
