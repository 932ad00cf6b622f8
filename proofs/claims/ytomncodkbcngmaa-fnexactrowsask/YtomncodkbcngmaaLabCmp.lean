/- LabelsCmp of the program, at every two slices of labels. -/
import Derived.Test.YtomncodkbcngmaaCmpMath
import Derived.Test.YtomncodkbcngmaaLabOk2
import Derived.Deep.RegionWith
namespace Go.Proofs.Ytomncodkbcngmaa.Lab
open Go.RowKit Rw
set_option linter.unusedVariables false
attribute [local go_sem ↓] Go.wp_at_zero Go.wp_at_succ
theorem new_cell {W : World} {cs : Array Value} {t : TypeId} {B o : Nat} {u : Value} (hB : B = W.heap.size) (h : cs[o]? = some u) : (W.alloc (.cells cs t)).cell? ⟨B, o, none⟩ = some u := by
  subst hB
  rw [cell_of_row (W.alloc (.cells cs t)) W.heap.size o cs t _ (heap_alloc_new W _)]
  exact h
set_option maxHeartbeats 1000000 in
theorem or_any (g cap : Nat) (x y : Int) (w : World) (h0 : w.cell? ⟨g, 0, none⟩ = some (.int .i64 x)) (h1 : w.cell? ⟨g, 1, none⟩ = some (.int .i64 y)) :
    Calls Try.prog 107 #[.slice (some ⟨g, 0, none⟩) 2 cap] w fun e w' => e = .returned (.int .i64 (if x ≠ 0 then x else y)) ∧ w' = w := by
  obtain ⟨R, hR⟩ : ∃ R, R = if x ≠ 0 then x else y := ⟨_, rfl⟩
  rw [← hR]
  have HR := hide hR
  clear hR
  go_enter Try.func107, Try.ntmps107
  go_wp2
  go_loop [8] (fun i => ∃ k : Nat, k ≤ 2 ∧ i = .int .i64 k ∧ (0 < k → x = 0) ∧ (1 < k → y = 0)) (fun i => 2 - (intOf i).toNat)
  case atStart => exact ⟨0, by omega, rfl, fun h => by omega, fun h => by omega⟩
  case round =>
    obtain ⟨k, hk, rfl, ha, hb⟩ := hrel
    rcases (show k = 0 ∨ k = 1 ∨ k = 2 from by omega) with rfl | rfl | rfl
    · by_cases hx : x = 0
      · subst hx
        go_wp2
        go_round
        case rel => exact ⟨1, by omega, rfl, fun _ => by first | rfl | trivial, fun h => by omega⟩
        case measure => simp [intOf]
      · have hxb : (x == 0) = false := by simpa using hx
        have hxn : (x != 0) = true := by simpa using hx
        have HRx := hide (show R = x by rw [unhide HR, if_pos hx])
        go_wp2
        go_ret
        exact ⟨ret_int (unhide HRx).symm, rfl⟩
    · have hx := ha (by omega)
      have HRy := hide (show R = y by rw [unhide HR, if_neg (by simp [hx])])
      clear ha hb
      by_cases hy : y = 0
      · subst hy
        have HX := hide hx
        clear hx
        go_wp2
        go_round
        case rel => exact ⟨2, by omega, rfl, fun _ => unhide HX, fun _ => by first | rfl | trivial⟩
        case measure => simp [intOf]
      · have hyb : (y == 0) = false := by simpa using hy
        have hyn : (y != 0) = true := by simpa using hy
        clear hx
        go_wp2
        go_ret
        exact ⟨ret_int (unhide HRy).symm, rfl⟩
    · have hx := ha (by omega)
      have hy := hb (by omega)
      have HRz := hide (show R = 0 by rw [unhide HR, if_neg (by simp [hx]), hy])
      clear ha hb hx hy
      go_wp2
      go_ret
      exact ⟨ret_int (unhide HRz).symm, rfl⟩
theorem or_is (g cap : Nat) (x y R : Int) (w : World) (hR : R = if x ≠ 0 then x else y) (h0 : w.cell? ⟨g, 0, none⟩ = some (.int .i64 x)) (h1 : w.cell? ⟨g, 1, none⟩ = some (.int .i64 y)) :
    Calls Try.prog 107 #[.slice (some ⟨g, 0, none⟩) 2 cap] w fun e w' => e = .returned (.int .i64 R) ∧ w' = w := by rw [hR]; exact or_any g cap x y w h0 h1
set_option maxRecDepth 100000 in
set_option maxHeartbeats 4000000 in
theorem labelCmp_any (A B C D : ByteArray) (w : World) : Calls Try.prog 100 #[.agg #[.string A, .string B], .agg #[.string C, .string D]] w fun e w' => e = .returned (.int .i64 (cmpE (A, B) (C, D))) ∧ Below w.heap.size w w' := by
  have H1 := hide (fun W => show Calls Try.prog 108 #[.string A, .string C] W fun e w' => e = .returned (.int .i64 (cmpS A C)) ∧ w' = W from Try.strings_Compare A C W)
  have H2 := hide (fun W => show Calls Try.prog 108 #[.string B, .string D] W fun e w' => e = .returned (.int .i64 (cmpS B D)) ∧ w' = W from Try.strings_Compare B D W)
  have HE := hide (show cmpE (A, B) (C, D) = if cmpS A C ≠ 0 then cmpS A C else cmpS B D from rfl)
  generalize cmpE (A, B) (C, D) = R at HE
  generalize cmpS A C = X at H1 HE
  generalize cmpS B D = Y at H2 HE
  go_enter Try.func100, Try.ntmps100
  go_wp2_with fail
  go_region_with (first
    | (go_at_call_of 108 (A); refine (unhide H1 _).mono ?_; rintro e w1 ⟨rfl, hw1⟩; subst hw1)
    | (go_at_call_of 108 (B); refine (unhide H2 _).mono ?_; rintro e w1 ⟨rfl, hw1⟩; subst hw1)
    | (go_at_call 107; refine (or_is _ _ X Y R _ (unhide HE) (by simp; exact new_cell (by simp) rfl) (by simp; exact new_cell (by simp) rfl)).mono ?_; rintro e w1 ⟨rfl, hw1⟩; subst hw1))
  all_goals
    go_wp2_with fail
    go_ret
    exact ⟨rfl, ((((Below.refl _ _).alloc (Nat.le_refl _) _).alloc (by simp) _).alloc (by simp; omega) _).drew⟩
end Go.Proofs.Ytomncodkbcngmaa.Lab
