/- The model's SamplesJoin, and both at every two slices of samples. -/
import Derived.Test.YtogdllkbiibicaaSampJoin
namespace Go.Proofs.Ytogdllkbiibicaa.Samp
open Go.RowKit SampMath Rw
set_option linter.unusedVariables false
attribute [local go_sem ↓] Go.wp_at_zero Go.wp_at_succ
theorem left_rest_a {a b L : List S} {i j : Nat} (h : MLeft a b L i j) (hi : i < a.length) (hj : b.length ≤ j) : MLeft a b (L ++ [at' a i]) (i + 1) j := by
  unfold MLeft at *
  rw [h, List.drop_eq_nil_of_le hj, merge_nil_right, merge_nil_right, drop_at a i hi]
  simp
theorem left_rest_b {a b L : List S} {i j : Nat} (h : MLeft a b L i j) (hi : a.length ≤ i) (hj : j < b.length) : MLeft a b (L ++ [at' b j]) i (j + 1) := by
  unfold MLeft at *
  rw [h, List.drop_eq_nil_of_le hi, merge_nil, merge_nil, drop_at b j hj]
  simp
end Go.Proofs.Ytogdllkbiibicaa.Samp
