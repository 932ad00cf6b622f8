/- It does not matter which samples are first; with themselves they are the same. No condition. -/
import Derived.Test.YtdkenakgppdabaaJoinMath
namespace Go.Proofs.Ytdkenakgppdabaa.SampMath
theorem merge_comm (a : List S) : ∀ b : List S, merge a b = merge b a := by
  induction a with
  | nil => intro b; rw [merge_nil, merge_nil_right]
  | cons x a iha =>
    intro b
    induction b with
    | nil => rw [merge_nil, merge_nil_right]
    | cons y b ihb =>
      rw [merge, merge]
      by_cases h1 : x.1 < y.1
      · have h2 : ¬ y.1 < x.1 := by omega
        rw [if_pos h1, if_neg h2, if_pos h1, iha]
      · rw [if_neg h1]
        by_cases h2 : y.1 < x.1
        · rw [if_pos h2, if_pos h2, ihb]
        · rw [if_neg h2, if_neg h2, if_neg h1]
          by_cases h3 : x.2 = y.2
          · have e : x = y := Prod.ext (by omega) h3
            rw [if_pos h3, if_pos h3.symm, iha, e]
          · rw [if_neg h3, if_neg (fun h => h3 h.symm)]
theorem merge_self (a : List S) : merge a a = some a := by
  induction a with
  | nil => rw [merge_nil]
  | cons x a ih =>
    rw [merge, if_neg (by omega), if_neg (by omega), if_pos rfl, ih]
    rfl
theorem join_comm (a b : List S) : join a b = join b a := by
  unfold join
  rw [merge_comm a b]
  by_cases h : ok a = true ∧ ok b = true
  · rw [if_pos h, if_pos ⟨h.2, h.1⟩]
  · rw [if_neg h, if_neg (fun h' => h ⟨h'.2, h'.1⟩)]
theorem join_self {a : List S} (h : ok a = true) : join a a = (a, true) := join_some h h (merge_self a)
end Go.Proofs.Ytdkenakgppdabaa.SampMath
