/- Slices of texts: what lies in them, what the laws' helpers do with them. -/
import Derived.Test.YtkmoekbicbjdmaaDoorZone
import Derived.Test.YtkmoekbicbjdmaaDoorMarkText
import Derived.Test.YtkmoekbicbjdmaaDoorStrMath
namespace Go.Proofs.YtkmoekbicbjdmaaDoor.Str
open Go.RowKit Rw
set_option linter.unusedVariables false
attribute [local go_sem ↓] Go.wp_at_zero Go.wp_at_succ
abbrev E := ByteArray
def fl (x : E) : List Value := [.string x]
theorem flk (x : E) : (fl x).length = 1 := rfl
abbrev at' (zs : List E) (i : Nat) : E := StrMath.at' zs i
abbrev flat (zs : List E) : List Value := flatOf fl zs
abbrev Is (w : World) (v : Value) (zs : List E) : Prop := Lies w v zs.length 1 (flat zs)
theorem flat_length (zs : List E) : (flat zs).length = zs.length := by rw [flatOf_length flk, Nat.mul_one]
theorem flat_oneCell (zs : List E) : ∀ u ∈ flat zs, u.oneCell' = true := by
  intro u hu
  obtain ⟨x, _, hx⟩ := List.mem_flatMap.1 hu
  simp only [fl, List.mem_cons, List.not_mem_nil, or_false] at hx
  rw [hx]; rfl
theorem at_get (zs : List E) (i : Nat) (h : i < zs.length) : at' zs i = zs[i] := by simp [at', StrMath.at', List.getD, h]
theorem at_snoc (zs : List E) (i : Nat) (h : i < zs.length) : zs.take (i + 1) = zs.take i ++ [at' zs i] := by rw [List.take_succ_eq_append_getElem h, at_get zs i h]
theorem flat_at (zs : List E) (i : Nat) (h : i < zs.length) : (flat zs)[i]? = some (.string (at' zs i)) := by
  rw [at_get zs i h]
  have := flatOf_get flk zs i 0 h (by omega)
  rw [Nat.mul_one, Nat.add_zero] at this
  exact this
theorem flat_append (a b : List E) : flat (a ++ b) = flat a ++ flat b := flatOf_append _ _ _
theorem is_of_own {w : World} {base : Nat} {v : Value} {zs : List E} (h : w.ownsRow base 9 1 v zs.length (flat zs)) : Is w v zs := lies_of_own h
theorem info_e : (Tryd.prog.info? 9).map (fun i => (i.zero, i.size, i.bytes)) = some (some (.string ByteArray.empty), 1, 16) := by kernel_rfl
theorem set_e (A : List Value) (u0 x0 : Value) (L : List Value) (k : Nat) (h : A.length = k) : (A ++ u0 :: L).set k x0 = A ++ [x0] ++ L := by
  subst h
  simp [List.set_append_right]
theorem split_e (r : List Value) (n : Nat) (h : r.length = n + 1) : ∃ u0 L, r = u0 :: L ∧ L.length = n := by
  match r, h with
  | u0 :: L, h => exact ⟨u0, L, rfl, by simpa using h⟩
  | [], h => simp at h
end Go.Proofs.YtkmoekbicbjdmaaDoor.Str
