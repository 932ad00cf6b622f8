/- What the laws' own helpers do with slices of impl.Win: they are copied, held against each other, and counted. -/
import Derived.Test.YtogdllkbiibicaaFlat
import Derived.ChangeArms
namespace Go.Proofs.Ytogdllkbiibicaa.Win
open Go.RowKit Rw
set_option linter.unusedVariables false
attribute [local go_sem ↓] Go.wp_at_zero Go.wp_at_succ
abbrev E := Int × Int × Int × Int × Int × Int
def fl (x : E) : List Value := [.int .i64 (x.1), .int .i64 (x.2.1), .int .i64 (x.2.2.1), .int .i64 (x.2.2.2.1), .int .i64 (x.2.2.2.2.1), .int .i64 (x.2.2.2.2.2)]
theorem flk (x : E) : (fl x).length = 6 := rfl
def at' (zs : List E) (i : Nat) : E := zs.getD i default
abbrev flat (zs : List E) : List Value := flatOf fl zs
abbrev Is (w : World) (v : Value) (zs : List E) : Prop := Lies w v zs.length 6 (flat zs)
theorem flat_length (zs : List E) : (flat zs).length = zs.length * 6 := flatOf_length flk zs
theorem flat_oneCell (zs : List E) : ∀ u ∈ flat zs, u.oneCell' = true := by
  intro u hu
  obtain ⟨x, _, hx⟩ := List.mem_flatMap.1 hu
  simp only [fl, List.mem_cons, List.not_mem_nil, or_false] at hx
  rcases hx with rfl | rfl | rfl | rfl | rfl | rfl <;> rfl
theorem at_get (zs : List E) (i : Nat) (h : i < zs.length) : at' zs i = zs[i] := by simp [at', List.getD, h]
theorem at_snoc (zs : List E) (i : Nat) (h : i < zs.length) : zs.take (i + 1) = zs.take i ++ [at' zs i] := by rw [List.take_succ_eq_append_getElem h, at_get zs i h]
theorem flat_at (zs : List E) (i : Nat) (h : i < zs.length) : (flat zs)[i * 6]? = some (.int .i64 ((at' zs i).1)) ∧ (flat zs)[i * 6 + 1]? = some (.int .i64 ((at' zs i).2.1)) ∧ (flat zs)[i * 6 + 2]? = some (.int .i64 ((at' zs i).2.2.1)) ∧ (flat zs)[i * 6 + 3]? = some (.int .i64 ((at' zs i).2.2.2.1)) ∧ (flat zs)[i * 6 + 4]? = some (.int .i64 ((at' zs i).2.2.2.2.1)) ∧ (flat zs)[i * 6 + 5]? = some (.int .i64 ((at' zs i).2.2.2.2.2)) := by
  rw [at_get zs i h]
  exact ⟨flatOf_get flk zs i 0 h (by omega), flatOf_get flk zs i 1 h (by omega), flatOf_get flk zs i 2 h (by omega), flatOf_get flk zs i 3 h (by omega), flatOf_get flk zs i 4 h (by omega), flatOf_get flk zs i 5 h (by omega)⟩
theorem is_of_own {w : World} {base : Nat} {v : Value} {zs : List E} (h : w.ownsRow base 52 6 v zs.length (flat zs)) : Is w v zs := lies_of_own h
theorem info_e : (Try.prog.info? 52).map (fun i => (i.zero, i.size, i.bytes)) = some (some (.agg #[.int .i64 0, .int .i64 0, .int .i64 0, .int .i64 0, .int .i64 0, .int .i64 0]), 6, 48) := by kernel_rfl
def good (x : E) : Prop := (Lit.int .i64 (x.1)).wf = true ∧ (Lit.int .i64 (x.2.1)).wf = true ∧ (Lit.int .i64 (x.2.2.1)).wf = true ∧ (Lit.int .i64 (x.2.2.2.1)).wf = true ∧ (Lit.int .i64 (x.2.2.2.2.1)).wf = true ∧ (Lit.int .i64 (x.2.2.2.2.2)).wf = true
theorem set_e (A : List Value) (u0 u1 u2 u3 u4 u5 x0 x1 x2 x3 x4 x5 : Value) (L : List Value) (k : Nat) (h : A.length = k) : (((((((A ++ u0 :: u1 :: u2 :: u3 :: u4 :: u5 :: L).set k x0).set (k + 1) x1).set (k + 2) x2).set (k + 3) x3).set (k + 4) x4).set (k + 5) x5) = A ++ [x0, x1, x2, x3, x4, x5] ++ L := by
  subst h
  simp [List.set_append_right]
theorem split_e (r : List Value) (n : Nat) (h : r.length = (n + 1) * 6) : ∃ u0 u1 u2 u3 u4 u5 L, r = u0 :: u1 :: u2 :: u3 :: u4 :: u5 :: L ∧ L.length = n * 6 := by
  match r, h with
  | u0 :: u1 :: u2 :: u3 :: u4 :: u5 :: L, h => exact ⟨u0, u1, u2, u3, u4, u5, L, rfl, by simp only [List.length_cons] at h; omega⟩
  | [], h => simp at h <;> omega
  | [_], h => simp at h <;> omega
  | [_, _], h => simp at h <;> omega
  | [_, _, _], h => simp at h <;> omega
  | [_, _, _, _], h => simp at h <;> omega
  | [_, _, _, _, _], h => simp at h <;> omega
theorem eq_one (A : Int) (B : Int) (C : Int) (D : Int) (E : Int) (F : Int) (w : World) : Calls Try.prog 53 #[.agg #[.int .i64 A, .int .i64 B, .int .i64 C, .int .i64 D, .int .i64 E, .int .i64 F], .agg #[.int .i64 A, .int .i64 B, .int .i64 C, .int .i64 D, .int .i64 E, .int .i64 F]] w fun e w' => e = .returned (.bool true) ∧ Below w.heap.size w w' := by
  go_enter Try.func53, Try.ntmps53
  go_wp2
  go_ret
  exact ⟨rfl, ((Below.refl _ _).alloc (Nat.le_refl _) _).alloc (by simp) _⟩
set_option maxRecDepth 100000 in
set_option maxHeartbeats 2000000 in
theorem eq_any {v u : Value} {zs : List E} {w : World} (h : Is w v zs) (h' : Is w u zs) : Calls Try.prog 22 #[v, u] w fun e w' => e = .returned (.bool true) ∧ Below w.heap.size w w' := by
  obtain ⟨-, a, cap, rfl, hc, hm, -, hr⟩ := h
  obtain ⟨-, a', cap', rfl, hc', hm', -, hr'⟩ := h'
  unfold maxLen at hm hm'
  obtain ⟨n, hn⟩ : ∃ n, n = zs.length := ⟨_, rfl⟩
  rw [← hn] at hc hr hc' hr' ⊢
  have HN := hide hn
  clear hn
  go_enter Try.func22, Try.ntmps22
  go_wp2
  go_loopw [5] (fun i wr => ∃ (j : Nat), j ≤ n ∧ i = .int .i64 j ∧ Below w.heap.size w wr) (fun i _ => n - (intOf i).toNat)
  case atStart => exact ⟨0, Nat.zero_le _, rfl, Below.refl _ _⟩
  case round =>
    obtain ⟨j, hj, rfl, hbel⟩ := hrel
    have hsz := hbel.size
    by_cases hlt : j < n
    · obtain ⟨b, off, rfl, hl, hcells⟩ := hr (by omega)
      obtain ⟨b', off', rfl, hl', hcells'⟩ := hr' (by omega)
      have fa := flat_at zs j (by have := unhide HN; omega)
      obtain ⟨A, B, C, D, E, F, hX⟩ : ∃ A B C D E F, (A, B, C, D, E, F) = at' zs j := ⟨_, _, _, _, _, _, rfl⟩
      rw [← hX] at fa
      have hq0 : ∀ x : Cls wr.heap.size wr, x.val.cell? ⟨b, off + j * 6, none⟩ = some (.int .i64 A) := fun x => by rw [x.cell (by omega)]; exact (hbel.cell (p := ⟨b, _, none⟩) hl).trans (hcells (j * 6) _ fa.1)
      have hp0 : ∀ x : Cls wr.heap.size wr, x.val.cell? ⟨b', off' + j * 6, none⟩ = some (.int .i64 A) := fun x => by rw [x.cell (by omega)]; exact (hbel.cell (p := ⟨b', _, none⟩) hl').trans (hcells' (j * 6) _ fa.1)
      have hq1 : ∀ x : Cls wr.heap.size wr, x.val.cell? ⟨b, off + j * 6 + 1, none⟩ = some (.int .i64 B) := fun x => by rw [x.cell (by omega)]; exact (hbel.cell (p := ⟨b, _, none⟩) hl).trans (hcells (j * 6 + 1) _ fa.2.1)
      have hp1 : ∀ x : Cls wr.heap.size wr, x.val.cell? ⟨b', off' + j * 6 + 1, none⟩ = some (.int .i64 B) := fun x => by rw [x.cell (by omega)]; exact (hbel.cell (p := ⟨b', _, none⟩) hl').trans (hcells' (j * 6 + 1) _ fa.2.1)
      have hq2 : ∀ x : Cls wr.heap.size wr, x.val.cell? ⟨b, off + j * 6 + 2, none⟩ = some (.int .i64 C) := fun x => by rw [x.cell (by omega)]; exact (hbel.cell (p := ⟨b, _, none⟩) hl).trans (hcells (j * 6 + 2) _ fa.2.2.1)
      have hp2 : ∀ x : Cls wr.heap.size wr, x.val.cell? ⟨b', off' + j * 6 + 2, none⟩ = some (.int .i64 C) := fun x => by rw [x.cell (by omega)]; exact (hbel.cell (p := ⟨b', _, none⟩) hl').trans (hcells' (j * 6 + 2) _ fa.2.2.1)
      have hq3 : ∀ x : Cls wr.heap.size wr, x.val.cell? ⟨b, off + j * 6 + 3, none⟩ = some (.int .i64 D) := fun x => by rw [x.cell (by omega)]; exact (hbel.cell (p := ⟨b, _, none⟩) hl).trans (hcells (j * 6 + 3) _ fa.2.2.2.1)
      have hp3 : ∀ x : Cls wr.heap.size wr, x.val.cell? ⟨b', off' + j * 6 + 3, none⟩ = some (.int .i64 D) := fun x => by rw [x.cell (by omega)]; exact (hbel.cell (p := ⟨b', _, none⟩) hl').trans (hcells' (j * 6 + 3) _ fa.2.2.2.1)
      have hq4 : ∀ x : Cls wr.heap.size wr, x.val.cell? ⟨b, off + j * 6 + 4, none⟩ = some (.int .i64 E) := fun x => by rw [x.cell (by omega)]; exact (hbel.cell (p := ⟨b, _, none⟩) hl).trans (hcells (j * 6 + 4) _ fa.2.2.2.2.1)
      have hp4 : ∀ x : Cls wr.heap.size wr, x.val.cell? ⟨b', off' + j * 6 + 4, none⟩ = some (.int .i64 E) := fun x => by rw [x.cell (by omega)]; exact (hbel.cell (p := ⟨b', _, none⟩) hl').trans (hcells' (j * 6 + 4) _ fa.2.2.2.2.1)
      have hq5 : ∀ x : Cls wr.heap.size wr, x.val.cell? ⟨b, off + j * 6 + 5, none⟩ = some (.int .i64 F) := fun x => by rw [x.cell (by omega)]; exact (hbel.cell (p := ⟨b, _, none⟩) hl).trans (hcells (j * 6 + 5) _ fa.2.2.2.2.2)
      have hp5 : ∀ x : Cls wr.heap.size wr, x.val.cell? ⟨b', off' + j * 6 + 5, none⟩ = some (.int .i64 F) := fun x => by rw [x.cell (by omega)]; exact (hbel.cell (p := ⟨b', _, none⟩) hl').trans (hcells' (j * 6 + 5) _ fa.2.2.2.2.2)
      have hk0 : (0 : Int) ≤ (j : Int) := Int.natCast_nonneg _
      have hk1 : (j : Int) < (n : Int) := by omega
      clear hX fa
      have hne := cls_nonempty wr.heap.size wr
      go_wp2_with fail
      refine region_cls (by kernel_rfl) (by kernel_rfl) ?_
      repeat (go_big_quiet_step ((go_at_call 53; exact cls_call (Nat.le_refl _) (eq_one _ _ _ _ _ _ _))))
      refine wpQuiet_nil ?_
      rintro wq ⟨⟨_, hq⟩, rfl⟩
      go_wp2
      go_roundw
      case rel => exact ⟨j + 1, by omega, by go_num, hbel.trans (hq.mono hsz)⟩
      case measure => simp [intOf]; omega
    · go_wp2
      go_ret
      exact ⟨rfl, hbel⟩
def tot (zs : List E) : Nat := zs.length
end Go.Proofs.Ytogdllkbiibicaa.Win
