/- My own texts of one claim, laid together by program: WinLaw, WinFold. -/
import Derived.Test.YtogdllkbiibicaaG81f535c845
import Derived.ChangeArms
import Derived.Shelf.Abstract
/- What the laws' own helpers do with slices of impl.Win: they are copied, held against each other, and counted. -/
namespace Go.Proofs.Ytogdllkbiibicaa.Win
open Go.RowKit Rw
set_option linter.unusedVariables false
attribute [local go_sem ↓] Go.wp_at_zero Go.wp_at_succ
abbrev E := Int × Int × Int × Int × Int × Int
def fl (x : E) : List Value := [.int .i64 (x.1), .int .i64 (x.2.1), .int .i64 (x.2.2.1), .int .i64 (x.2.2.2.1), .int .i64 (x.2.2.2.2.1), .int .i64 (x.2.2.2.2.2)]
theorem flk (x : E) : (fl x).length = 6 := rfl
def at' (zs : List E) (i : Nat) : E := zs.getD i default
abbrev flat (zs : List E) : List Value := flatOf fl zs
abbrev Is (w : World) (v : Value) (zs : List E) : Prop := Lies w v zs.length 6 (flat zs)
theorem flat_length (zs : List E) : (flat zs).length = zs.length * 6 := flatOf_length flk zs
theorem flat_oneCell (zs : List E) : ∀ u ∈ flat zs, u.oneCell' = true := by
  intro u hu
  obtain ⟨x, _, hx⟩ := List.mem_flatMap.1 hu
  simp only [fl, List.mem_cons, List.not_mem_nil, or_false] at hx
  rcases hx with rfl | rfl | rfl | rfl | rfl | rfl <;> rfl
theorem at_get (zs : List E) (i : Nat) (h : i < zs.length) : at' zs i = zs[i] := by simp [at', List.getD, h]
theorem at_snoc (zs : List E) (i : Nat) (h : i < zs.length) : zs.take (i + 1) = zs.take i ++ [at' zs i] := by rw [List.take_succ_eq_append_getElem h, at_get zs i h]
theorem flat_at (zs : List E) (i : Nat) (h : i < zs.length) : (flat zs)[i * 6]? = some (.int .i64 ((at' zs i).1)) ∧ (flat zs)[i * 6 + 1]? = some (.int .i64 ((at' zs i).2.1)) ∧ (flat zs)[i * 6 + 2]? = some (.int .i64 ((at' zs i).2.2.1)) ∧ (flat zs)[i * 6 + 3]? = some (.int .i64 ((at' zs i).2.2.2.1)) ∧ (flat zs)[i * 6 + 4]? = some (.int .i64 ((at' zs i).2.2.2.2.1)) ∧ (flat zs)[i * 6 + 5]? = some (.int .i64 ((at' zs i).2.2.2.2.2)) := by
  rw [at_get zs i h]
  exact ⟨flatOf_get flk zs i 0 h (by omega), flatOf_get flk zs i 1 h (by omega), flatOf_get flk zs i 2 h (by omega), flatOf_get flk zs i 3 h (by omega), flatOf_get flk zs i 4 h (by omega), flatOf_get flk zs i 5 h (by omega)⟩
theorem is_of_own {w : World} {base : Nat} {v : Value} {zs : List E} (h : w.ownsRow base 52 6 v zs.length (flat zs)) : Is w v zs := lies_of_own h
theorem info_e : (Try.prog.info? 52).map (fun i => (i.zero, i.size, i.bytes)) = some (some (.agg #[.int .i64 0, .int .i64 0, .int .i64 0, .int .i64 0, .int .i64 0, .int .i64 0]), 6, 48) := by kernel_rfl
def good (x : E) : Prop := (Lit.int .i64 (x.1)).wf = true ∧ (Lit.int .i64 (x.2.1)).wf = true ∧ (Lit.int .i64 (x.2.2.1)).wf = true ∧ (Lit.int .i64 (x.2.2.2.1)).wf = true ∧ (Lit.int .i64 (x.2.2.2.2.1)).wf = true ∧ (Lit.int .i64 (x.2.2.2.2.2)).wf = true
theorem set_e (A : List Value) (u0 u1 u2 u3 u4 u5 x0 x1 x2 x3 x4 x5 : Value) (L : List Value) (k : Nat) (h : A.length = k) : (((((((A ++ u0 :: u1 :: u2 :: u3 :: u4 :: u5 :: L).set k x0).set (k + 1) x1).set (k + 2) x2).set (k + 3) x3).set (k + 4) x4).set (k + 5) x5) = A ++ [x0, x1, x2, x3, x4, x5] ++ L := by
  subst h
  simp [List.set_append_right]
theorem split_e (r : List Value) (n : Nat) (h : r.length = (n + 1) * 6) : ∃ u0 u1 u2 u3 u4 u5 L, r = u0 :: u1 :: u2 :: u3 :: u4 :: u5 :: L ∧ L.length = n * 6 := by
  match r, h with
  | u0 :: u1 :: u2 :: u3 :: u4 :: u5 :: L, h => exact ⟨u0, u1, u2, u3, u4, u5, L, rfl, by simp only [List.length_cons] at h; omega⟩
  | [], h => simp at h <;> omega
  | [_], h => simp at h <;> omega
  | [_, _], h => simp at h <;> omega
  | [_, _, _], h => simp at h <;> omega
  | [_, _, _, _], h => simp at h <;> omega
  | [_, _, _, _, _], h => simp at h <;> omega
theorem eq_one (A : Int) (B : Int) (C : Int) (D : Int) (E : Int) (F : Int) (w : World) : Calls Try.prog 53 #[.agg #[.int .i64 A, .int .i64 B, .int .i64 C, .int .i64 D, .int .i64 E, .int .i64 F], .agg #[.int .i64 A, .int .i64 B, .int .i64 C, .int .i64 D, .int .i64 E, .int .i64 F]] w fun e w' => e = .returned (.bool true) ∧ Below w.heap.size w w' := by
  go_enter Try.func53, Try.ntmps53
  go_wp2
  go_ret
  exact ⟨rfl, ((Below.refl _ _).alloc (Nat.le_refl _) _).alloc (by simp) _⟩
set_option maxRecDepth 100000 in
set_option maxHeartbeats 2000000 in
theorem eq_any {v u : Value} {zs : List E} {w : World} (h : Is w v zs) (h' : Is w u zs) : Calls Try.prog 22 #[v, u] w fun e w' => e = .returned (.bool true) ∧ Below w.heap.size w w' := by
  obtain ⟨-, a, cap, rfl, hc, hm, -, hr⟩ := h
  obtain ⟨-, a', cap', rfl, hc', hm', -, hr'⟩ := h'
  unfold maxLen at hm hm'
  obtain ⟨n, hn⟩ : ∃ n, n = zs.length := ⟨_, rfl⟩
  rw [← hn] at hc hr hc' hr' ⊢
  have HN := hide hn
  clear hn
  go_enter Try.func22, Try.ntmps22
  go_wp2
  go_loopw [5] (fun i wr => ∃ (j : Nat), j ≤ n ∧ i = .int .i64 j ∧ Below w.heap.size w wr) (fun i _ => n - (intOf i).toNat)
  case atStart => exact ⟨0, Nat.zero_le _, rfl, Below.refl _ _⟩
  case round =>
    obtain ⟨j, hj, rfl, hbel⟩ := hrel
    have hsz := hbel.size
    by_cases hlt : j < n
    · obtain ⟨b, off, rfl, hl, hcells⟩ := hr (by omega)
      obtain ⟨b', off', rfl, hl', hcells'⟩ := hr' (by omega)
      have fa := flat_at zs j (by have := unhide HN; omega)
      obtain ⟨A, B, C, D, E, F, hX⟩ : ∃ A B C D E F, (A, B, C, D, E, F) = at' zs j := ⟨_, _, _, _, _, _, rfl⟩
      rw [← hX] at fa
      have hq0 : ∀ x : Cls wr.heap.size wr, x.val.cell? ⟨b, off + j * 6, none⟩ = some (.int .i64 A) := fun x => by rw [x.cell (by omega)]; exact (hbel.cell (p := ⟨b, _, none⟩) hl).trans (hcells (j * 6) _ fa.1)
      have hp0 : ∀ x : Cls wr.heap.size wr, x.val.cell? ⟨b', off' + j * 6, none⟩ = some (.int .i64 A) := fun x => by rw [x.cell (by omega)]; exact (hbel.cell (p := ⟨b', _, none⟩) hl').trans (hcells' (j * 6) _ fa.1)
      have hq1 : ∀ x : Cls wr.heap.size wr, x.val.cell? ⟨b, off + j * 6 + 1, none⟩ = some (.int .i64 B) := fun x => by rw [x.cell (by omega)]; exact (hbel.cell (p := ⟨b, _, none⟩) hl).trans (hcells (j * 6 + 1) _ fa.2.1)
      have hp1 : ∀ x : Cls wr.heap.size wr, x.val.cell? ⟨b', off' + j * 6 + 1, none⟩ = some (.int .i64 B) := fun x => by rw [x.cell (by omega)]; exact (hbel.cell (p := ⟨b', _, none⟩) hl').trans (hcells' (j * 6 + 1) _ fa.2.1)
      have hq2 : ∀ x : Cls wr.heap.size wr, x.val.cell? ⟨b, off + j * 6 + 2, none⟩ = some (.int .i64 C) := fun x => by rw [x.cell (by omega)]; exact (hbel.cell (p := ⟨b, _, none⟩) hl).trans (hcells (j * 6 + 2) _ fa.2.2.1)
      have hp2 : ∀ x : Cls wr.heap.size wr, x.val.cell? ⟨b', off' + j * 6 + 2, none⟩ = some (.int .i64 C) := fun x => by rw [x.cell (by omega)]; exact (hbel.cell (p := ⟨b', _, none⟩) hl').trans (hcells' (j * 6 + 2) _ fa.2.2.1)
      have hq3 : ∀ x : Cls wr.heap.size wr, x.val.cell? ⟨b, off + j * 6 + 3, none⟩ = some (.int .i64 D) := fun x => by rw [x.cell (by omega)]; exact (hbel.cell (p := ⟨b, _, none⟩) hl).trans (hcells (j * 6 + 3) _ fa.2.2.2.1)
      have hp3 : ∀ x : Cls wr.heap.size wr, x.val.cell? ⟨b', off' + j * 6 + 3, none⟩ = some (.int .i64 D) := fun x => by rw [x.cell (by omega)]; exact (hbel.cell (p := ⟨b', _, none⟩) hl').trans (hcells' (j * 6 + 3) _ fa.2.2.2.1)
      have hq4 : ∀ x : Cls wr.heap.size wr, x.val.cell? ⟨b, off + j * 6 + 4, none⟩ = some (.int .i64 E) := fun x => by rw [x.cell (by omega)]; exact (hbel.cell (p := ⟨b, _, none⟩) hl).trans (hcells (j * 6 + 4) _ fa.2.2.2.2.1)
      have hp4 : ∀ x : Cls wr.heap.size wr, x.val.cell? ⟨b', off' + j * 6 + 4, none⟩ = some (.int .i64 E) := fun x => by rw [x.cell (by omega)]; exact (hbel.cell (p := ⟨b', _, none⟩) hl').trans (hcells' (j * 6 + 4) _ fa.2.2.2.2.1)
      have hq5 : ∀ x : Cls wr.heap.size wr, x.val.cell? ⟨b, off + j * 6 + 5, none⟩ = some (.int .i64 F) := fun x => by rw [x.cell (by omega)]; exact (hbel.cell (p := ⟨b, _, none⟩) hl).trans (hcells (j * 6 + 5) _ fa.2.2.2.2.2)
      have hp5 : ∀ x : Cls wr.heap.size wr, x.val.cell? ⟨b', off' + j * 6 + 5, none⟩ = some (.int .i64 F) := fun x => by rw [x.cell (by omega)]; exact (hbel.cell (p := ⟨b', _, none⟩) hl').trans (hcells' (j * 6 + 5) _ fa.2.2.2.2.2)
      have hk0 : (0 : Int) ≤ (j : Int) := Int.natCast_nonneg _
      have hk1 : (j : Int) < (n : Int) := by omega
      clear hX fa
      have hne := cls_nonempty wr.heap.size wr
      go_wp2_with fail
      refine region_cls (by kernel_rfl) (by kernel_rfl) ?_
      repeat (go_big_quiet_step ((go_at_call 53; exact cls_call (Nat.le_refl _) (eq_one _ _ _ _ _ _ _))))
      refine wpQuiet_nil ?_
      rintro wq ⟨⟨_, hq⟩, rfl⟩
      go_wp2
      go_roundw
      case rel => exact ⟨j + 1, by omega, by go_num, hbel.trans (hq.mono hsz)⟩
      case measure => simp [intOf]; omega
    · go_wp2
      go_ret
      exact ⟨rfl, hbel⟩
def tot (zs : List E) : Nat := zs.length
end Go.Proofs.Ytogdllkbiibicaa.Win

/- What the generic fold answers at slices of impl.Win, whatever its two functions are. -/
namespace Go.Proofs.Ytogdllkbiibicaa.Win
open Go.RowKit Rw
set_option linter.unusedVariables false
attribute [local go_sem ↓] Go.wp_at_zero Go.wp_at_succ
def fstep (al : E → E → Bool) (tg : E → E → E) (out : List E) (x : E) : List E := if h : out = [] then [x] else if al (out.getLast h) x = true then out.dropLast ++ [tg (out.getLast h) x] else out ++ [x]
def fold (al : E → E → Bool) (tg : E → E → E) (zs : List E) : List E := zs.foldl (fstep al tg) []
theorem fold_snoc (al : E → E → Bool) (tg : E → E → E) (zs : List E) (k : Nat) (h : k < zs.length) : fold al tg (zs.take (k + 1)) = fstep al tg (fold al tg (zs.take k)) (at' zs k) := by
  unfold fold; rw [at_snoc zs k h, List.foldl_append]; rfl
theorem fstep_nil (al : E → E → Bool) (tg : E → E → E) (x : E) : fstep al tg [] x = [x] := rfl
theorem fstep_same {al : E → E → Bool} (tg : E → E → E) (M : List E) {y x : E} (h : al y x = true) : fstep al tg (M ++ [y]) x = M ++ [tg y x] := by
  unfold fstep; rw [dif_neg (by simp)]; simp [h]
theorem fstep_new {al : E → E → Bool} (tg : E → E → E) (M : List E) {y x : E} (h : al y x = false) : fstep al tg (M ++ [y]) x = M ++ [y] ++ [x] := by
  unfold fstep; rw [dif_neg (by simp)]; simp [h]
theorem fstep_len (al : E → E → Bool) (tg : E → E → E) (L : List E) (x : E) : (fstep al tg L x).length ≤ L.length + 1 := by
  unfold fstep; split
  · simp
  · split <;> simp
theorem fold_len (al : E → E → Bool) (tg : E → E → E) (zs : List E) (k : Nat) (h : k ≤ zs.length) : (fold al tg (zs.take k)).length ≤ k := by
  induction k with
  | zero => simp [fold]
  | succ k ih => rw [fold_snoc al tg zs k (by omega)]; have := fstep_len al tg (fold al tg (zs.take k)) (at' zs k); have := ih (by omega); omega
theorem snoc_of {α : Type} (L : List α) (h : L ≠ []) : ∃ M y, L = M ++ [y] := ⟨L.dropLast, L.getLast h, (List.dropLast_concat_getLast h).symm⟩
theorem set_last (M : List E) (Y0 Y1 Y2 Y3 Y4 Y5 Z0 Z1 Z2 Z3 Z4 Z5 : Int) (m : Nat) (hm : m = M.length) : ((((((flat (M ++ [(Y0, Y1, Y2, Y3, Y4, Y5)])).set (m * 6) (.int .i64 Z0)).set (m * 6 + 1) (.int .i64 Z1)).set (m * 6 + 2) (.int .i64 Z2)).set (m * 6 + 3) (.int .i64 Z3)).set (m * 6 + 4) (.int .i64 Z4)).set (m * 6 + 5) (.int .i64 Z5) = flat (M ++ [(Z0, Z1, Z2, Z3, Z4, Z5)]) := by
  subst hm
  unfold flat
  rw [flatOf_append, flatOf_append, flatOf_one, flatOf_one]
  have := set_e (flatOf fl M) (.int .i64 Y0) (.int .i64 Y1) (.int .i64 Y2) (.int .i64 Y3) (.int .i64 Y4) (.int .i64 Y5) (.int .i64 Z0) (.int .i64 Z1) (.int .i64 Z2) (.int .i64 Z3) (.int .i64 Z4) (.int .i64 Z5) [] (M.length * 6) (by rw [flatOf_length flk])
  simpa [fl] using this
set_option maxRecDepth 100000 in
set_option maxHeartbeats 4000000 in
theorem folded_any {w : World} {v : Value} {zs : List E} (al : E → E → Bool) (tg : E → E → E) (g f : Nat) (cs : Array Value) (eg : ∀ args w, (callFunc g args).run Try.prog w = .ok (.enter g args) w) (ef : ∀ args w, (callFunc f args).run Try.prog w = .ok (.enter f args) w)
    (HK : Hid (∀ X0 X1 X2 X3 X4 X5 Y0 Y1 Y2 Y3 Y4 Y5 W, Below w.heap.size w W → Calls Try.prog g (#[.agg #[.int .i64 X0, .int .i64 X1, .int .i64 X2, .int .i64 X3, .int .i64 X4, .int .i64 X5], .agg #[.int .i64 Y0, .int .i64 Y1, .int .i64 Y2, .int .i64 Y3, .int .i64 Y4, .int .i64 Y5]] ++ cs) W fun e w' => e = .returned (.bool (al (X0, X1, X2, X3, X4, X5) (Y0, Y1, Y2, Y3, Y4, Y5))) ∧ Below W.heap.size W w'))
    (HT : Hid (∀ X0 X1 X2 X3 X4 X5 Y0 Y1 Y2 Y3 Y4 Y5 Z0 Z1 Z2 Z3 Z4 Z5 W, tg (X0, X1, X2, X3, X4, X5) (Y0, Y1, Y2, Y3, Y4, Y5) = (Z0, Z1, Z2, Z3, Z4, Z5) → Below w.heap.size w W → Calls Try.prog f #[.agg #[.int .i64 X0, .int .i64 X1, .int .i64 X2, .int .i64 X3, .int .i64 X4, .int .i64 X5], .agg #[.int .i64 Y0, .int .i64 Y1, .int .i64 Y2, .int .i64 Y3, .int .i64 Y4, .int .i64 Y5]] W fun e w' => e = .returned (.agg #[.int .i64 Z0, .int .i64 Z1, .int .i64 Z2, .int .i64 Z3, .int .i64 Z4, .int .i64 Z5]) ∧ Below W.heap.size W w'))
    (h : Is w v zs) (hn : zs.length ≤ 4194304) :
    Calls Try.prog 50 #[v, .func (.func g) #[] cs, .func (.func f) #[] #[]] w fun e w' => ∃ r, e = .returned r ∧ w'.ownsRow w.heap.size 52 6 r (fold al tg zs).length (flat (fold al tg zs)) ∧ Below w.heap.size w w' := by
  obtain ⟨i0, hi, hz0, hz1, hz2⟩ := info_parts info_e
  obtain ⟨-, a, cap, rfl, hc, hm, -, hr⟩ := id h
  obtain ⟨n, hnn⟩ : ∃ n, n = zs.length := ⟨_, rfl⟩
  rw [← hnn] at hc hr hn ⊢
  have HN := hide hnn
  unfold maxLen at hm
  clear hnn h
  go_enter Try.func50, Try.ntmps50
  go_wp2_with fail
  go_loopw [7, 13] (fun ov i wr => ∃ (k : Nat) (L : List E) (ao : Option Addr) (qo : Nat), k ≤ n ∧ i = .int .i64 k ∧ ov = .slice ao L.length qo ∧ L = fold al tg (zs.take k) ∧ wr.ownsRow w.heap.size 52 6 ov L.length (flat L) ∧ Below w.heap.size w wr) (fun _ i _ => n - (intOf i).toNat)
  case atStart => exact ⟨0, [], none, 0, Nat.zero_le _, rfl, rfl, by simp [fold], World.ownsRow_nil _ _ _ _, Below.refl _ _⟩
  case round =>
    obtain ⟨k, L, ao, qo, hk, rfl, rfl, hL, hown, hbel⟩ := hrel
    have hsz := hbel.size
    by_cases hlt : k < n
    · have hLk := fold_len al tg zs k (by have := unhide HN; omega)
      rw [← hL] at hLk
      have HS := hide (fold_snoc al tg zs k (by have := unhide HN; omega))
      rw [← hL] at HS
      obtain ⟨b, off, rfl, hbl, hcells⟩ := hr (by omega)
      have fa := flat_at zs k (by have := unhide HN; omega)
      have hc0 : wr.cell? ⟨b, off + k * 6, none⟩ = some (.int .i64 ((at' zs k).1)) := (hbel.cell (p := ⟨b, _, none⟩) hbl).trans (hcells (k * 6) _ (fa.1))
      have hc1 : wr.cell? ⟨b, off + k * 6 + 1, none⟩ = some (.int .i64 ((at' zs k).2.1)) := (hbel.cell (p := ⟨b, _, none⟩) hbl).trans (hcells (k * 6 + 1) _ (fa.2.1))
      have hc2 : wr.cell? ⟨b, off + k * 6 + 2, none⟩ = some (.int .i64 ((at' zs k).2.2.1)) := (hbel.cell (p := ⟨b, _, none⟩) hbl).trans (hcells (k * 6 + 2) _ (fa.2.2.1))
      have hc3 : wr.cell? ⟨b, off + k * 6 + 3, none⟩ = some (.int .i64 ((at' zs k).2.2.2.1)) := (hbel.cell (p := ⟨b, _, none⟩) hbl).trans (hcells (k * 6 + 3) _ (fa.2.2.2.1))
      have hc4 : wr.cell? ⟨b, off + k * 6 + 4, none⟩ = some (.int .i64 ((at' zs k).2.2.2.2.1)) := (hbel.cell (p := ⟨b, _, none⟩) hbl).trans (hcells (k * 6 + 4) _ (fa.2.2.2.2.1))
      have hc5 : wr.cell? ⟨b, off + k * 6 + 5, none⟩ = some (.int .i64 ((at' zs k).2.2.2.2.2)) := (hbel.cell (p := ⟨b, _, none⟩) hbl).trans (hcells (k * 6 + 5) _ (fa.2.2.2.2.2))
      obtain ⟨X0, X1, X2, X3, X4, X5, hX⟩ : ∃ X0 X1 X2 X3 X4 X5, (X0, X1, X2, X3, X4, X5) = at' zs k := ⟨_, _, _, _, _, _, rfl⟩
      rw [← hX] at hc0 hc1 hc2 hc3 hc4 hc5 HS
      have HX := hide hX
      clear fa hX hL
      have hk0 : (0 : Int) ≤ (k : Int) := Int.natCast_nonneg _
      have hk1 : (k : Int) < (n : Int) := by omega
      obtain ⟨W, hW⟩ : ∃ W, W = wr.alloc (.cells #[.int .i64 X0, .int .i64 X1, .int .i64 X2, .int .i64 X3, .int .i64 X4, .int .i64 X5] 52) := ⟨_, rfl⟩
      have hWb : Below w.heap.size w W := by rw [hW]; exact hbel.alloc hsz _
      have hWo : W.ownsRow w.heap.size 52 6 (.slice ao L.length qo) L.length (flat L) := by rw [hW]; exact hown.alloc _
      have HWs := hide (show W.heap.size = wr.heap.size + 1 by rw [hW]; simp)
      have hWs : wr.heap.size < W.heap.size := by rw [unhide HWs]; omega
      have hn0 : W.cell? ⟨wr.heap.size, 0, none⟩ = some (.int .i64 X0) := by rw [hW]; simp
      have hn1 : W.cell? ⟨wr.heap.size, 1, none⟩ = some (.int .i64 X1) := by rw [hW]; simp
      have hn2 : W.cell? ⟨wr.heap.size, 2, none⟩ = some (.int .i64 X2) := by rw [hW]; simp
      have hn3 : W.cell? ⟨wr.heap.size, 3, none⟩ = some (.int .i64 X3) := by rw [hW]; simp
      have hn4 : W.cell? ⟨wr.heap.size, 4, none⟩ = some (.int .i64 X4) := by rw [hW]; simp
      have hn5 : W.cell? ⟨wr.heap.size, 5, none⟩ = some (.int .i64 X5) := by rw [hW]; simp
      have HW := hide hW
      clear hW hown
      have hq0 : ∀ x : Cls W.heap.size W, x.val.cell? ⟨wr.heap.size, 0, none⟩ = some (.int .i64 X0) := fun x => by rw [x.cell hWs]; exact hn0
      have hq1 : ∀ x : Cls W.heap.size W, x.val.cell? ⟨wr.heap.size, 1, none⟩ = some (.int .i64 X1) := fun x => by rw [x.cell hWs]; exact hn1
      have hq2 : ∀ x : Cls W.heap.size W, x.val.cell? ⟨wr.heap.size, 2, none⟩ = some (.int .i64 X2) := fun x => by rw [x.cell hWs]; exact hn2
      have hq3 : ∀ x : Cls W.heap.size W, x.val.cell? ⟨wr.heap.size, 3, none⟩ = some (.int .i64 X3) := fun x => by rw [x.cell hWs]; exact hn3
      have hq4 : ∀ x : Cls W.heap.size W, x.val.cell? ⟨wr.heap.size, 4, none⟩ = some (.int .i64 X4) := fun x => by rw [x.cell hWs]; exact hn4
      have hq5 : ∀ x : Cls W.heap.size W, x.val.cell? ⟨wr.heap.size, 5, none⟩ = some (.int .i64 X5) := fun x => by rw [x.cell hWs]; exact hn5
      have hne := cls_nonempty W.heap.size W
      by_cases hLe : L = []
      · subst hLe
        have HF := hide (show fold al tg (zs.take (k + 1)) = [] ++ [(X0, X1, X2, X3, X4, X5)] by rw [unhide HS, fstep_nil]; rfl)
        clear HS
        simp only [List.length_nil] at hWo ⊢
        go_wp2_with fail
        rw [← unhide HW]
        refine region_cls (by kernel_rfl) (by kernel_rfl) ?_
        repeat (go_big_quiet_step ((fail)))
        refine wpQuiet_nil ?_
        rintro wq ⟨⟨_, hq⟩, rfl⟩
        have cq := hWb.trans (hq.mono hWb.size)
        have oq := own_below hWo hq
        have hsq := cq.size
        have hm0 : wq.cell? ⟨wr.heap.size, 0, none⟩ = some (.int .i64 X0) := (hq.cell (p := ⟨wr.heap.size, 0, none⟩) hWs).trans hn0
        have hm1 : wq.cell? ⟨wr.heap.size, 1, none⟩ = some (.int .i64 X1) := (hq.cell (p := ⟨wr.heap.size, 1, none⟩) hWs).trans hn1
        have hm2 : wq.cell? ⟨wr.heap.size, 2, none⟩ = some (.int .i64 X2) := (hq.cell (p := ⟨wr.heap.size, 2, none⟩) hWs).trans hn2
        have hm3 : wq.cell? ⟨wr.heap.size, 3, none⟩ = some (.int .i64 X3) := (hq.cell (p := ⟨wr.heap.size, 3, none⟩) hWs).trans hn3
        have hm4 : wq.cell? ⟨wr.heap.size, 4, none⟩ = some (.int .i64 X4) := (hq.cell (p := ⟨wr.heap.size, 4, none⟩) hWs).trans hn4
        have hm5 : wq.cell? ⟨wr.heap.size, 5, none⟩ = some (.int .i64 X5) := (hq.cell (p := ⟨wr.heap.size, 5, none⟩) hWs).trans hn5
        go_wp2_with (at_builtin; refine app_wp _ rfl _ _ _ rfl w.heap.size 52 i0 _ 6 48 Try.underlying32 hi hz0 hz1 hz2 rfl (by omega) _ _ _ rfl (oq.alloc _) _ 1 [.int .i64 X0, .int .i64 X1, .int .i64 X2, .int .i64 X3, .int .i64 X4, .int .i64 X5] rfl (lies_new rfl rfl (by unfold maxLen; omega)) (by simp [Value.oneCell']) (by unfold maxLen; omega) (by omega) (by simp; omega) ?_; intro vn wn on gn an)
        have R9 := below_grown (cq.alloc hsq _) (by simp; omega) gn (own_ge oq)
        have R2 : wn.ownsRow w.heap.size 52 6 vn (([] : List E) ++ [(X0, X1, X2, X3, X4, X5)]).length (flat (([] : List E) ++ [(X0, X1, X2, X3, X4, X5)])) := by unfold flat; rw [flatOf_append, flatOf_one, List.length_append]; exact on
        obtain ⟨an', qn', evn⟩ : ∃ a q, vn = Value.slice a (([] : List E) ++ [(X0, X1, X2, X3, X4, X5)]).length q := by obtain ⟨-, a, q, e, -⟩ := lies_of_own R2; exact ⟨a, q, e⟩
        clear on gn an
        go_wp2_with fail
        go_roundw
        case rel => exact ⟨k + 1, _, _, _, by omega, by go_num, evn, (unhide HF).symm, R2, R9⟩
        case measure => simp [intOf]; omega
      · obtain ⟨M, y, rfl⟩ := snoc_of L hLe
        obtain ⟨Y0, Y1, Y2, Y3, Y4, Y5⟩ := y
        clear hLe
        obtain ⟨m, hm'⟩ : ∃ m, m = M.length := ⟨_, rfl⟩
        have hlen : (M ++ [(Y0, Y1, Y2, Y3, Y4, Y5)]).length = m + 1 := by rw [List.length_append, hm']; rfl
        rw [hlen] at hWo hLk ⊢
        have HM := hide hm'
        have HLn := hide hlen
        clear hm' hlen
        obtain ⟨gb, rfl⟩ : ∃ gb, ao = some ⟨gb, 0, none⟩ := by
          rcases hWo.2 with ⟨h1, _⟩ | ⟨gb, cp, cu, h1, -⟩
          · simp at h1
          · exact ⟨gb, by simp only [Value.slice.injEq] at h1; exact h1.1⟩
        have hgl := own_lt hWo
        have hgg := own_ge hWo gb rfl
        have hqo : m + 1 ≤ qo ∧ qo ≤ 9223372036854775807 := by
          obtain ⟨-, a', c', h1, h2, h3, -⟩ := lies_of_own hWo
          simp only [Value.slice.injEq] at h1
          unfold maxLen at h3
          omega
        have fy := flat_at (M ++ [(Y0, Y1, Y2, Y3, Y4, Y5)]) m (by rw [unhide HLn]; omega)
        have ey : at' (M ++ [(Y0, Y1, Y2, Y3, Y4, Y5)]) m = (Y0, Y1, Y2, Y3, Y4, Y5) := by rw [at_get _ _ (by rw [unhide HLn]; omega)]; simp [unhide HM]
        rw [ey] at fy
        have hy0 : W.cell? ⟨gb, m * 6, none⟩ = some (.int .i64 Y0) := by rw [hWo.cellAt (m * 6) (by omega)]; exact fy.1
        have hy1 : W.cell? ⟨gb, m * 6 + 1, none⟩ = some (.int .i64 Y1) := by rw [hWo.cellAt (m * 6 + 1) (by omega)]; exact fy.2.1
        have hy2 : W.cell? ⟨gb, m * 6 + 2, none⟩ = some (.int .i64 Y2) := by rw [hWo.cellAt (m * 6 + 2) (by omega)]; exact fy.2.2.1
        have hy3 : W.cell? ⟨gb, m * 6 + 3, none⟩ = some (.int .i64 Y3) := by rw [hWo.cellAt (m * 6 + 3) (by omega)]; exact fy.2.2.2.1
        have hy4 : W.cell? ⟨gb, m * 6 + 4, none⟩ = some (.int .i64 Y4) := by rw [hWo.cellAt (m * 6 + 4) (by omega)]; exact fy.2.2.2.2.1
        have hy5 : W.cell? ⟨gb, m * 6 + 5, none⟩ = some (.int .i64 Y5) := by rw [hWo.cellAt (m * 6 + 5) (by omega)]; exact fy.2.2.2.2.2
        have qy0 : ∀ x : Cls W.heap.size W, x.val.cell? ⟨gb, m * 6, none⟩ = some (.int .i64 Y0) := fun x => by rw [x.cell hgl]; exact hy0
        have qy1 : ∀ x : Cls W.heap.size W, x.val.cell? ⟨gb, m * 6 + 1, none⟩ = some (.int .i64 Y1) := fun x => by rw [x.cell hgl]; exact hy1
        have qy2 : ∀ x : Cls W.heap.size W, x.val.cell? ⟨gb, m * 6 + 2, none⟩ = some (.int .i64 Y2) := fun x => by rw [x.cell hgl]; exact hy2
        have qy3 : ∀ x : Cls W.heap.size W, x.val.cell? ⟨gb, m * 6 + 3, none⟩ = some (.int .i64 Y3) := fun x => by rw [x.cell hgl]; exact hy3
        have qy4 : ∀ x : Cls W.heap.size W, x.val.cell? ⟨gb, m * 6 + 4, none⟩ = some (.int .i64 Y4) := fun x => by rw [x.cell hgl]; exact hy4
        have qy5 : ∀ x : Cls W.heap.size W, x.val.cell? ⟨gb, m * 6 + 5, none⟩ = some (.int .i64 Y5) := fun x => by rw [x.cell hgl]; exact hy5
        clear fy ey
        have hm0 : (0 : Int) ≤ (m : Int) := Int.natCast_nonneg _
        have HKx := hide (fun (x : Cls W.heap.size W) => unhide HK Y0 Y1 Y2 Y3 Y4 Y5 X0 X1 X2 X3 X4 X5 x.val (hWb.trans (x.isBelow.mono hWb.size)))
        cases hal : al (Y0, Y1, Y2, Y3, Y4, Y5) (X0, X1, X2, X3, X4, X5)
        · have HF := hide (show fold al tg (zs.take (k + 1)) = (M ++ [(Y0, Y1, Y2, Y3, Y4, Y5)]) ++ [(X0, X1, X2, X3, X4, X5)] by rw [unhide HS, fstep_new tg M hal])
          rw [hal] at HKx
          clear hal HS
          go_wp2_with fail
          rw [← unhide HW]
          refine region_cls (by kernel_rfl) (by kernel_rfl) ?_
          repeat (go_big_quiet_step ((go_at_fn g; exact cls_call (Nat.le_refl _) (unhide HKx _))))
          refine wpQuiet_nil ?_
          rintro wq ⟨⟨_, hq⟩, rfl⟩
          have cq := hWb.trans (hq.mono hWb.size)
          have oq := own_below hWo hq
          have hsq := cq.size
          have hm0 : wq.cell? ⟨wr.heap.size, 0, none⟩ = some (.int .i64 X0) := (hq.cell (p := ⟨wr.heap.size, 0, none⟩) hWs).trans hn0
          have hm1 : wq.cell? ⟨wr.heap.size, 1, none⟩ = some (.int .i64 X1) := (hq.cell (p := ⟨wr.heap.size, 1, none⟩) hWs).trans hn1
          have hm2 : wq.cell? ⟨wr.heap.size, 2, none⟩ = some (.int .i64 X2) := (hq.cell (p := ⟨wr.heap.size, 2, none⟩) hWs).trans hn2
          have hm3 : wq.cell? ⟨wr.heap.size, 3, none⟩ = some (.int .i64 X3) := (hq.cell (p := ⟨wr.heap.size, 3, none⟩) hWs).trans hn3
          have hm4 : wq.cell? ⟨wr.heap.size, 4, none⟩ = some (.int .i64 X4) := (hq.cell (p := ⟨wr.heap.size, 4, none⟩) hWs).trans hn4
          have hm5 : wq.cell? ⟨wr.heap.size, 5, none⟩ = some (.int .i64 X5) := (hq.cell (p := ⟨wr.heap.size, 5, none⟩) hWs).trans hn5
          have oq := (show wq.ownsRow w.heap.size 52 6 (.slice (some ⟨gb, 0, none⟩) (m + 1) qo) (m + 1) (flat (M ++ [(Y0, Y1, Y2, Y3, Y4, Y5)])) from oq)
          go_wp2_with (at_builtin; refine app_wp _ rfl _ _ _ rfl w.heap.size 52 i0 _ 6 48 Try.underlying32 hi hz0 hz1 hz2 rfl (by omega) _ _ _ rfl (oq.alloc _) _ 1 [.int .i64 X0, .int .i64 X1, .int .i64 X2, .int .i64 X3, .int .i64 X4, .int .i64 X5] rfl (lies_new rfl rfl (by unfold maxLen; omega)) (by simp [Value.oneCell']) (by unfold maxLen; omega) (by omega) (by simp; omega) ?_; intro vn wn on gn an)
          have R9 := below_grown (cq.alloc hsq _) (by simp; omega) gn (own_ge oq)
          have R2 : wn.ownsRow w.heap.size 52 6 vn ((M ++ [(Y0, Y1, Y2, Y3, Y4, Y5)]) ++ [(X0, X1, X2, X3, X4, X5)]).length (flat ((M ++ [(Y0, Y1, Y2, Y3, Y4, Y5)]) ++ [(X0, X1, X2, X3, X4, X5)])) := by unfold flat; rw [flatOf_append, flatOf_one, List.length_append, unhide HLn]; exact on
          obtain ⟨an', qn', evn⟩ : ∃ a q, vn = Value.slice a ((M ++ [(Y0, Y1, Y2, Y3, Y4, Y5)]) ++ [(X0, X1, X2, X3, X4, X5)]).length q := by obtain ⟨-, a, q, e, -⟩ := lies_of_own R2; exact ⟨a, q, e⟩
          clear on gn an
          go_wp2_with fail
          go_roundw
          case rel => exact ⟨k + 1, _, _, _, by omega, by go_num, evn, (unhide HF).symm, R2, R9⟩
          case measure => simp [intOf]; omega
        · have HF := hide (show fold al tg (zs.take (k + 1)) = M ++ [tg (Y0, Y1, Y2, Y3, Y4, Y5) (X0, X1, X2, X3, X4, X5)] by rw [unhide HS, fstep_same tg M hal])
          rw [hal] at HKx
          clear hal HS
          go_wp2_with fail
          rw [← unhide HW]
          refine region_cls (by kernel_rfl) (by kernel_rfl) ?_
          repeat (go_big_quiet_step ((go_at_fn g; exact cls_call (Nat.le_refl _) (unhide HKx _))))
          refine wpQuiet_nil ?_
          rintro wq ⟨⟨_, hq⟩, rfl⟩
          have cq := hWb.trans (hq.mono hWb.size)
          have oq := own_below hWo hq
          have hsq := cq.size
          have hm0 : wq.cell? ⟨wr.heap.size, 0, none⟩ = some (.int .i64 X0) := (hq.cell (p := ⟨wr.heap.size, 0, none⟩) hWs).trans hn0
          have hm1 : wq.cell? ⟨wr.heap.size, 1, none⟩ = some (.int .i64 X1) := (hq.cell (p := ⟨wr.heap.size, 1, none⟩) hWs).trans hn1
          have hm2 : wq.cell? ⟨wr.heap.size, 2, none⟩ = some (.int .i64 X2) := (hq.cell (p := ⟨wr.heap.size, 2, none⟩) hWs).trans hn2
          have hm3 : wq.cell? ⟨wr.heap.size, 3, none⟩ = some (.int .i64 X3) := (hq.cell (p := ⟨wr.heap.size, 3, none⟩) hWs).trans hn3
          have hm4 : wq.cell? ⟨wr.heap.size, 4, none⟩ = some (.int .i64 X4) := (hq.cell (p := ⟨wr.heap.size, 4, none⟩) hWs).trans hn4
          have hm5 : wq.cell? ⟨wr.heap.size, 5, none⟩ = some (.int .i64 X5) := (hq.cell (p := ⟨wr.heap.size, 5, none⟩) hWs).trans hn5
          have my0 : wq.cell? ⟨gb, m * 6, none⟩ = some (.int .i64 Y0) := (hq.cell (p := ⟨gb, _, none⟩) hgl).trans hy0
          have my1 : wq.cell? ⟨gb, m * 6 + 1, none⟩ = some (.int .i64 Y1) := (hq.cell (p := ⟨gb, _, none⟩) hgl).trans hy1
          have my2 : wq.cell? ⟨gb, m * 6 + 2, none⟩ = some (.int .i64 Y2) := (hq.cell (p := ⟨gb, _, none⟩) hgl).trans hy2
          have my3 : wq.cell? ⟨gb, m * 6 + 3, none⟩ = some (.int .i64 Y3) := (hq.cell (p := ⟨gb, _, none⟩) hgl).trans hy3
          have my4 : wq.cell? ⟨gb, m * 6 + 4, none⟩ = some (.int .i64 Y4) := (hq.cell (p := ⟨gb, _, none⟩) hgl).trans hy4
          have my5 : wq.cell? ⟨gb, m * 6 + 5, none⟩ = some (.int .i64 Y5) := (hq.cell (p := ⟨gb, _, none⟩) hgl).trans hy5
          obtain ⟨Z0, Z1, Z2, Z3, Z4, Z5, hZ⟩ : ∃ Z0 Z1 Z2 Z3 Z4 Z5, tg (Y0, Y1, Y2, Y3, Y4, Y5) (X0, X1, X2, X3, X4, X5) = (Z0, Z1, Z2, Z3, Z4, Z5) := ⟨_, _, _, _, _, _, rfl⟩
          rw [hZ] at HF
          have HTx := hide (fun W' (hb : Below w.heap.size w W') => unhide HT Y0 Y1 Y2 Y3 Y4 Y5 X0 X1 X2 X3 X4 X5 Z0 Z1 Z2 Z3 Z4 Z5 W' hZ hb)
          have OQ := hide oq
          clear hZ oq hne hq0 qy0 hq1 qy1 hq2 qy2 hq3 qy3 hq4 qy4 hq5 qy5 hWo
          have HT3 := hide (show Calls Try.prog f #[.agg #[.int .i64 Y0, .int .i64 Y1, .int .i64 Y2, .int .i64 Y3, .int .i64 Y4, .int .i64 Y5], .agg #[.int .i64 X0, .int .i64 X1, .int .i64 X2, .int .i64 X3, .int .i64 X4, .int .i64 X5]] wq.drew fun e w' => e = .returned (.agg #[.int .i64 Z0, .int .i64 Z1, .int .i64 Z2, .int .i64 Z3, .int .i64 Z4, .int .i64 Z5]) ∧ Below wq.heap.size wq w' from (unhide HTx _ cq.drew).mono fun e w' h => ⟨h.1, (Below.refl _ _).drew.trans h.2⟩)
          have hgq : gb < wq.heap.size := by have := hq.size; omega
          go_wp2_with fail
          go_region_with (go_at_fn f; refine (unhide HT3).mono ?_; rintro e w3 ⟨rfl, hb3⟩; have o3 := own_below (unhide OQ) hb3; have hd0 : w3.cell? ⟨gb, m * 6, none⟩ = some (.int .i64 Y0) := (hb3.cell (p := ⟨gb, _, none⟩) hgq).trans my0; have hf0 := o3.frozenAt (m * 6); have hd1 : w3.cell? ⟨gb, m * 6 + 1, none⟩ = some (.int .i64 Y1) := (hb3.cell (p := ⟨gb, _, none⟩) hgq).trans my1; have hf1 := o3.frozenAt (m * 6 + 1); have hd2 : w3.cell? ⟨gb, m * 6 + 2, none⟩ = some (.int .i64 Y2) := (hb3.cell (p := ⟨gb, _, none⟩) hgq).trans my2; have hf2 := o3.frozenAt (m * 6 + 2); have hd3 : w3.cell? ⟨gb, m * 6 + 3, none⟩ = some (.int .i64 Y3) := (hb3.cell (p := ⟨gb, _, none⟩) hgq).trans my3; have hf3 := o3.frozenAt (m * 6 + 3); have hd4 : w3.cell? ⟨gb, m * 6 + 4, none⟩ = some (.int .i64 Y4) := (hb3.cell (p := ⟨gb, _, none⟩) hgq).trans my4; have hf4 := o3.frozenAt (m * 6 + 4); have hd5 : w3.cell? ⟨gb, m * 6 + 5, none⟩ = some (.int .i64 Y5) := (hb3.cell (p := ⟨gb, _, none⟩) hgq).trans my5; have hf5 := o3.frozenAt (m * 6 + 5); have c3 := cq.trans (hb3.mono cq.size))
          all_goals
            have o4 := (o3.stored (m * 6) (.int .i64 Z0)).1
            have o5 := (o4.stored (m * 6 + 1) (.int .i64 Z1)).1
            have o6 := (o5.stored (m * 6 + 2) (.int .i64 Z2)).1
            have o7 := (o6.stored (m * 6 + 3) (.int .i64 Z3)).1
            have o8 := (o7.stored (m * 6 + 4) (.int .i64 Z4)).1
            have o9 := (o8.stored (m * 6 + 5) (.int .i64 Z5)).1
            rw [set_last M Y0 Y1 Y2 Y3 Y4 Y5 Z0 Z1 Z2 Z3 Z4 Z5 m (unhide HM)] at o9
            have R := hide ((((((c3.setCell (p := ⟨gb, m * 6, none⟩) hgg (.int .i64 Z0)).setCell (p := ⟨gb, m * 6 + 1, none⟩) hgg (.int .i64 Z1)).setCell (p := ⟨gb, m * 6 + 2, none⟩) hgg (.int .i64 Z2)).setCell (p := ⟨gb, m * 6 + 3, none⟩) hgg (.int .i64 Z3)).setCell (p := ⟨gb, m * 6 + 4, none⟩) hgg (.int .i64 Z4)).setCell (p := ⟨gb, m * 6 + 5, none⟩) hgg (.int .i64 Z5))
            have O := hide o9
            clear o4 hd0 hf0 o5 hd1 hf1 o6 hd2 hf2 o7 hd3 hf3 o8 hd4 hf4 o9 hd5 hf5 c3 o3
            have HL2 := hide (show (M ++ [(Z0, Z1, Z2, Z3, Z4, Z5)]).length = m + 1 by rw [List.length_append, unhide HM]; rfl)
            go_wp2_with fail
            go_roundw
            case rel => exact ⟨k + 1, M ++ [(Z0, Z1, Z2, Z3, Z4, Z5)], _, _, by omega, by go_num, by rw [unhide HL2], (unhide HF).symm, by rw [unhide HL2]; exact unhide O, unhide R⟩
            case measure => simp [intOf]; omega
    · go_wp2
      go_ret
      exact ⟨_, rfl, by rw [List.take_of_length_le (by have := unhide HN; omega)] at hL; subst hL; exact hown, hbel⟩
end Go.Proofs.Ytogdllkbiibicaa.Win
