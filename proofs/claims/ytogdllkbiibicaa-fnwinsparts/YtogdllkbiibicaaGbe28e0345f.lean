/- My own texts of one claim, laid together by program: WinFold, WinMath3. -/
import Derived.Test.YtogdllkbiibicaaG2f43a2a56a
import Derived.Shelf.Abstract
import Derived.Test.YtogdllkbiibicaaGb5b4378c4e
import Derived.Test.YtogdllkbiibicaaGb52c530028
/- What the generic fold answers at slices of impl.Win, whatever its two functions are. -/
namespace Go.Proofs.Ytogdllkbiibicaa.Win
open Go.RowKit Rw
set_option linter.unusedVariables false
attribute [local go_sem ↓] Go.wp_at_zero Go.wp_at_succ
def fstep (al : E → E → Bool) (tg : E → E → E) (out : List E) (x : E) : List E := if h : out = [] then [x] else if al (out.getLast h) x = true then out.dropLast ++ [tg (out.getLast h) x] else out ++ [x]
def fold (al : E → E → Bool) (tg : E → E → E) (zs : List E) : List E := zs.foldl (fstep al tg) []
theorem fold_snoc (al : E → E → Bool) (tg : E → E → E) (zs : List E) (k : Nat) (h : k < zs.length) : fold al tg (zs.take (k + 1)) = fstep al tg (fold al tg (zs.take k)) (at' zs k) := by
  unfold fold; rw [at_snoc zs k h, List.foldl_append]; rfl
theorem fstep_nil (al : E → E → Bool) (tg : E → E → E) (x : E) : fstep al tg [] x = [x] := rfl
theorem fstep_same {al : E → E → Bool} (tg : E → E → E) (M : List E) {y x : E} (h : al y x = true) : fstep al tg (M ++ [y]) x = M ++ [tg y x] := by
  unfold fstep; rw [dif_neg (by simp)]; simp [h]
theorem fstep_new {al : E → E → Bool} (tg : E → E → E) (M : List E) {y x : E} (h : al y x = false) : fstep al tg (M ++ [y]) x = M ++ [y] ++ [x] := by
  unfold fstep; rw [dif_neg (by simp)]; simp [h]
theorem fstep_len (al : E → E → Bool) (tg : E → E → E) (L : List E) (x : E) : (fstep al tg L x).length ≤ L.length + 1 := by
  unfold fstep; split
  · simp
  · split <;> simp
theorem fold_len (al : E → E → Bool) (tg : E → E → E) (zs : List E) (k : Nat) (h : k ≤ zs.length) : (fold al tg (zs.take k)).length ≤ k := by
  induction k with
  | zero => simp [fold]
  | succ k ih => rw [fold_snoc al tg zs k (by omega)]; have := fstep_len al tg (fold al tg (zs.take k)) (at' zs k); have := ih (by omega); omega
theorem snoc_of {α : Type} (L : List α) (h : L ≠ []) : ∃ M y, L = M ++ [y] := ⟨L.dropLast, L.getLast h, (List.dropLast_concat_getLast h).symm⟩
theorem set_last (M : List E) (Y0 Y1 Y2 Y3 Y4 Y5 Z0 Z1 Z2 Z3 Z4 Z5 : Int) (m : Nat) (hm : m = M.length) : ((((((flat (M ++ [(Y0, Y1, Y2, Y3, Y4, Y5)])).set (m * 6) (.int .i64 Z0)).set (m * 6 + 1) (.int .i64 Z1)).set (m * 6 + 2) (.int .i64 Z2)).set (m * 6 + 3) (.int .i64 Z3)).set (m * 6 + 4) (.int .i64 Z4)).set (m * 6 + 5) (.int .i64 Z5) = flat (M ++ [(Z0, Z1, Z2, Z3, Z4, Z5)]) := by
  subst hm
  unfold flat
  rw [flatOf_append, flatOf_append, flatOf_one, flatOf_one]
  have := set_e (flatOf fl M) (.int .i64 Y0) (.int .i64 Y1) (.int .i64 Y2) (.int .i64 Y3) (.int .i64 Y4) (.int .i64 Y5) (.int .i64 Z0) (.int .i64 Z1) (.int .i64 Z2) (.int .i64 Z3) (.int .i64 Z4) (.int .i64 Z5) [] (M.length * 6) (by rw [flatOf_length flk])
  simpa [fl] using this
set_option maxRecDepth 100000 in
set_option maxHeartbeats 4000000 in
theorem folded_any {w : World} {v : Value} {zs : List E} (al : E → E → Bool) (tg : E → E → E) (g f : Nat) (cs : Array Value) (eg : ∀ args w, (callFunc g args).run Try.prog w = .ok (.enter g args) w) (ef : ∀ args w, (callFunc f args).run Try.prog w = .ok (.enter f args) w)
    (HK : Hid (∀ X0 X1 X2 X3 X4 X5 Y0 Y1 Y2 Y3 Y4 Y5 W, Below w.heap.size w W → Calls Try.prog g (#[.agg #[.int .i64 X0, .int .i64 X1, .int .i64 X2, .int .i64 X3, .int .i64 X4, .int .i64 X5], .agg #[.int .i64 Y0, .int .i64 Y1, .int .i64 Y2, .int .i64 Y3, .int .i64 Y4, .int .i64 Y5]] ++ cs) W fun e w' => e = .returned (.bool (al (X0, X1, X2, X3, X4, X5) (Y0, Y1, Y2, Y3, Y4, Y5))) ∧ Below W.heap.size W w'))
    (HT : Hid (∀ X0 X1 X2 X3 X4 X5 Y0 Y1 Y2 Y3 Y4 Y5 Z0 Z1 Z2 Z3 Z4 Z5 W, tg (X0, X1, X2, X3, X4, X5) (Y0, Y1, Y2, Y3, Y4, Y5) = (Z0, Z1, Z2, Z3, Z4, Z5) → Below w.heap.size w W → Calls Try.prog f #[.agg #[.int .i64 X0, .int .i64 X1, .int .i64 X2, .int .i64 X3, .int .i64 X4, .int .i64 X5], .agg #[.int .i64 Y0, .int .i64 Y1, .int .i64 Y2, .int .i64 Y3, .int .i64 Y4, .int .i64 Y5]] W fun e w' => e = .returned (.agg #[.int .i64 Z0, .int .i64 Z1, .int .i64 Z2, .int .i64 Z3, .int .i64 Z4, .int .i64 Z5]) ∧ Below W.heap.size W w'))
    (h : Is w v zs) (hn : zs.length ≤ 4194304) :
    Calls Try.prog 50 #[v, .func (.func g) #[] cs, .func (.func f) #[] #[]] w fun e w' => ∃ r, e = .returned r ∧ w'.ownsRow w.heap.size 52 6 r (fold al tg zs).length (flat (fold al tg zs)) ∧ Below w.heap.size w w' := by
  obtain ⟨i0, hi, hz0, hz1, hz2⟩ := info_parts info_e
  obtain ⟨-, a, cap, rfl, hc, hm, -, hr⟩ := id h
  obtain ⟨n, hnn⟩ : ∃ n, n = zs.length := ⟨_, rfl⟩
  rw [← hnn] at hc hr hn ⊢
  have HN := hide hnn
  unfold maxLen at hm
  clear hnn h
  go_enter Try.func50, Try.ntmps50
  go_wp2_with fail
  go_loopw [7, 13] (fun ov i wr => ∃ (k : Nat) (L : List E) (ao : Option Addr) (qo : Nat), k ≤ n ∧ i = .int .i64 k ∧ ov = .slice ao L.length qo ∧ L = fold al tg (zs.take k) ∧ wr.ownsRow w.heap.size 52 6 ov L.length (flat L) ∧ Below w.heap.size w wr) (fun _ i _ => n - (intOf i).toNat)
  case atStart => exact ⟨0, [], none, 0, Nat.zero_le _, rfl, rfl, by simp [fold], World.ownsRow_nil _ _ _ _, Below.refl _ _⟩
  case round =>
    obtain ⟨k, L, ao, qo, hk, rfl, rfl, hL, hown, hbel⟩ := hrel
    have hsz := hbel.size
    by_cases hlt : k < n
    · have hLk := fold_len al tg zs k (by have := unhide HN; omega)
      rw [← hL] at hLk
      have HS := hide (fold_snoc al tg zs k (by have := unhide HN; omega))
      rw [← hL] at HS
      obtain ⟨b, off, rfl, hbl, hcells⟩ := hr (by omega)
      have fa := flat_at zs k (by have := unhide HN; omega)
      have hc0 : wr.cell? ⟨b, off + k * 6, none⟩ = some (.int .i64 ((at' zs k).1)) := (hbel.cell (p := ⟨b, _, none⟩) hbl).trans (hcells (k * 6) _ (fa.1))
      have hc1 : wr.cell? ⟨b, off + k * 6 + 1, none⟩ = some (.int .i64 ((at' zs k).2.1)) := (hbel.cell (p := ⟨b, _, none⟩) hbl).trans (hcells (k * 6 + 1) _ (fa.2.1))
      have hc2 : wr.cell? ⟨b, off + k * 6 + 2, none⟩ = some (.int .i64 ((at' zs k).2.2.1)) := (hbel.cell (p := ⟨b, _, none⟩) hbl).trans (hcells (k * 6 + 2) _ (fa.2.2.1))
      have hc3 : wr.cell? ⟨b, off + k * 6 + 3, none⟩ = some (.int .i64 ((at' zs k).2.2.2.1)) := (hbel.cell (p := ⟨b, _, none⟩) hbl).trans (hcells (k * 6 + 3) _ (fa.2.2.2.1))
      have hc4 : wr.cell? ⟨b, off + k * 6 + 4, none⟩ = some (.int .i64 ((at' zs k).2.2.2.2.1)) := (hbel.cell (p := ⟨b, _, none⟩) hbl).trans (hcells (k * 6 + 4) _ (fa.2.2.2.2.1))
      have hc5 : wr.cell? ⟨b, off + k * 6 + 5, none⟩ = some (.int .i64 ((at' zs k).2.2.2.2.2)) := (hbel.cell (p := ⟨b, _, none⟩) hbl).trans (hcells (k * 6 + 5) _ (fa.2.2.2.2.2))
      obtain ⟨X0, X1, X2, X3, X4, X5, hX⟩ : ∃ X0 X1 X2 X3 X4 X5, (X0, X1, X2, X3, X4, X5) = at' zs k := ⟨_, _, _, _, _, _, rfl⟩
      rw [← hX] at hc0 hc1 hc2 hc3 hc4 hc5 HS
      have HX := hide hX
      clear fa hX hL
      have hk0 : (0 : Int) ≤ (k : Int) := Int.natCast_nonneg _
      have hk1 : (k : Int) < (n : Int) := by omega
      obtain ⟨W, hW⟩ : ∃ W, W = wr.alloc (.cells #[.int .i64 X0, .int .i64 X1, .int .i64 X2, .int .i64 X3, .int .i64 X4, .int .i64 X5] 52) := ⟨_, rfl⟩
      have hWb : Below w.heap.size w W := by rw [hW]; exact hbel.alloc hsz _
      have hWo : W.ownsRow w.heap.size 52 6 (.slice ao L.length qo) L.length (flat L) := by rw [hW]; exact hown.alloc _
      have HWs := hide (show W.heap.size = wr.heap.size + 1 by rw [hW]; simp)
      have hWs : wr.heap.size < W.heap.size := by rw [unhide HWs]; omega
      have hn0 : W.cell? ⟨wr.heap.size, 0, none⟩ = some (.int .i64 X0) := by rw [hW]; simp
      have hn1 : W.cell? ⟨wr.heap.size, 1, none⟩ = some (.int .i64 X1) := by rw [hW]; simp
      have hn2 : W.cell? ⟨wr.heap.size, 2, none⟩ = some (.int .i64 X2) := by rw [hW]; simp
      have hn3 : W.cell? ⟨wr.heap.size, 3, none⟩ = some (.int .i64 X3) := by rw [hW]; simp
      have hn4 : W.cell? ⟨wr.heap.size, 4, none⟩ = some (.int .i64 X4) := by rw [hW]; simp
      have hn5 : W.cell? ⟨wr.heap.size, 5, none⟩ = some (.int .i64 X5) := by rw [hW]; simp
      have HW := hide hW
      clear hW hown
      have hq0 : ∀ x : Cls W.heap.size W, x.val.cell? ⟨wr.heap.size, 0, none⟩ = some (.int .i64 X0) := fun x => by rw [x.cell hWs]; exact hn0
      have hq1 : ∀ x : Cls W.heap.size W, x.val.cell? ⟨wr.heap.size, 1, none⟩ = some (.int .i64 X1) := fun x => by rw [x.cell hWs]; exact hn1
      have hq2 : ∀ x : Cls W.heap.size W, x.val.cell? ⟨wr.heap.size, 2, none⟩ = some (.int .i64 X2) := fun x => by rw [x.cell hWs]; exact hn2
      have hq3 : ∀ x : Cls W.heap.size W, x.val.cell? ⟨wr.heap.size, 3, none⟩ = some (.int .i64 X3) := fun x => by rw [x.cell hWs]; exact hn3
      have hq4 : ∀ x : Cls W.heap.size W, x.val.cell? ⟨wr.heap.size, 4, none⟩ = some (.int .i64 X4) := fun x => by rw [x.cell hWs]; exact hn4
      have hq5 : ∀ x : Cls W.heap.size W, x.val.cell? ⟨wr.heap.size, 5, none⟩ = some (.int .i64 X5) := fun x => by rw [x.cell hWs]; exact hn5
      have hne := cls_nonempty W.heap.size W
      by_cases hLe : L = []
      · subst hLe
        have HF := hide (show fold al tg (zs.take (k + 1)) = [] ++ [(X0, X1, X2, X3, X4, X5)] by rw [unhide HS, fstep_nil]; rfl)
        clear HS
        simp only [List.length_nil] at hWo ⊢
        go_wp2_with fail
        rw [← unhide HW]
        refine region_cls (by kernel_rfl) (by kernel_rfl) ?_
        repeat (go_big_quiet_step ((fail)))
        refine wpQuiet_nil ?_
        rintro wq ⟨⟨_, hq⟩, rfl⟩
        have cq := hWb.trans (hq.mono hWb.size)
        have oq := own_below hWo hq
        have hsq := cq.size
        have hm0 : wq.cell? ⟨wr.heap.size, 0, none⟩ = some (.int .i64 X0) := (hq.cell (p := ⟨wr.heap.size, 0, none⟩) hWs).trans hn0
        have hm1 : wq.cell? ⟨wr.heap.size, 1, none⟩ = some (.int .i64 X1) := (hq.cell (p := ⟨wr.heap.size, 1, none⟩) hWs).trans hn1
        have hm2 : wq.cell? ⟨wr.heap.size, 2, none⟩ = some (.int .i64 X2) := (hq.cell (p := ⟨wr.heap.size, 2, none⟩) hWs).trans hn2
        have hm3 : wq.cell? ⟨wr.heap.size, 3, none⟩ = some (.int .i64 X3) := (hq.cell (p := ⟨wr.heap.size, 3, none⟩) hWs).trans hn3
        have hm4 : wq.cell? ⟨wr.heap.size, 4, none⟩ = some (.int .i64 X4) := (hq.cell (p := ⟨wr.heap.size, 4, none⟩) hWs).trans hn4
        have hm5 : wq.cell? ⟨wr.heap.size, 5, none⟩ = some (.int .i64 X5) := (hq.cell (p := ⟨wr.heap.size, 5, none⟩) hWs).trans hn5
        go_wp2_with (at_builtin; refine app_wp _ rfl _ _ _ rfl w.heap.size 52 i0 _ 6 48 Try.underlying32 hi hz0 hz1 hz2 rfl (by omega) _ _ _ rfl (oq.alloc _) _ 1 [.int .i64 X0, .int .i64 X1, .int .i64 X2, .int .i64 X3, .int .i64 X4, .int .i64 X5] rfl (lies_new rfl rfl (by unfold maxLen; omega)) (by simp [Value.oneCell']) (by unfold maxLen; omega) (by omega) (by simp; omega) ?_; intro vn wn on gn an)
        have R9 := below_grown (cq.alloc hsq _) (by simp; omega) gn (own_ge oq)
        have R2 : wn.ownsRow w.heap.size 52 6 vn (([] : List E) ++ [(X0, X1, X2, X3, X4, X5)]).length (flat (([] : List E) ++ [(X0, X1, X2, X3, X4, X5)])) := by unfold flat; rw [flatOf_append, flatOf_one, List.length_append]; exact on
        obtain ⟨an', qn', evn⟩ : ∃ a q, vn = Value.slice a (([] : List E) ++ [(X0, X1, X2, X3, X4, X5)]).length q := by obtain ⟨-, a, q, e, -⟩ := lies_of_own R2; exact ⟨a, q, e⟩
        clear on gn an
        go_wp2_with fail
        go_roundw
        case rel => exact ⟨k + 1, _, _, _, by omega, by go_num, evn, (unhide HF).symm, R2, R9⟩
        case measure => simp [intOf]; omega
      · obtain ⟨M, y, rfl⟩ := snoc_of L hLe
        obtain ⟨Y0, Y1, Y2, Y3, Y4, Y5⟩ := y
        clear hLe
        obtain ⟨m, hm'⟩ : ∃ m, m = M.length := ⟨_, rfl⟩
        have hlen : (M ++ [(Y0, Y1, Y2, Y3, Y4, Y5)]).length = m + 1 := by rw [List.length_append, hm']; rfl
        rw [hlen] at hWo hLk ⊢
        have HM := hide hm'
        have HLn := hide hlen
        clear hm' hlen
        obtain ⟨gb, rfl⟩ : ∃ gb, ao = some ⟨gb, 0, none⟩ := by
          rcases hWo.2 with ⟨h1, _⟩ | ⟨gb, cp, cu, h1, -⟩
          · simp at h1
          · exact ⟨gb, by simp only [Value.slice.injEq] at h1; exact h1.1⟩
        have hgl := own_lt hWo
        have hgg := own_ge hWo gb rfl
        have hqo : m + 1 ≤ qo ∧ qo ≤ 9223372036854775807 := by
          obtain ⟨-, a', c', h1, h2, h3, -⟩ := lies_of_own hWo
          simp only [Value.slice.injEq] at h1
          unfold maxLen at h3
          omega
        have fy := flat_at (M ++ [(Y0, Y1, Y2, Y3, Y4, Y5)]) m (by rw [unhide HLn]; omega)
        have ey : at' (M ++ [(Y0, Y1, Y2, Y3, Y4, Y5)]) m = (Y0, Y1, Y2, Y3, Y4, Y5) := by rw [at_get _ _ (by rw [unhide HLn]; omega)]; simp [unhide HM]
        rw [ey] at fy
        have hy0 : W.cell? ⟨gb, m * 6, none⟩ = some (.int .i64 Y0) := by rw [hWo.cellAt (m * 6) (by omega)]; exact fy.1
        have hy1 : W.cell? ⟨gb, m * 6 + 1, none⟩ = some (.int .i64 Y1) := by rw [hWo.cellAt (m * 6 + 1) (by omega)]; exact fy.2.1
        have hy2 : W.cell? ⟨gb, m * 6 + 2, none⟩ = some (.int .i64 Y2) := by rw [hWo.cellAt (m * 6 + 2) (by omega)]; exact fy.2.2.1
        have hy3 : W.cell? ⟨gb, m * 6 + 3, none⟩ = some (.int .i64 Y3) := by rw [hWo.cellAt (m * 6 + 3) (by omega)]; exact fy.2.2.2.1
        have hy4 : W.cell? ⟨gb, m * 6 + 4, none⟩ = some (.int .i64 Y4) := by rw [hWo.cellAt (m * 6 + 4) (by omega)]; exact fy.2.2.2.2.1
        have hy5 : W.cell? ⟨gb, m * 6 + 5, none⟩ = some (.int .i64 Y5) := by rw [hWo.cellAt (m * 6 + 5) (by omega)]; exact fy.2.2.2.2.2
        have qy0 : ∀ x : Cls W.heap.size W, x.val.cell? ⟨gb, m * 6, none⟩ = some (.int .i64 Y0) := fun x => by rw [x.cell hgl]; exact hy0
        have qy1 : ∀ x : Cls W.heap.size W, x.val.cell? ⟨gb, m * 6 + 1, none⟩ = some (.int .i64 Y1) := fun x => by rw [x.cell hgl]; exact hy1
        have qy2 : ∀ x : Cls W.heap.size W, x.val.cell? ⟨gb, m * 6 + 2, none⟩ = some (.int .i64 Y2) := fun x => by rw [x.cell hgl]; exact hy2
        have qy3 : ∀ x : Cls W.heap.size W, x.val.cell? ⟨gb, m * 6 + 3, none⟩ = some (.int .i64 Y3) := fun x => by rw [x.cell hgl]; exact hy3
        have qy4 : ∀ x : Cls W.heap.size W, x.val.cell? ⟨gb, m * 6 + 4, none⟩ = some (.int .i64 Y4) := fun x => by rw [x.cell hgl]; exact hy4
        have qy5 : ∀ x : Cls W.heap.size W, x.val.cell? ⟨gb, m * 6 + 5, none⟩ = some (.int .i64 Y5) := fun x => by rw [x.cell hgl]; exact hy5
        clear fy ey
        have hm0 : (0 : Int) ≤ (m : Int) := Int.natCast_nonneg _
        have HKx := hide (fun (x : Cls W.heap.size W) => unhide HK Y0 Y1 Y2 Y3 Y4 Y5 X0 X1 X2 X3 X4 X5 x.val (hWb.trans (x.isBelow.mono hWb.size)))
        cases hal : al (Y0, Y1, Y2, Y3, Y4, Y5) (X0, X1, X2, X3, X4, X5)
        · have HF := hide (show fold al tg (zs.take (k + 1)) = (M ++ [(Y0, Y1, Y2, Y3, Y4, Y5)]) ++ [(X0, X1, X2, X3, X4, X5)] by rw [unhide HS, fstep_new tg M hal])
          rw [hal] at HKx
          clear hal HS
          go_wp2_with fail
          rw [← unhide HW]
          refine region_cls (by kernel_rfl) (by kernel_rfl) ?_
          repeat (go_big_quiet_step ((go_at_fn g; exact cls_call (Nat.le_refl _) (unhide HKx _))))
          refine wpQuiet_nil ?_
          rintro wq ⟨⟨_, hq⟩, rfl⟩
          have cq := hWb.trans (hq.mono hWb.size)
          have oq := own_below hWo hq
          have hsq := cq.size
          have hm0 : wq.cell? ⟨wr.heap.size, 0, none⟩ = some (.int .i64 X0) := (hq.cell (p := ⟨wr.heap.size, 0, none⟩) hWs).trans hn0
          have hm1 : wq.cell? ⟨wr.heap.size, 1, none⟩ = some (.int .i64 X1) := (hq.cell (p := ⟨wr.heap.size, 1, none⟩) hWs).trans hn1
          have hm2 : wq.cell? ⟨wr.heap.size, 2, none⟩ = some (.int .i64 X2) := (hq.cell (p := ⟨wr.heap.size, 2, none⟩) hWs).trans hn2
          have hm3 : wq.cell? ⟨wr.heap.size, 3, none⟩ = some (.int .i64 X3) := (hq.cell (p := ⟨wr.heap.size, 3, none⟩) hWs).trans hn3
          have hm4 : wq.cell? ⟨wr.heap.size, 4, none⟩ = some (.int .i64 X4) := (hq.cell (p := ⟨wr.heap.size, 4, none⟩) hWs).trans hn4
          have hm5 : wq.cell? ⟨wr.heap.size, 5, none⟩ = some (.int .i64 X5) := (hq.cell (p := ⟨wr.heap.size, 5, none⟩) hWs).trans hn5
          have oq := (show wq.ownsRow w.heap.size 52 6 (.slice (some ⟨gb, 0, none⟩) (m + 1) qo) (m + 1) (flat (M ++ [(Y0, Y1, Y2, Y3, Y4, Y5)])) from oq)
          go_wp2_with (at_builtin; refine app_wp _ rfl _ _ _ rfl w.heap.size 52 i0 _ 6 48 Try.underlying32 hi hz0 hz1 hz2 rfl (by omega) _ _ _ rfl (oq.alloc _) _ 1 [.int .i64 X0, .int .i64 X1, .int .i64 X2, .int .i64 X3, .int .i64 X4, .int .i64 X5] rfl (lies_new rfl rfl (by unfold maxLen; omega)) (by simp [Value.oneCell']) (by unfold maxLen; omega) (by omega) (by simp; omega) ?_; intro vn wn on gn an)
          have R9 := below_grown (cq.alloc hsq _) (by simp; omega) gn (own_ge oq)
          have R2 : wn.ownsRow w.heap.size 52 6 vn ((M ++ [(Y0, Y1, Y2, Y3, Y4, Y5)]) ++ [(X0, X1, X2, X3, X4, X5)]).length (flat ((M ++ [(Y0, Y1, Y2, Y3, Y4, Y5)]) ++ [(X0, X1, X2, X3, X4, X5)])) := by unfold flat; rw [flatOf_append, flatOf_one, List.length_append, unhide HLn]; exact on
          obtain ⟨an', qn', evn⟩ : ∃ a q, vn = Value.slice a ((M ++ [(Y0, Y1, Y2, Y3, Y4, Y5)]) ++ [(X0, X1, X2, X3, X4, X5)]).length q := by obtain ⟨-, a, q, e, -⟩ := lies_of_own R2; exact ⟨a, q, e⟩
          clear on gn an
          go_wp2_with fail
          go_roundw
          case rel => exact ⟨k + 1, _, _, _, by omega, by go_num, evn, (unhide HF).symm, R2, R9⟩
          case measure => simp [intOf]; omega
        · have HF := hide (show fold al tg (zs.take (k + 1)) = M ++ [tg (Y0, Y1, Y2, Y3, Y4, Y5) (X0, X1, X2, X3, X4, X5)] by rw [unhide HS, fstep_same tg M hal])
          rw [hal] at HKx
          clear hal HS
          go_wp2_with fail
          rw [← unhide HW]
          refine region_cls (by kernel_rfl) (by kernel_rfl) ?_
          repeat (go_big_quiet_step ((go_at_fn g; exact cls_call (Nat.le_refl _) (unhide HKx _))))
          refine wpQuiet_nil ?_
          rintro wq ⟨⟨_, hq⟩, rfl⟩
          have cq := hWb.trans (hq.mono hWb.size)
          have oq := own_below hWo hq
          have hsq := cq.size
          have hm0 : wq.cell? ⟨wr.heap.size, 0, none⟩ = some (.int .i64 X0) := (hq.cell (p := ⟨wr.heap.size, 0, none⟩) hWs).trans hn0
          have hm1 : wq.cell? ⟨wr.heap.size, 1, none⟩ = some (.int .i64 X1) := (hq.cell (p := ⟨wr.heap.size, 1, none⟩) hWs).trans hn1
          have hm2 : wq.cell? ⟨wr.heap.size, 2, none⟩ = some (.int .i64 X2) := (hq.cell (p := ⟨wr.heap.size, 2, none⟩) hWs).trans hn2
          have hm3 : wq.cell? ⟨wr.heap.size, 3, none⟩ = some (.int .i64 X3) := (hq.cell (p := ⟨wr.heap.size, 3, none⟩) hWs).trans hn3
          have hm4 : wq.cell? ⟨wr.heap.size, 4, none⟩ = some (.int .i64 X4) := (hq.cell (p := ⟨wr.heap.size, 4, none⟩) hWs).trans hn4
          have hm5 : wq.cell? ⟨wr.heap.size, 5, none⟩ = some (.int .i64 X5) := (hq.cell (p := ⟨wr.heap.size, 5, none⟩) hWs).trans hn5
          have my0 : wq.cell? ⟨gb, m * 6, none⟩ = some (.int .i64 Y0) := (hq.cell (p := ⟨gb, _, none⟩) hgl).trans hy0
          have my1 : wq.cell? ⟨gb, m * 6 + 1, none⟩ = some (.int .i64 Y1) := (hq.cell (p := ⟨gb, _, none⟩) hgl).trans hy1
          have my2 : wq.cell? ⟨gb, m * 6 + 2, none⟩ = some (.int .i64 Y2) := (hq.cell (p := ⟨gb, _, none⟩) hgl).trans hy2
          have my3 : wq.cell? ⟨gb, m * 6 + 3, none⟩ = some (.int .i64 Y3) := (hq.cell (p := ⟨gb, _, none⟩) hgl).trans hy3
          have my4 : wq.cell? ⟨gb, m * 6 + 4, none⟩ = some (.int .i64 Y4) := (hq.cell (p := ⟨gb, _, none⟩) hgl).trans hy4
          have my5 : wq.cell? ⟨gb, m * 6 + 5, none⟩ = some (.int .i64 Y5) := (hq.cell (p := ⟨gb, _, none⟩) hgl).trans hy5
          obtain ⟨Z0, Z1, Z2, Z3, Z4, Z5, hZ⟩ : ∃ Z0 Z1 Z2 Z3 Z4 Z5, tg (Y0, Y1, Y2, Y3, Y4, Y5) (X0, X1, X2, X3, X4, X5) = (Z0, Z1, Z2, Z3, Z4, Z5) := ⟨_, _, _, _, _, _, rfl⟩
          rw [hZ] at HF
          have HTx := hide (fun W' (hb : Below w.heap.size w W') => unhide HT Y0 Y1 Y2 Y3 Y4 Y5 X0 X1 X2 X3 X4 X5 Z0 Z1 Z2 Z3 Z4 Z5 W' hZ hb)
          have OQ := hide oq
          clear hZ oq hne hq0 qy0 hq1 qy1 hq2 qy2 hq3 qy3 hq4 qy4 hq5 qy5 hWo
          have HT3 := hide (show Calls Try.prog f #[.agg #[.int .i64 Y0, .int .i64 Y1, .int .i64 Y2, .int .i64 Y3, .int .i64 Y4, .int .i64 Y5], .agg #[.int .i64 X0, .int .i64 X1, .int .i64 X2, .int .i64 X3, .int .i64 X4, .int .i64 X5]] wq.drew fun e w' => e = .returned (.agg #[.int .i64 Z0, .int .i64 Z1, .int .i64 Z2, .int .i64 Z3, .int .i64 Z4, .int .i64 Z5]) ∧ Below wq.heap.size wq w' from (unhide HTx _ cq.drew).mono fun e w' h => ⟨h.1, (Below.refl _ _).drew.trans h.2⟩)
          have hgq : gb < wq.heap.size := by have := hq.size; omega
          go_wp2_with fail
          go_region_with (go_at_fn f; refine (unhide HT3).mono ?_; rintro e w3 ⟨rfl, hb3⟩; have o3 := own_below (unhide OQ) hb3; have hd0 : w3.cell? ⟨gb, m * 6, none⟩ = some (.int .i64 Y0) := (hb3.cell (p := ⟨gb, _, none⟩) hgq).trans my0; have hf0 := o3.frozenAt (m * 6); have hd1 : w3.cell? ⟨gb, m * 6 + 1, none⟩ = some (.int .i64 Y1) := (hb3.cell (p := ⟨gb, _, none⟩) hgq).trans my1; have hf1 := o3.frozenAt (m * 6 + 1); have hd2 : w3.cell? ⟨gb, m * 6 + 2, none⟩ = some (.int .i64 Y2) := (hb3.cell (p := ⟨gb, _, none⟩) hgq).trans my2; have hf2 := o3.frozenAt (m * 6 + 2); have hd3 : w3.cell? ⟨gb, m * 6 + 3, none⟩ = some (.int .i64 Y3) := (hb3.cell (p := ⟨gb, _, none⟩) hgq).trans my3; have hf3 := o3.frozenAt (m * 6 + 3); have hd4 : w3.cell? ⟨gb, m * 6 + 4, none⟩ = some (.int .i64 Y4) := (hb3.cell (p := ⟨gb, _, none⟩) hgq).trans my4; have hf4 := o3.frozenAt (m * 6 + 4); have hd5 : w3.cell? ⟨gb, m * 6 + 5, none⟩ = some (.int .i64 Y5) := (hb3.cell (p := ⟨gb, _, none⟩) hgq).trans my5; have hf5 := o3.frozenAt (m * 6 + 5); have c3 := cq.trans (hb3.mono cq.size))
          all_goals
            have o4 := (o3.stored (m * 6) (.int .i64 Z0)).1
            have o5 := (o4.stored (m * 6 + 1) (.int .i64 Z1)).1
            have o6 := (o5.stored (m * 6 + 2) (.int .i64 Z2)).1
            have o7 := (o6.stored (m * 6 + 3) (.int .i64 Z3)).1
            have o8 := (o7.stored (m * 6 + 4) (.int .i64 Z4)).1
            have o9 := (o8.stored (m * 6 + 5) (.int .i64 Z5)).1
            rw [set_last M Y0 Y1 Y2 Y3 Y4 Y5 Z0 Z1 Z2 Z3 Z4 Z5 m (unhide HM)] at o9
            have R := hide ((((((c3.setCell (p := ⟨gb, m * 6, none⟩) hgg (.int .i64 Z0)).setCell (p := ⟨gb, m * 6 + 1, none⟩) hgg (.int .i64 Z1)).setCell (p := ⟨gb, m * 6 + 2, none⟩) hgg (.int .i64 Z2)).setCell (p := ⟨gb, m * 6 + 3, none⟩) hgg (.int .i64 Z3)).setCell (p := ⟨gb, m * 6 + 4, none⟩) hgg (.int .i64 Z4)).setCell (p := ⟨gb, m * 6 + 5, none⟩) hgg (.int .i64 Z5))
            have O := hide o9
            clear o4 hd0 hf0 o5 hd1 hf1 o6 hd2 hf2 o7 hd3 hf3 o8 hd4 hf4 o9 hd5 hf5 c3 o3
            have HL2 := hide (show (M ++ [(Z0, Z1, Z2, Z3, Z4, Z5)]).length = m + 1 by rw [List.length_append, unhide HM]; rfl)
            go_wp2_with fail
            go_roundw
            case rel => exact ⟨k + 1, M ++ [(Z0, Z1, Z2, Z3, Z4, Z5)], _, _, by omega, by go_num, by rw [unhide HL2], (unhide HF).symm, by rw [unhide HL2]; exact unhide O, unhide R⟩
            case measure => simp [intOf]; omega
    · go_wp2
      go_ret
      exact ⟨_, rfl, by rw [List.take_of_length_le (by have := unhide HN; omega)] at hL; subst hL; exact hown, hbel⟩
end Go.Proofs.Ytogdllkbiibicaa.Win

/- What samples come to while by while, as plain mathematics. No condition. -/
namespace Go.Proofs.Ytogdllkbiibicaa.WinM
open SampMath Samp
set_option linter.unusedVariables false
abbrev W6 := Int × Int × Int × Int × Int × Int
def winOf (b : Int) (v : Int) : W6 := (b, 1, v, v, v, v)
def upd (a : W6) (v : Int) : W6 := (a.1, a.2.1 + 1, a.2.2.1 + v, if v < a.2.2.2.1 then v else a.2.2.2.1, if a.2.2.2.2.1 < v then v else a.2.2.2.2.1, v)
def winTo (b : Int) (g : List S) : Nat → W6
  | 0 => (b, 0, 0, (at' g 0).2, (at' g 0).2, 0)
  | k + 1 => upd (winTo b g k) (at' g k).2
theorem winTo_one (b : Int) (g : List S) : winTo b g 1 = winOf b (at' g 0).2 := by
  show upd (winTo b g 0) (at' g 0).2 = _
  simp [upd, winTo, winOf]
theorem winTo_from (b : Int) (g : List S) (k : Nat) : (winTo b g k).1 = b := by
  induction k with
  | zero => rfl
  | succ k ih => exact ih
theorem winTo_count (b : Int) (g : List S) (k : Nat) : (winTo b g k).2.1 = k := by
  induction k with
  | zero => rfl
  | succ k ih => show (winTo b g k).2.1 + 1 = _; rw [ih]; omega
theorem winTo_sum {b : Int} {g : List S} (h : ∀ i, i < g.length → 0 ≤ (at' g i).2 ∧ (at' g i).2 ≤ 2147483647) : ∀ k, k ≤ g.length → 0 ≤ (winTo b g k).2.2.1 ∧ (winTo b g k).2.2.1 ≤ 2147483647 * (k : Int) := by
  intro k
  induction k with
  | zero => intro _; exact ⟨Int.le_refl _, by show (0 : Int) ≤ _; omega⟩
  | succ k ih =>
    intro hk
    have a := ih (by omega)
    have c := h k (by omega)
    show 0 ≤ (winTo b g k).2.2.1 + (at' g k).2 ∧ (winTo b g k).2.2.1 + (at' g k).2 ≤ _
    omega
theorem winTo_low {b : Int} {g : List S} (h : ∀ i, i < g.length → 0 ≤ (at' g i).2 ∧ (at' g i).2 ≤ 2147483647) (h0 : 0 < g.length) : ∀ k, k ≤ g.length → 0 ≤ (winTo b g k).2.2.2.1 ∧ (winTo b g k).2.2.2.1 ≤ 2147483647 ∧ 0 ≤ (winTo b g k).2.2.2.2.1 ∧ (winTo b g k).2.2.2.2.1 ≤ 2147483647 := by
  intro k
  induction k with
  | zero => intro _; have := h 0 h0; exact ⟨this.1, this.2, this.1, this.2⟩
  | succ k ih =>
    intro hk
    have a := ih (by omega)
    have c := h k (by omega)
    show 0 ≤ (if (at' g k).2 < (winTo b g k).2.2.2.1 then (at' g k).2 else (winTo b g k).2.2.2.1) ∧ (if (at' g k).2 < (winTo b g k).2.2.2.1 then (at' g k).2 else (winTo b g k).2.2.2.1) ≤ 2147483647 ∧ 0 ≤ (if (winTo b g k).2.2.2.2.1 < (at' g k).2 then (at' g k).2 else (winTo b g k).2.2.2.2.1) ∧ (if (winTo b g k).2.2.2.2.1 < (at' g k).2 then (at' g k).2 else (winTo b g k).2.2.2.2.1) ≤ 2147483647
    split <;> split <;> omega
/-- what is cut up to a time, and from it on, is what is cut -/
theorem cut_parts {zs : List S} (h : ok zs = true) {f m e : Int} (h1 : f ≤ m) (h2 : m ≤ e) : cutL zs f m ++ cutL zs m e = cutL zs f e := by
  have hs := ((ok_iff zs).1 h).2
  have hp : (cutL zs f e).Pairwise (fun a b => a.1 < b.1) := hs.sublist List.filter_sublist
  have := filter_parts (cutL zs f e) m hp
  rw [← this]
  unfold cutL
  rw [List.filter_filter, List.filter_filter]
  congr 1
  · refine List.filter_congr fun x _ => ?_
    simp only [inT]
    by_cases a : f ≤ x.1 <;> by_cases b : x.1 < m <;> by_cases c : x.1 < e <;> simp [a, b, c] <;> omega
  · refine List.filter_congr fun x _ => ?_
    simp only [inT]
    by_cases a : f ≤ x.1 <;> by_cases b : m ≤ x.1 <;> by_cases c : x.1 < e <;> simp [a, b, c] <;> omega
/-- one while, if it has samples -/
def oneW (b : Int) (g : List S) : List W6 := if g = [] then [] else [winTo b g g.length]
theorem oneW_mem {b : Int} {g : List S} {x : W6} (h : x ∈ oneW b g) : x.1 = b := by
  unfold oneW at h
  split at h
  · cases h
  · simp only [List.mem_singleton] at h
    rw [h, winTo_from]
theorem oneW_len (b : Int) (g : List S) : (oneW b g).length ≤ 1 := by unfold oneW; split <;> simp
/-- whiles from f on, so many of them -/
def winsTo (zs : List S) (f t st : Int) : Nat → List W6
  | 0 => []
  | j + 1 => winsTo zs f t st j ++ oneW (f + j * st) (cutL zs (f + j * st) (if t < f + j * st + st then t else f + j * st + st))
theorem winsTo_from (zs : List S) {f t st : Int} (h : 0 < st) : ∀ j, ∀ x ∈ winsTo zs f t st j, x.1 < f + j * st := by
  intro j
  induction j with
  | zero => intro x hx; cases hx
  | succ j ih =>
    intro x hx
    have e : ((j + 1 : Nat) : Int) * st = j * st + st := by rw [Int.natCast_add, Int.add_mul]; simp
    rw [winsTo, List.mem_append] at hx
    rcases hx with hx | hx
    · have := ih x hx; rw [e]; omega
    · have := oneW_mem hx; rw [e]; omega
theorem winsTo_len (zs : List S) (f t st : Int) : ∀ j, (winsTo zs f t st j).length ≤ j := by
  intro j
  induction j with
  | zero => exact Nat.le_refl _
  | succ j ih => rw [winsTo, List.length_append]; have := oneW_len (f + j * st) (cutL zs (f + j * st) (if t < f + j * st + st then t else f + j * st + st)); omega
/-- when the while of a time begins -/
def beg (f st T : Int) : Int := T - (T - f) % st
theorem beg_in {f st T b : Int} {j : Nat} (h0 : 0 < st) (hb : b = f + j * st) (h1 : b ≤ T) (h2 : T < b + st) : beg f st T = b := by
  unfold beg
  have e : (T - f) % st = T - b := by
    have : T - f = (T - b) + st * j := by rw [hb, Int.mul_comm st]; omega
    rw [this, Int.add_mul_emod_self_left, Int.emod_eq_of_lt (by omega) (by omega)]
  omega
def timesB (f t : Int) : Bool := decide (0 ≤ f) && decide (f ≤ 9999) && decide (f ≤ t) && decide (t ≤ 10000)
end Go.Proofs.Ytogdllkbiibicaa.WinM
