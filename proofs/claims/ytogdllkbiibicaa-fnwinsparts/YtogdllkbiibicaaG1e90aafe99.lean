/- My own texts of one claim, laid together by program: SamFold, WinThin. -/
import Derived.Test.YtogdllkbiibicaaG81f535c845
import Derived.Shelf.Abstract
import Derived.Test.YtogdllkbiibicaaG341cf6558d
/- What the generic fold answers at slices of impl.Sample, whatever its two functions are. -/
namespace Go.Proofs.Ytogdllkbiibicaa.Sam
open Go.RowKit Rw
set_option linter.unusedVariables false
attribute [local go_sem ↓] Go.wp_at_zero Go.wp_at_succ
def fstep (al : E → E → Bool) (tg : E → E → E) (out : List E) (x : E) : List E := if h : out = [] then [x] else if al (out.getLast h) x = true then out.dropLast ++ [tg (out.getLast h) x] else out ++ [x]
def fold (al : E → E → Bool) (tg : E → E → E) (zs : List E) : List E := zs.foldl (fstep al tg) []
theorem fold_snoc (al : E → E → Bool) (tg : E → E → E) (zs : List E) (k : Nat) (h : k < zs.length) : fold al tg (zs.take (k + 1)) = fstep al tg (fold al tg (zs.take k)) (at' zs k) := by
  unfold fold; rw [at_snoc zs k h, List.foldl_append]; rfl
theorem fstep_nil (al : E → E → Bool) (tg : E → E → E) (x : E) : fstep al tg [] x = [x] := rfl
theorem fstep_same {al : E → E → Bool} (tg : E → E → E) (M : List E) {y x : E} (h : al y x = true) : fstep al tg (M ++ [y]) x = M ++ [tg y x] := by
  unfold fstep; rw [dif_neg (by simp)]; simp [h]
theorem fstep_new {al : E → E → Bool} (tg : E → E → E) (M : List E) {y x : E} (h : al y x = false) : fstep al tg (M ++ [y]) x = M ++ [y] ++ [x] := by
  unfold fstep; rw [dif_neg (by simp)]; simp [h]
theorem fstep_len (al : E → E → Bool) (tg : E → E → E) (L : List E) (x : E) : (fstep al tg L x).length ≤ L.length + 1 := by
  unfold fstep; split
  · simp
  · split <;> simp
theorem fold_len (al : E → E → Bool) (tg : E → E → E) (zs : List E) (k : Nat) (h : k ≤ zs.length) : (fold al tg (zs.take k)).length ≤ k := by
  induction k with
  | zero => simp [fold]
  | succ k ih => rw [fold_snoc al tg zs k (by omega)]; have := fstep_len al tg (fold al tg (zs.take k)) (at' zs k); have := ih (by omega); omega
theorem snoc_of {α : Type} (L : List α) (h : L ≠ []) : ∃ M y, L = M ++ [y] := ⟨L.dropLast, L.getLast h, (List.dropLast_concat_getLast h).symm⟩
theorem set_last (M : List E) (Y0 Y1 Z0 Z1 : Int) (m : Nat) (hm : m = M.length) : ((flat (M ++ [(Y0, Y1)])).set (m * 2) (.int .i64 Z0)).set (m * 2 + 1) (.int .i64 Z1) = flat (M ++ [(Z0, Z1)]) := by
  subst hm
  unfold flat
  rw [flatOf_append, flatOf_append, flatOf_one, flatOf_one]
  have := set_e (flatOf fl M) (.int .i64 Y0) (.int .i64 Y1) (.int .i64 Z0) (.int .i64 Z1) [] (M.length * 2) (by rw [flatOf_length flk])
  simpa [fl] using this
set_option maxRecDepth 100000 in
set_option maxHeartbeats 4000000 in
theorem folded_any {w : World} {v : Value} {zs : List E} (al : E → E → Bool) (tg : E → E → E) (g f : Nat) (cs : Array Value) (eg : ∀ args w, (callFunc g args).run Try.prog w = .ok (.enter g args) w) (ef : ∀ args w, (callFunc f args).run Try.prog w = .ok (.enter f args) w)
    (HK : Hid (∀ X0 X1 Y0 Y1 W, Below w.heap.size w W → Calls Try.prog g (#[.agg #[.int .i64 X0, .int .i64 X1], .agg #[.int .i64 Y0, .int .i64 Y1]] ++ cs) W fun e w' => e = .returned (.bool (al (X0, X1) (Y0, Y1))) ∧ Below W.heap.size W w'))
    (HT : Hid (∀ X0 X1 Y0 Y1 Z0 Z1 W, tg (X0, X1) (Y0, Y1) = (Z0, Z1) → Below w.heap.size w W → Calls Try.prog f #[.agg #[.int .i64 X0, .int .i64 X1], .agg #[.int .i64 Y0, .int .i64 Y1]] W fun e w' => e = .returned (.agg #[.int .i64 Z0, .int .i64 Z1]) ∧ Below W.heap.size W w'))
    (h : Is w v zs) (hn : zs.length ≤ 4194304) :
    Calls Try.prog 43 #[v, .func (.func g) #[] cs, .func (.func f) #[] #[]] w fun e w' => ∃ r, e = .returned r ∧ w'.ownsRow w.heap.size 41 2 r (fold al tg zs).length (flat (fold al tg zs)) ∧ Below w.heap.size w w' := by
  obtain ⟨i0, hi, hz0, hz1, hz2⟩ := info_parts info_e
  obtain ⟨-, a, cap, rfl, hc, hm, -, hr⟩ := id h
  obtain ⟨n, hnn⟩ : ∃ n, n = zs.length := ⟨_, rfl⟩
  rw [← hnn] at hc hr hn ⊢
  have HN := hide hnn
  unfold maxLen at hm
  clear hnn h
  go_enter Try.func43, Try.ntmps43
  go_wp2_with fail
  go_loopw [7, 13] (fun ov i wr => ∃ (k : Nat) (L : List E) (ao : Option Addr) (qo : Nat), k ≤ n ∧ i = .int .i64 k ∧ ov = .slice ao L.length qo ∧ L = fold al tg (zs.take k) ∧ wr.ownsRow w.heap.size 41 2 ov L.length (flat L) ∧ Below w.heap.size w wr) (fun _ i _ => n - (intOf i).toNat)
  case atStart => exact ⟨0, [], none, 0, Nat.zero_le _, rfl, rfl, by simp [fold], World.ownsRow_nil _ _ _ _, Below.refl _ _⟩
  case round =>
    obtain ⟨k, L, ao, qo, hk, rfl, rfl, hL, hown, hbel⟩ := hrel
    have hsz := hbel.size
    by_cases hlt : k < n
    · have hLk := fold_len al tg zs k (by have := unhide HN; omega)
      rw [← hL] at hLk
      have HS := hide (fold_snoc al tg zs k (by have := unhide HN; omega))
      rw [← hL] at HS
      obtain ⟨b, off, rfl, hbl, hcells⟩ := hr (by omega)
      have fa := flat_at zs k (by have := unhide HN; omega)
      have hc0 : wr.cell? ⟨b, off + k * 2, none⟩ = some (.int .i64 ((at' zs k).1)) := (hbel.cell (p := ⟨b, _, none⟩) hbl).trans (hcells (k * 2) _ (fa.1))
      have hc1 : wr.cell? ⟨b, off + k * 2 + 1, none⟩ = some (.int .i64 ((at' zs k).2)) := (hbel.cell (p := ⟨b, _, none⟩) hbl).trans (hcells (k * 2 + 1) _ (fa.2))
      obtain ⟨X0, X1, hX⟩ : ∃ X0 X1, (X0, X1) = at' zs k := ⟨_, _, rfl⟩
      rw [← hX] at hc0 hc1 HS
      have HX := hide hX
      clear fa hX hL
      have hk0 : (0 : Int) ≤ (k : Int) := Int.natCast_nonneg _
      have hk1 : (k : Int) < (n : Int) := by omega
      obtain ⟨W, hW⟩ : ∃ W, W = wr.alloc (.cells #[.int .i64 X0, .int .i64 X1] 41) := ⟨_, rfl⟩
      have hWb : Below w.heap.size w W := by rw [hW]; exact hbel.alloc hsz _
      have hWo : W.ownsRow w.heap.size 41 2 (.slice ao L.length qo) L.length (flat L) := by rw [hW]; exact hown.alloc _
      have HWs := hide (show W.heap.size = wr.heap.size + 1 by rw [hW]; simp)
      have hWs : wr.heap.size < W.heap.size := by rw [unhide HWs]; omega
      have hn0 : W.cell? ⟨wr.heap.size, 0, none⟩ = some (.int .i64 X0) := by rw [hW]; simp
      have hn1 : W.cell? ⟨wr.heap.size, 1, none⟩ = some (.int .i64 X1) := by rw [hW]; simp
      have HW := hide hW
      clear hW hown
      have hq0 : ∀ x : Cls W.heap.size W, x.val.cell? ⟨wr.heap.size, 0, none⟩ = some (.int .i64 X0) := fun x => by rw [x.cell hWs]; exact hn0
      have hq1 : ∀ x : Cls W.heap.size W, x.val.cell? ⟨wr.heap.size, 1, none⟩ = some (.int .i64 X1) := fun x => by rw [x.cell hWs]; exact hn1
      have hne := cls_nonempty W.heap.size W
      by_cases hLe : L = []
      · subst hLe
        have HF := hide (show fold al tg (zs.take (k + 1)) = [] ++ [(X0, X1)] by rw [unhide HS, fstep_nil]; rfl)
        clear HS
        simp only [List.length_nil] at hWo ⊢
        go_wp2_with fail
        rw [← unhide HW]
        refine region_cls (by kernel_rfl) (by kernel_rfl) ?_
        repeat (go_big_quiet_step ((fail)))
        refine wpQuiet_nil ?_
        rintro wq ⟨⟨_, hq⟩, rfl⟩
        have cq := hWb.trans (hq.mono hWb.size)
        have oq := own_below hWo hq
        have hsq := cq.size
        have hm0 : wq.cell? ⟨wr.heap.size, 0, none⟩ = some (.int .i64 X0) := (hq.cell (p := ⟨wr.heap.size, 0, none⟩) hWs).trans hn0
        have hm1 : wq.cell? ⟨wr.heap.size, 1, none⟩ = some (.int .i64 X1) := (hq.cell (p := ⟨wr.heap.size, 1, none⟩) hWs).trans hn1
        go_wp2_with (at_builtin; refine app_wp _ rfl _ _ _ rfl w.heap.size 41 i0 _ 2 16 Try.underlying25 hi hz0 hz1 hz2 rfl (by omega) _ _ _ rfl (oq.alloc _) _ 1 [.int .i64 X0, .int .i64 X1] rfl (lies_new rfl rfl (by unfold maxLen; omega)) (by simp [Value.oneCell']) (by unfold maxLen; omega) (by omega) (by simp; omega) ?_; intro vn wn on gn an)
        have R9 := below_grown (cq.alloc hsq _) (by simp; omega) gn (own_ge oq)
        have R2 : wn.ownsRow w.heap.size 41 2 vn (([] : List E) ++ [(X0, X1)]).length (flat (([] : List E) ++ [(X0, X1)])) := by unfold flat; rw [flatOf_append, flatOf_one, List.length_append]; exact on
        obtain ⟨an', qn', evn⟩ : ∃ a q, vn = Value.slice a (([] : List E) ++ [(X0, X1)]).length q := by obtain ⟨-, a, q, e, -⟩ := lies_of_own R2; exact ⟨a, q, e⟩
        clear on gn an
        go_wp2_with fail
        go_roundw
        case rel => exact ⟨k + 1, _, _, _, by omega, by go_num, evn, (unhide HF).symm, R2, R9⟩
        case measure => simp [intOf]; omega
      · obtain ⟨M, y, rfl⟩ := snoc_of L hLe
        obtain ⟨Y0, Y1⟩ := y
        clear hLe
        obtain ⟨m, hm'⟩ : ∃ m, m = M.length := ⟨_, rfl⟩
        have hlen : (M ++ [(Y0, Y1)]).length = m + 1 := by rw [List.length_append, hm']; rfl
        rw [hlen] at hWo hLk ⊢
        have HM := hide hm'
        have HLn := hide hlen
        clear hm' hlen
        obtain ⟨gb, rfl⟩ : ∃ gb, ao = some ⟨gb, 0, none⟩ := by
          rcases hWo.2 with ⟨h1, _⟩ | ⟨gb, cp, cu, h1, -⟩
          · simp at h1
          · exact ⟨gb, by simp only [Value.slice.injEq] at h1; exact h1.1⟩
        have hgl := own_lt hWo
        have hgg := own_ge hWo gb rfl
        have hqo : m + 1 ≤ qo ∧ qo ≤ 9223372036854775807 := by
          obtain ⟨-, a', c', h1, h2, h3, -⟩ := lies_of_own hWo
          simp only [Value.slice.injEq] at h1
          unfold maxLen at h3
          omega
        have fy := flat_at (M ++ [(Y0, Y1)]) m (by rw [unhide HLn]; omega)
        have ey : at' (M ++ [(Y0, Y1)]) m = (Y0, Y1) := by rw [at_get _ _ (by rw [unhide HLn]; omega)]; simp [unhide HM]
        rw [ey] at fy
        have hy0 : W.cell? ⟨gb, m * 2, none⟩ = some (.int .i64 Y0) := by rw [hWo.cellAt (m * 2) (by omega)]; exact fy.1
        have hy1 : W.cell? ⟨gb, m * 2 + 1, none⟩ = some (.int .i64 Y1) := by rw [hWo.cellAt (m * 2 + 1) (by omega)]; exact fy.2
        have qy0 : ∀ x : Cls W.heap.size W, x.val.cell? ⟨gb, m * 2, none⟩ = some (.int .i64 Y0) := fun x => by rw [x.cell hgl]; exact hy0
        have qy1 : ∀ x : Cls W.heap.size W, x.val.cell? ⟨gb, m * 2 + 1, none⟩ = some (.int .i64 Y1) := fun x => by rw [x.cell hgl]; exact hy1
        clear fy ey
        have hm0 : (0 : Int) ≤ (m : Int) := Int.natCast_nonneg _
        have HKx := hide (fun (x : Cls W.heap.size W) => unhide HK Y0 Y1 X0 X1 x.val (hWb.trans (x.isBelow.mono hWb.size)))
        cases hal : al (Y0, Y1) (X0, X1)
        · have HF := hide (show fold al tg (zs.take (k + 1)) = (M ++ [(Y0, Y1)]) ++ [(X0, X1)] by rw [unhide HS, fstep_new tg M hal])
          rw [hal] at HKx
          clear hal HS
          go_wp2_with fail
          rw [← unhide HW]
          refine region_cls (by kernel_rfl) (by kernel_rfl) ?_
          repeat (go_big_quiet_step ((go_at_fn g; exact cls_call (Nat.le_refl _) (unhide HKx _))))
          refine wpQuiet_nil ?_
          rintro wq ⟨⟨_, hq⟩, rfl⟩
          have cq := hWb.trans (hq.mono hWb.size)
          have oq := own_below hWo hq
          have hsq := cq.size
          have hm0 : wq.cell? ⟨wr.heap.size, 0, none⟩ = some (.int .i64 X0) := (hq.cell (p := ⟨wr.heap.size, 0, none⟩) hWs).trans hn0
          have hm1 : wq.cell? ⟨wr.heap.size, 1, none⟩ = some (.int .i64 X1) := (hq.cell (p := ⟨wr.heap.size, 1, none⟩) hWs).trans hn1
          have oq := (show wq.ownsRow w.heap.size 41 2 (.slice (some ⟨gb, 0, none⟩) (m + 1) qo) (m + 1) (flat (M ++ [(Y0, Y1)])) from oq)
          go_wp2_with (at_builtin; refine app_wp _ rfl _ _ _ rfl w.heap.size 41 i0 _ 2 16 Try.underlying25 hi hz0 hz1 hz2 rfl (by omega) _ _ _ rfl (oq.alloc _) _ 1 [.int .i64 X0, .int .i64 X1] rfl (lies_new rfl rfl (by unfold maxLen; omega)) (by simp [Value.oneCell']) (by unfold maxLen; omega) (by omega) (by simp; omega) ?_; intro vn wn on gn an)
          have R9 := below_grown (cq.alloc hsq _) (by simp; omega) gn (own_ge oq)
          have R2 : wn.ownsRow w.heap.size 41 2 vn ((M ++ [(Y0, Y1)]) ++ [(X0, X1)]).length (flat ((M ++ [(Y0, Y1)]) ++ [(X0, X1)])) := by unfold flat; rw [flatOf_append, flatOf_one, List.length_append, unhide HLn]; exact on
          obtain ⟨an', qn', evn⟩ : ∃ a q, vn = Value.slice a ((M ++ [(Y0, Y1)]) ++ [(X0, X1)]).length q := by obtain ⟨-, a, q, e, -⟩ := lies_of_own R2; exact ⟨a, q, e⟩
          clear on gn an
          go_wp2_with fail
          go_roundw
          case rel => exact ⟨k + 1, _, _, _, by omega, by go_num, evn, (unhide HF).symm, R2, R9⟩
          case measure => simp [intOf]; omega
        · have HF := hide (show fold al tg (zs.take (k + 1)) = M ++ [tg (Y0, Y1) (X0, X1)] by rw [unhide HS, fstep_same tg M hal])
          rw [hal] at HKx
          clear hal HS
          go_wp2_with fail
          rw [← unhide HW]
          refine region_cls (by kernel_rfl) (by kernel_rfl) ?_
          repeat (go_big_quiet_step ((go_at_fn g; exact cls_call (Nat.le_refl _) (unhide HKx _))))
          refine wpQuiet_nil ?_
          rintro wq ⟨⟨_, hq⟩, rfl⟩
          have cq := hWb.trans (hq.mono hWb.size)
          have oq := own_below hWo hq
          have hsq := cq.size
          have hm0 : wq.cell? ⟨wr.heap.size, 0, none⟩ = some (.int .i64 X0) := (hq.cell (p := ⟨wr.heap.size, 0, none⟩) hWs).trans hn0
          have hm1 : wq.cell? ⟨wr.heap.size, 1, none⟩ = some (.int .i64 X1) := (hq.cell (p := ⟨wr.heap.size, 1, none⟩) hWs).trans hn1
          have my0 : wq.cell? ⟨gb, m * 2, none⟩ = some (.int .i64 Y0) := (hq.cell (p := ⟨gb, _, none⟩) hgl).trans hy0
          have my1 : wq.cell? ⟨gb, m * 2 + 1, none⟩ = some (.int .i64 Y1) := (hq.cell (p := ⟨gb, _, none⟩) hgl).trans hy1
          obtain ⟨Z0, Z1, hZ⟩ : ∃ Z0 Z1, tg (Y0, Y1) (X0, X1) = (Z0, Z1) := ⟨_, _, rfl⟩
          rw [hZ] at HF
          have HTx := hide (fun W' (hb : Below w.heap.size w W') => unhide HT Y0 Y1 X0 X1 Z0 Z1 W' hZ hb)
          have OQ := hide oq
          clear hZ oq hne hq0 qy0 hq1 qy1 hWo
          have HT3 := hide (show Calls Try.prog f #[.agg #[.int .i64 Y0, .int .i64 Y1], .agg #[.int .i64 X0, .int .i64 X1]] wq.drew fun e w' => e = .returned (.agg #[.int .i64 Z0, .int .i64 Z1]) ∧ Below wq.heap.size wq w' from (unhide HTx _ cq.drew).mono fun e w' h => ⟨h.1, (Below.refl _ _).drew.trans h.2⟩)
          have hgq : gb < wq.heap.size := by have := hq.size; omega
          go_wp2_with fail
          go_region_with (go_at_fn f; refine (unhide HT3).mono ?_; rintro e w3 ⟨rfl, hb3⟩; have o3 := own_below (unhide OQ) hb3; have hd0 : w3.cell? ⟨gb, m * 2, none⟩ = some (.int .i64 Y0) := (hb3.cell (p := ⟨gb, _, none⟩) hgq).trans my0; have hf0 := o3.frozenAt (m * 2); have hd1 : w3.cell? ⟨gb, m * 2 + 1, none⟩ = some (.int .i64 Y1) := (hb3.cell (p := ⟨gb, _, none⟩) hgq).trans my1; have hf1 := o3.frozenAt (m * 2 + 1); have c3 := cq.trans (hb3.mono cq.size))
          all_goals
            have o4 := (o3.stored (m * 2) (.int .i64 Z0)).1
            have o5 := (o4.stored (m * 2 + 1) (.int .i64 Z1)).1
            rw [set_last M Y0 Y1 Z0 Z1 m (unhide HM)] at o5
            have R := hide ((c3.setCell (p := ⟨gb, m * 2, none⟩) hgg (.int .i64 Z0)).setCell (p := ⟨gb, m * 2 + 1, none⟩) hgg (.int .i64 Z1))
            have O := hide o5
            clear o4 hd0 hf0 o5 hd1 hf1 c3 o3
            have HL2 := hide (show (M ++ [(Z0, Z1)]).length = m + 1 by rw [List.length_append, unhide HM]; rfl)
            go_wp2_with fail
            go_roundw
            case rel => exact ⟨k + 1, M ++ [(Z0, Z1)], _, _, by omega, by go_num, by rw [unhide HL2], (unhide HF).symm, by rw [unhide HL2]; exact unhide O, unhide R⟩
            case measure => simp [intOf]; omega
    · go_wp2
      go_ret
      exact ⟨_, rfl, by rw [List.take_of_length_le (by have := unhide HN; omega)] at hL; subst hL; exact hown, hbel⟩
end Go.Proofs.Ytogdllkbiibicaa.Sam

/- What Thin answers, of the program and of the model, at every slice of samples and every step. -/
namespace Go.Proofs.Ytogdllkbiibicaa.Sam
open Go.RowKit Rw
set_option linter.unusedVariables false
attribute [local go_sem ↓] Go.wp_at_zero Go.wp_at_succ
def quoW (st x : Int) : Int := IntKind.i64.wrap (x.tdiv st)
def alT (st : Int) (x y : E) : Bool := decide (quoW st x.1 = quoW st y.1)
def second (x y : E) : E := y
theorem wrap_small {n : Int} (h0 : 0 ≤ n) (h1 : n ≤ 9999) : IntKind.i64.wrap n = n := by
  have hb : (2 : Int) ^ IntKind.i64.bits = 18446744073709551616 := by decide
  have hb' : (2 : Int) ^ (IntKind.i64.bits - 1) = 9223372036854775808 := by decide
  unfold IntKind.wrap
  simp only [hb, hb']
  rw [Int.emod_eq_of_lt h0 (by omega)]
  exact if_neg (fun h => by simp at h; omega)
theorem quo_in {st x : Int} (h0 : 0 < st) (h1 : 0 ≤ x) (h2 : x ≤ 9999) : quoW st x = x / st := by
  unfold quoW
  rw [Int.tdiv_eq_ediv_of_nonneg h1]
  have a := Int.ediv_nonneg h1 (Int.le_of_lt h0)
  have b : x / st ≤ x := Int.ediv_le_self _ h1
  exact wrap_small a (by omega)
theorem fold_thin {zs : List E} {st : Int} (hok : SampMath.ok zs = true) (h0 : 0 < st) : ∀ k, k ≤ zs.length → fold (alT st) second (zs.take k) = SampMath.foldTo zs st k := by
  intro k
  induction k with
  | zero => intro _; rfl
  | succ k ih =>
    intro hk
    rw [fold_snoc _ _ zs k (by omega), ih (by omega)]
    cases k with
    | zero => rfl
    | succ j =>
      have a := SampMath.ok_range hok (k := j) (by omega)
      have b := SampMath.ok_range hok (k := j + 1) (by omega)
      show fstep (alT st) second (SampMath.thinTo zs st j ++ [SampMath.at' zs j]) (SampMath.at' zs (j + 1)) = SampMath.thinTo zs st (j + 1) ++ [SampMath.at' zs (j + 1)]
      have q : alT st (SampMath.at' zs j) (SampMath.at' zs (j + 1)) = decide ((SampMath.at' zs j).1 / st = (SampMath.at' zs (j + 1)).1 / st) := by
        unfold alT; rw [quo_in h0 a.1 a.2.1, quo_in h0 b.1 b.2.1]
      by_cases e : (SampMath.at' zs j).1 / st = (SampMath.at' zs (j + 1)).1 / st
      · rw [fstep_same _ _ (by rw [q, decide_eq_true e]), SampMath.thinTo_no (SampMath.lastW_near (by omega) e.symm)]; rfl
      · rw [fstep_new _ _ (by rw [q, decide_eq_false e]), SampMath.thinTo_yes (SampMath.lastW_far (fun h => e h.symm))]
set_option maxRecDepth 100000 in
set_option maxHeartbeats 2000000 in
theorem thin1_any (X0 X1 Y0 Y1 st : Int) (B : Nat) (w : World) (hB : B < w.heap.size) (hc : w.cell? ⟨B, 0, none⟩ = some (.int .i64 st)) (h0 : 0 < st) :
    Calls Try.prog 42 #[.agg #[.int .i64 X0, .int .i64 X1], .agg #[.int .i64 Y0, .int .i64 Y1], .pointer (some ⟨B, 0, none⟩)] w fun e w' => e = .returned (.bool (alT st (X0, X1) (Y0, Y1))) ∧ Below w.heap.size w w' := by
  obtain ⟨W, hW⟩ : ∃ W, W = (w.alloc (.cells #[.int .i64 X0, .int .i64 X1] 41)).alloc (.cells #[.int .i64 Y0, .int .i64 Y1] 41) := ⟨_, rfl⟩
  have hWb : Below w.heap.size w W := by rw [hW]; exact ((Below.refl _ _).alloc (Nat.le_refl _) _).alloc (by simp) _
  have hWs : w.heap.size + 1 < W.heap.size := by rw [hW]; simp
  have c0 : W.cell? ⟨w.heap.size, 0, none⟩ = some (.int .i64 X0) := by rw [hW]; simp
  have c1 : W.cell? ⟨w.heap.size + 1, 0, none⟩ = some (.int .i64 Y0) := by rw [hW]; simp
  have c2 : W.cell? ⟨B, 0, none⟩ = some (.int .i64 st) := (hWb.cell (p := ⟨B, 0, none⟩) hB).trans hc
  have HW := hide hW
  clear hW
  have q0 : ∀ x : Cls W.heap.size W, x.val.cell? ⟨w.heap.size, 0, none⟩ = some (.int .i64 X0) := fun x => by rw [x.cell (by omega)]; exact c0
  have q1 : ∀ x : Cls W.heap.size W, x.val.cell? ⟨w.heap.size + 1, 0, none⟩ = some (.int .i64 Y0) := fun x => by rw [x.cell (by omega)]; exact c1
  have q2 : ∀ x : Cls W.heap.size W, x.val.cell? ⟨B, 0, none⟩ = some (.int .i64 st) := fun x => by rw [x.cell (by omega)]; exact c2
  obtain ⟨P, hP⟩ : ∃ P, X0.tdiv st = P := ⟨_, rfl⟩
  obtain ⟨Q, hQ⟩ : ∃ Q, Y0.tdiv st = Q := ⟨_, rfl⟩
  obtain ⟨P', hP'⟩ : ∃ P', IntKind.i64.wrap P = P' := ⟨_, rfl⟩
  obtain ⟨Q', hQ'⟩ : ∃ Q', IntKind.i64.wrap Q = Q' := ⟨_, rfl⟩
  have HA := hide (show alT st (X0, X1) (Y0, Y1) = decide (P' = Q') by unfold alT quoW; rw [hP, hQ, hP', hQ'])
  have hne := cls_nonempty W.heap.size W
  have hst : (st == 0) = false := by simp; omega
  have hst2 : ¬ st = 0 := by omega
  go_enter Try.func42, Try.ntmps42
  go_wp2_with fail
  rw [← unhide HW]
  refine region_cls (by kernel_rfl) (by kernel_rfl) ?_
  repeat (go_big_quiet_step (fail))
  refine wpQuiet_nil ?_
  rintro wq ⟨⟨_, hq⟩, rfl⟩
  go_wp2
  go_ret
  exact ⟨by rw [unhide HA]; first | rfl | (apply ret_bool; simp), hWb.trans (hq.mono hWb.size)⟩
set_option maxRecDepth 100000 in
theorem second_any (X0 X1 Y0 Y1 : Int) (w : World) : Calls Try.prog 44 #[.agg #[.int .i64 X0, .int .i64 X1], .agg #[.int .i64 Y0, .int .i64 Y1]] w fun e w' => e = .returned (.agg #[.int .i64 Y0, .int .i64 Y1]) ∧ Below w.heap.size w w' := by
  go_enter Try.func44, Try.ntmps44
  go_wp2
  refine bodyPost_ret (v := .agg #[.int .i64 Y0, .int .i64 Y1]) (by simp [results, Try.results44, go_sem]) rfl ⟨rfl, ?_⟩
  exact (((Below.refl _ _).alloc (Nat.le_refl _) _).alloc (by simp) _).alloc (by simp; omega) _
theorem step_any (st : Int) (w : World) : Calls Try.prog 41 #[.int .i64 st] w fun e w' => e = .returned (.bool (SampMath.thinB st)) ∧ w' = w := by
  rcases (show st < 1 ∨ (1 ≤ st ∧ 9999 < st) ∨ (1 ≤ st ∧ st ≤ 9999) from by omega) with h | ⟨h1, h2⟩ | ⟨h1, h2⟩
  · have hr := hide (show SampMath.thinB st = false by unfold SampMath.thinB; rw [decide_eq_false (by omega)]; rfl)
    go_enter Try.func41, Try.ntmps41
    go_wp2
    go_ret
    exact ⟨ret_bool (unhide hr).symm, rfl⟩
  · have hr := hide (show SampMath.thinB st = false by unfold SampMath.thinB; rw [decide_eq_false (show ¬ st ≤ 9999 by omega), Bool.and_false])
    have hd : decide (st ≤ 9999) = false := by simp; omega
    go_enter Try.func41, Try.ntmps41
    go_wp2
    go_ret
    exact ⟨ret_bool (by rw [unhide hr]), rfl⟩
  · have hr := hide (show SampMath.thinB st = true by unfold SampMath.thinB; rw [decide_eq_true h1, decide_eq_true h2]; rfl)
    go_enter Try.func41, Try.ntmps41
    go_wp2
    go_ret
    exact ⟨ret_bool (unhide hr).symm, rfl⟩
set_option maxRecDepth 100000 in
set_option maxHeartbeats 2000000 in
theorem impl_thin (st : Int) {w : World} {v : Value} {zs : List E} (h : Is w v zs) (hlen : zs.length ≤ 4194304) :
    Calls Try.prog 17 #[v, .int .i64 st] w fun e w' => ∃ r, e = .returned r ∧ w'.ownsRow w.heap.size 41 2 r (SampMath.thin zs st).length (flat (SampMath.thin zs st)) ∧ Below w.heap.size w w' := by
  obtain ⟨W, hW⟩ : ∃ W, W = w.alloc (.cells #[.int .i64 st] 3) := ⟨_, rfl⟩
  have hWb : Below w.heap.size w W := by rw [hW]; exact (Below.refl _ _).alloc (Nat.le_refl _) _
  have hWs : w.heap.size < W.heap.size := by rw [hW]; simp
  have c0 : W.cell? ⟨w.heap.size, 0, none⟩ = some (.int .i64 st) := by rw [hW]; simp
  have hWi : Is W v zs := h.below hWb
  obtain ⟨-, a, cap, rfl, -⟩ := id h
  have HOK := hide (impl_ok hWi)
  rw [hW] at HOK
  have HW := hide hW.symm
  have HI := hide hWi
  clear hW h hWi
  cases hok : SampMath.ok zs
  · have HK := hide (show SampMath.thin zs st = [] by unfold SampMath.thin; rw [hok]; rfl)
    rw [hok] at HOK
    clear hok
    go_enter Try.func17, Try.ntmps17
    go_wp2_with (go_at_call 38; refine (unhide HOK).mono ?_; rintro e w1 ⟨rfl, hb1⟩)
    go_ret
    refine ⟨_, rfl, by rw [unhide HK]; exact World.ownsRow_nil _ _ _ _, ?_⟩
    rw [unhide HW] at hb1
    exact hWb.trans (hb1.mono hWb.size)
  · rw [hok] at HOK
    cases hst : SampMath.thinB st
    · have HK := hide (show SampMath.thin zs st = [] by unfold SampMath.thin; rw [hst]; simp)
      have HS := hide hst
      clear hok hst
      go_enter Try.func17, Try.ntmps17
      go_wp2_with (first | (go_at_call 38; refine (unhide HOK).mono ?_; rintro e w1 ⟨rfl, hb1⟩; rw [unhide HW] at hb1; have c1 := (hb1.cell (p := ⟨w.heap.size, 0, none⟩) hWs).trans c0) | (go_at_call 41; refine (step_any _ _).mono ?_; rintro e w2 ⟨rfl, rfl⟩; rw [unhide HS]))
      go_ret
      exact ⟨_, rfl, by rw [unhide HK]; exact World.ownsRow_nil _ _ _ _, hWb.trans (hb1.mono hWb.size)⟩
    · have HK := hide (show SampMath.thin zs st = SampMath.thinTo zs st zs.length by unfold SampMath.thin; rw [hok, hst]; simp)
      have h0 : 0 < st := by unfold SampMath.thinB at hst; simp at hst; omega
      have HF := hide (show fold (alT st) second zs = SampMath.thin zs st by have := fold_thin hok h0 zs.length (Nat.le_refl _); rw [List.take_length] at this; rw [this, unhide HK, SampMath.foldTo_end])
      have HS := hide hst
      clear hok hst
      go_enter Try.func17, Try.ntmps17
      go_wp2_with (first | (go_at_call 38; refine (unhide HOK).mono ?_; rintro e w1 ⟨rfl, hb1⟩; rw [unhide HW] at hb1; have c1 := (hb1.cell (p := ⟨w.heap.size, 0, none⟩) hWs).trans c0) | (go_at_call 41; refine (step_any _ _).mono ?_; rintro e w2 ⟨rfl, rfl⟩; rw [unhide HS]) | (go_at_call 43; go_loud (refine (folded_any (alT st) second 42 44 #[.pointer (some ⟨w.heap.size, 0, none⟩)] (fun _ _ => by kernel_rfl) (fun _ _ => by kernel_rfl) (hide fun X0 X1 Y0 Y1 W' hb => thin1_any X0 X1 Y0 Y1 st w.heap.size W' (Nat.lt_of_lt_of_le hWs (Nat.le_trans hb1.size hb.size)) ((hb.cell (p := ⟨w.heap.size, 0, none⟩) (Nat.lt_of_lt_of_le hWs hb1.size)).trans c1) h0) (hide fun X0 X1 Y0 Y1 Z0 Z1 W' e hb => by cases e; exact second_any X0 X1 Y0 Y1 W') ((unhide HI).below hb1) hlen).mono ?_); rintro e w3 ⟨r, rfl, o3, b3⟩))
      go_ret
      have s1 := hb1.size
      exact ⟨_, rfl, by rw [unhide HF] at o3; exact own_mono o3 (by omega), (hWb.trans (hb1.mono hWb.size)).trans (b3.mono (by omega))⟩
set_option maxRecDepth 100000 in
set_option maxHeartbeats 4000000 in
theorem spec_thin (st : Int) {w : World} {v : Value} {zs : List E} (h : Is w v zs) (hlen : zs.length ≤ 4194304) :
    Calls Try.prog 16 #[v, .int .i64 st] w fun e w' => ∃ r, e = .returned r ∧ w'.ownsRow w.heap.size 41 2 r (SampMath.thin zs st).length (flat (SampMath.thin zs st)) ∧ Below w.heap.size w w' := by
  obtain ⟨i0, hi, hz0, hz1, hz2⟩ := info_parts info_e
  obtain ⟨W, hW⟩ : ∃ W, W = w.alloc (.cells #[] 41) := ⟨_, rfl⟩
  have hWb : Below w.heap.size w W := by rw [hW]; exact (Below.refl _ _).alloc (Nat.le_refl _) _
  have hWo : W.ownsRow w.heap.size 41 2 (.slice (some ⟨w.heap.size, 0, none⟩) 0 0) 0 [] := by rw [hW]; exact own_empty (Nat.le_refl _)
  have hWi : Is W v zs := h.below hWb
  obtain ⟨-, a, cap, rfl, hc, hm, -⟩ := id h
  have HOK := hide (l2ok hWi)
  rw [hW] at HOK
  have HW := hide hW.symm
  obtain ⟨n, hn⟩ : ∃ n, n = zs.length := ⟨_, rfl⟩
  rw [← hn] at hc hlen HOK ⊢
  have HL := hide (show Is w (.slice a n cap) zs by rw [hn]; exact h)
  have HN := hide hn
  unfold maxLen at hm
  clear hW h hWi hn
  cases hok : SampMath.ok zs
  · have HK := hide (show SampMath.thin zs st = [] by unfold SampMath.thin; rw [hok]; rfl)
    rw [hok] at HOK
    clear hok
    go_enter Try.func16, Try.ntmps16
    go_wp2_with (go_at_call 36; refine (unhide HOK).mono ?_; rintro e w1 ⟨rfl, hb1⟩; rw [unhide HW] at hb1)
    go_ret
    exact ⟨_, rfl, by rw [unhide HK]; exact own_below hWo hb1, hWb.trans (hb1.mono hWb.size)⟩
  · rw [hok] at HOK
    cases hst : SampMath.thinB st
    · have HK := hide (show SampMath.thin zs st = [] by unfold SampMath.thin; rw [hst]; simp)
      have HS := hide (show Zig.inB st 1 9999 = false from hst)
      clear hok hst
      go_enter Try.func16, Try.ntmps16
      go_wp2_with (first | (go_at_call 36; refine (unhide HOK).mono ?_; rintro e w1 ⟨rfl, hb1⟩; rw [unhide HW] at hb1) | (go_at_call 40; refine (Samp.in_is _ _ _ false _ (unhide HS)).mono ?_; rintro e w2 ⟨rfl, hw2⟩; subst hw2))
      go_ret
      exact ⟨_, rfl, by rw [unhide HK]; exact own_below hWo hb1, hWb.trans (hb1.mono hWb.size)⟩
    · have HK := hide (show SampMath.thin zs st = SampMath.thinTo zs st zs.length by unfold SampMath.thin; rw [hok, hst]; simp)
      have h0 : 0 < st := by unfold SampMath.thinB at hst; simp at hst; omega
      have HS := hide (show Zig.inB st 1 9999 = true from hst)
      have HO := hide hok
      have hst0 : (st == 0) = false := by simp; omega
      have hst2 : ¬ st = 0 := by omega
      clear hok hst
      go_enter Try.func16, Try.ntmps16
      go_wp2_with (first | (go_at_call 36; refine (unhide HOK).mono ?_; rintro e w1 ⟨rfl, hb1⟩; rw [unhide HW] at hb1) | (go_at_call 40; refine (Samp.in_is _ _ _ true _ (unhide HS)).mono ?_; rintro e w2 ⟨rfl, hw2⟩; subst hw2))
      go_loopw [5, 6] (fun ov i wr => ∃ (k : Nat) (L : List E) (ao : Option Addr) (qo : Nat), k ≤ n ∧ i = .int .i64 k ∧ ov = .slice ao L.length qo ∧ L = SampMath.thinTo zs st k ∧ wr.ownsRow w.heap.size 41 2 ov L.length (flat L) ∧ Below w.heap.size w wr) (fun _ i _ => n - (intOf i).toNat)
      case atStart => exact ⟨0, [], _, _, Nat.zero_le _, rfl, rfl, rfl, own_below hWo hb1, hWb.trans (hb1.mono hWb.size)⟩
      case round =>
        obtain ⟨k, L, ao, qo, hk, rfl, rfl, hL, hown, hbel⟩ := hrel
        have hsz := hbel.size
        have hs0 := hWb.size
        by_cases hlt : k < n
        · have hLk := SampMath.thinTo_le zs st k
          rw [← hL] at hLk
          obtain ⟨b, off, rfl, hbl, hcell⟩ := v_cell (unhide HL) hbel (by omega) (unhide HN)
          have hr0 := SampMath.ok_range (unhide HO) (k := k) (by have := unhide HN; omega)
          obtain ⟨T, hT⟩ : ∃ T, T = (SampMath.at' zs k).1 := ⟨_, rfl⟩
          obtain ⟨V, hV⟩ : ∃ V, V = (SampMath.at' zs k).2 := ⟨_, rfl⟩
          have HTV := hide (show SampMath.at' zs k = (T, V) by rw [hT, hV])
          have hx0 := (hcell k hlt).1
          have hx1 := (hcell k hlt).2
          rw [← hT] at hx0 hr0
          rw [← hV] at hx1 hr0
          have HT := hide hT
          clear hT hV
          have hbl1 : b < wr.heap.size := by omega
          have q0 : ∀ x : Cls wr.heap.size wr, x.val.cell? ⟨b, off + k * 2, none⟩ = some (.int .i64 T) := fun x => by rw [x.cell hbl1]; exact hx0
          have hk0 : (0 : Int) ≤ (k : Int) := Int.natCast_nonneg _
          have hk1 : (k : Int) < (n : Int) := by omega
          have hne := cls_nonempty wr.heap.size wr
          by_cases hend : k + 1 = n
          · have HY := hide (SampMath.thinTo_yes (SampMath.lastW_end (zs := zs) (st := st) (k := k) (by have := unhide HN; omega)))
            rw [← hL, unhide HTV] at HY
            have hd : ((k : Int) + 1 == (n : Int)) = true := by simp; omega
            have hd2 : decide ((k : Int) + 1 = (n : Int)) = true := by simp; omega
            have HE := hide hend
            clear hL hcell hend
            go_wp2_with fail
            refine region_cls (by kernel_rfl) (by kernel_rfl) ?_
            repeat (go_big_quiet_step (fail))
            refine wpQuiet_nil ?_
            rintro wq ⟨⟨_, hq⟩, rfl⟩
            have oq := own_below hown hq
            have cq := hbel.trans (hq.mono hsz)
            have hsq := hq.size
            have hy0 : wq.cell? ⟨b, off + k * 2, none⟩ = some (.int .i64 T) := (hq.cell (p := ⟨b, _, none⟩) hbl1).trans hx0
            have hy1 : wq.cell? ⟨b, off + k * 2 + 1, none⟩ = some (.int .i64 V) := (hq.cell (p := ⟨b, _, none⟩) hbl1).trans hx1
            go_wp2_with (at_builtin; refine app_wp _ rfl _ _ _ rfl w.heap.size 41 i0 _ 2 16 Try.underlying25 hi hz0 hz1 hz2 rfl (by omega) _ _ _ rfl (oq.alloc _) _ 1 [.int .i64 T, .int .i64 V] rfl (lies_new rfl rfl (by unfold maxLen; omega)) (by simp [Value.oneCell']) (by unfold maxLen; omega) (by omega) (by simp; omega) ?_; intro vn wn on gn an)
            have R9 : Below w.heap.size w wn := below_grown (cq.alloc (by omega) _) (by simp; omega) gn (own_ge oq)
            have R2 : wn.ownsRow w.heap.size 41 2 vn (L ++ [(T, V)]).length (flat (L ++ [(T, V)])) := by unfold flat; rw [flatOf_append, flatOf_one, List.length_append]; exact on
            obtain ⟨an', qn', evn⟩ : ∃ a q, vn = Value.slice a (L ++ [(T, V)]).length q := by obtain ⟨-, a, q, e, -⟩ := lies_of_own R2; exact ⟨a, q, e⟩
            clear on gn an
            go_wp2_with fail
            go_roundw
            case rel => exact ⟨k + 1, _, _, _, by omega, by go_num, evn, (unhide HY).symm, R2, R9⟩
            case measure => simp [intOf]; omega
          · have hd : ((k : Int) + 1 == (n : Int)) = false := by simp; omega
            have hd2 : decide ((k : Int) + 1 = (n : Int)) = false := by simp; omega
            have hk2 : (k : Int) + 1 < (n : Int) := by omega
            have hr1 := SampMath.ok_range (unhide HO) (k := k + 1) (by have := unhide HN; omega)
            obtain ⟨U, hU⟩ : ∃ U, U = (SampMath.at' zs (k + 1)).1 := ⟨_, rfl⟩
            have hx2 := (hcell (k + 1) (by omega)).1
            rw [← hU] at hx2 hr1
            have HU := hide hU
            clear hU hcell
            have q2 : ∀ x : Cls wr.heap.size wr, x.val.cell? ⟨b, off + (k + 1) * 2, none⟩ = some (.int .i64 U) := fun x => by rw [x.cell hbl1]; exact hx2
            obtain ⟨P, hP⟩ : ∃ P, T.tdiv st = P := ⟨_, rfl⟩
            obtain ⟨Q, hQ⟩ : ∃ Q, U.tdiv st = Q := ⟨_, rfl⟩
            obtain ⟨P', hP'⟩ : ∃ P', IntKind.i64.wrap P = P' := ⟨_, rfl⟩
            obtain ⟨Q', hQ'⟩ : ∃ Q', IntKind.i64.wrap Q = Q' := ⟨_, rfl⟩
            have eP : P' = T / st := by rw [← hP', ← hP]; exact quo_in h0 hr0.1 hr0.2.1
            have eQ : Q' = U / st := by rw [← hQ', ← hQ]; exact quo_in h0 hr1.1 hr1.2.1
            by_cases hne2 : Q' = P'
            · have HY := hide (SampMath.thinTo_no (SampMath.lastW_near (zs := zs) (st := st) (k := k) (by have := unhide HN; omega) (by rw [← unhide HU, ← unhide HT, ← eP, ← eQ]; exact hne2)))
              rw [← hL] at HY
              have hb9 : (Q' == P') = true := by simp [hne2]
              have hd9 : decide (Q' = P') = true := by simp [hne2]
              clear hL eP eQ hne2
              go_wp2_with fail
              refine region_cls (by kernel_rfl) (by kernel_rfl) ?_
              repeat (go_big_quiet_step (fail))
              refine wpQuiet_nil ?_
              rintro wq ⟨⟨_, hq⟩, rfl⟩
              go_wp2_with fail
              go_roundw
              case rel => exact ⟨k + 1, L, _, _, by omega, by go_num, rfl, (unhide HY).symm, own_below hown hq, hbel.trans (hq.mono hsz)⟩
              case measure => simp [intOf]; omega
            · have HY := hide (SampMath.thinTo_yes (SampMath.lastW_far (zs := zs) (st := st) (k := k) (by rw [← unhide HU, ← unhide HT, ← eP, ← eQ]; exact hne2)))
              rw [← hL, unhide HTV] at HY
              have hb9 : (Q' == P') = false := by simp [hne2]
              have hd9 : decide (Q' = P') = false := by simp [hne2]
              clear hL eP eQ hne2
              go_wp2_with fail
              refine region_cls (by kernel_rfl) (by kernel_rfl) ?_
              repeat (go_big_quiet_step (fail))
              refine wpQuiet_nil ?_
              rintro wq ⟨⟨_, hq⟩, rfl⟩
              have oq := own_below hown hq
              have cq := hbel.trans (hq.mono hsz)
              have hsq := hq.size
              have hy0 : wq.cell? ⟨b, off + k * 2, none⟩ = some (.int .i64 T) := (hq.cell (p := ⟨b, _, none⟩) hbl1).trans hx0
              have hy1 : wq.cell? ⟨b, off + k * 2 + 1, none⟩ = some (.int .i64 V) := (hq.cell (p := ⟨b, _, none⟩) hbl1).trans hx1
              go_wp2_with (at_builtin; refine app_wp _ rfl _ _ _ rfl w.heap.size 41 i0 _ 2 16 Try.underlying25 hi hz0 hz1 hz2 rfl (by omega) _ _ _ rfl (oq.alloc _) _ 1 [.int .i64 T, .int .i64 V] rfl (lies_new rfl rfl (by unfold maxLen; omega)) (by simp [Value.oneCell']) (by unfold maxLen; omega) (by omega) (by simp; omega) ?_; intro vn wn on gn an)
              have R9 : Below w.heap.size w wn := below_grown (cq.alloc (by omega) _) (by simp; omega) gn (own_ge oq)
              have R2 : wn.ownsRow w.heap.size 41 2 vn (L ++ [(T, V)]).length (flat (L ++ [(T, V)])) := by unfold flat; rw [flatOf_append, flatOf_one, List.length_append]; exact on
              obtain ⟨an', qn', evn⟩ : ∃ a q, vn = Value.slice a (L ++ [(T, V)]).length q := by obtain ⟨-, a, q, e, -⟩ := lies_of_own R2; exact ⟨a, q, e⟩
              clear on gn an
              go_wp2_with fail
              go_roundw
              case rel => exact ⟨k + 1, _, _, _, by omega, by go_num, evn, (unhide HY).symm, R2, R9⟩
              case measure => simp [intOf]; omega
        · have HF := hide (show L = SampMath.thin zs st by rw [unhide HK, hL, ← unhide HN, show k = n by omega])
          go_wp2
          go_ret
          exact ⟨_, rfl, by rw [← unhide HF]; exact hown, hbel⟩
end Go.Proofs.Ytogdllkbiibicaa.Sam
