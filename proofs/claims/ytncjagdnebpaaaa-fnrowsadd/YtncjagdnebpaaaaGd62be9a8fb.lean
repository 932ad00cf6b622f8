/- My own texts of one claim, laid together by program: RowAdd2, RowJoin, RowJoin2, JoinCnt. -/
import Derived.Test.YtncjagdnebpaaaaGe597c8c423
import Derived.Test.YtncjagdnebpaaaaG00539b006e
import Derived.Test.YtncjagdnebpaaaaG31fbfc5a42
import Derived.Test.YtncjagdnebpaaaaGe17f946c16
import Derived.Test.YtncjagdnebpaaaaG3907c7d8cb
import Derived.Test.YtncjagdnebpaaaaGe693881e78
/- A row more among rows: the model's l5Add, walked. -/
namespace Go.Proofs.Ytncjagdnebpaaaa.Row
open Go.RowKit Rw
set_option linter.unusedVariables false
attribute [local go_sem ↓] Go.wp_at_zero Go.wp_at_succ
theorem size_row : (sizeOf (Try.prog.elem 23)).run Try.prog = fun w => .ok 2 w := by kernel_rfl
theorem head_ok {w : World} {a : Option Addr} {N cap k : Nat} {xs : List Value} (h : Lies w (.slice a N cap) N 2 xs) (h0 : k ≤ N) :
    ∃ R, (∀ W, (Instr.slice 23 (.slice a N cap) none (some (.int .i64 (k : Int))) none).run Try.prog W = .ok R W) ∧ Lies w R k 2 (xs.take (k * 2)) := by
  have hc : N ≤ cap := by obtain ⟨-, a', cap', h1, h2, -⟩ := h; simp only [Value.slice.injEq, true_and] at h1; omega
  have h1 := take_lies (k := k) (cut_lies h (i := 0) (by omega)) (by omega)
  rw [Nat.zero_mul, List.drop_zero] at h1
  refine ⟨_, fun W => ?_, h1⟩
  have e := run_slice_h (P := Try.prog) W 23 a N cap (by kernel_rfl) .i64 (k : Int) (by omega) (by omega)
  rw [e]
  show ((sizeOf (Try.prog.elem 23)).run Try.prog W).andThen _ = _
  rw [size_row]
  simp [sliced]
theorem rest_ok {w : World} {a : Option Addr} {N cap k : Nat} {xs : List Value} (h : Lies w (.slice a N cap) N 2 xs) (h0 : k ≤ N) :
    ∃ R, (∀ W, (Instr.slice 23 (.slice a N cap) (some (.int .i64 (k : Int))) none none).run Try.prog W = .ok R W) ∧ Lies w R (N - k) 2 (xs.drop (k * 2)) := by
  have hc : N ≤ cap := by obtain ⟨-, a', cap', h1, h2, -⟩ := h; simp only [Value.slice.injEq, true_and] at h1; omega
  refine ⟨_, fun W => ?_, cut_lies h (i := k) (by omega)⟩
  have e := run_slice_l (P := Try.prog) W 23 a N cap (by kernel_rfl) .i64 (k : Int) (by omega) (by omega)
  rw [e]
  show ((sizeOf (Try.prog.elem 23)).run Try.prog W).andThen _ = _
  rw [size_row]
  simp [sliced]
theorem one_cell {lo : Nat} {w : World} {cs : List C} {L : List E} (h1 : cs.length = L.length) (h7 : ∀ i, i < L.length → (w.ownsRow lo 47 2 (cat cs i).1 (at' L i).1.length (Lab.flat (at' L i).1) ∧ w.ownsRow lo 26 2 (cat cs i).2 (at' L i).2.length (Sam.flat (at' L i).2))) (ds : List C) (hd : ∀ c ∈ ds, c ∈ cs) : ∀ u ∈ flatOf cl ds, u.oneCell' = true := by
  intro u hu
  obtain ⟨c, hc, hu⟩ := List.mem_flatMap.1 hu
  obtain ⟨i, hi, rfl⟩ := List.getElem_of_mem (hd c hc)
  have h := h7 i (by omega)
  rw [cat_get cs i hi] at h
  obtain ⟨-, a, q, e, -⟩ := lies_of_own h.1
  obtain ⟨-, a', q', e', -⟩ := lies_of_own h.2
  unfold cl at hu
  simp only [List.mem_cons, List.not_mem_nil, or_false] at hu
  rcases hu with rfl | rfl
  · rw [e]; rfl
  · rw [e']; rfl
/-- what l5Add answers -/
def Added (w : World) (o : Option (List E)) (e : Ending) (w' : World) : Prop :=
  ∃ r, e = .returned (.tuple #[r, .bool o.isSome]) ∧ (∀ R, o = some R → Own w.heap.size w'.heap.size w' r R) ∧ Below w.heap.size w w'
set_option maxRecDepth 100000 in
set_option maxHeartbeats 16000000 in
theorem l5add {w : World} {v u s : Value} {zs : List E} {ls : List Lab.E} {xs : List Sam.E} (h : Is w v zs) (hok : ok zs = true) (hl : Lab.Is w u ls) (hlo : Lab.ok ls = true) (hs : Sam.Is w s xs) (hso : SampMath.ok xs = true) :
    Calls Try.prog 25 #[v, u, s] w (Added w (add zs (ls, xs))) := by
  obtain ⟨i0, hi, hz0, hz1, hz2⟩ := info_parts Row.info_e
  obtain ⟨i1, hi1, hy0, hy1, hy2⟩ := info_parts Lab.info_e
  obtain ⟨i2, hi2, hx0, hx1, hx2⟩ := info_parts Sam.info_e
  have HCp := hide (l5copy h hok)
  have hn10 := ok_len hok
  have hll4 := (Lab.ok_small hlo).1
  have hxl := SampMath.ok_len hso
  have HL := hide (fun W (hb : Below w.heap.size w W) => hl.below hb)
  have HS := hide (fun W (hb : Below w.heap.size w W) => hs.below hb)
  have HOld := hide (fun (h : there zs ls = true) => add_old (x := (ls, xs)) hok h)
  have HNew := hide (fun (h : there zs ls = false) => add_new (x := (ls, xs)) hok h)
  have HPl := hide (place_le zs ls)
  have HTh := hide (fun (h : there zs ls = true) => show place zs ls < zs.length by unfold there at h; simp only [Bool.and_eq_true, decide_eq_true_eq] at h; exact h.1)
  have HSam := hide (fun k (hk : k < zs.length) => (step_is (ok_at hok hk)).2.2)
  have HSo := hide hso
  obtain ⟨-, au, qu, eu, -⟩ := hl
  obtain ⟨-, asl, qs, es, -⟩ := hs
  obtain ⟨l, hll⟩ : ∃ l, l = ls.length := ⟨_, rfl⟩
  obtain ⟨m, hm⟩ : ∃ m, m = xs.length := ⟨_, rfl⟩
  rw [← hll] at eu hll4
  rw [← hm] at es hxl
  have HLL := hide hll
  have HM := hide hm
  clear h hok hlo hso hll hm
  subst eu es
  go_enter Try.func25, Try.ntmps25
  go_wp2_with fail
  refine (unhide HCp).mono ?_
  rintro e W1 ⟨r, rfl, ho, b1⟩
  have z1 := b1.size
  have HO := hide ho
  have HAt := hide (fun W (hb : Below W1.heap.size W1 W) => l5at (ho.is.below hb) (unhide HL W (b1.trans (hb.mono z1))) (by omega))
  obtain ⟨cs, g1, g2, g3, g4, g5, g6, g7⟩ := ho
  obtain ⟨n, hn⟩ : ∃ n, n = zs.length := ⟨_, rfl⟩
  rw [← hn] at g2 hn10
  have HN := hide hn
  have hL := lies_of_own g2
  obtain ⟨ra, rq, rfl⟩ : ∃ a q, r = .slice a n q := by obtain ⟨-, a, q, e, -⟩ := hL; exact ⟨a, q, e⟩
  have HA := hide (And.intro g1 (And.intro g5 (And.intro g6 g7)))
  have hone := one_cell g1 (fun i hi => (g7 i hi).1)
  have hone1 := fun k => hone (cs.take k) (fun c hc => List.mem_of_mem_take hc)
  have hone2 := fun k => hone (cs.drop k) (fun c hc => List.mem_of_mem_drop hc)
  have HO1 := hide hone1
  have HO2 := hide hone2
  clear hone hone1 hone2
  have HG2 := hide g2
  have HLi := hide hL
  have hrq : n ≤ rq ∧ rq ≤ 9223372036854775807 := by obtain ⟨-, a', c', e, h2, h3, -⟩ := hL; simp only [Value.slice.injEq, true_and] at e; unfold maxLen at h3; omega
  clear HCp g1 g3 g4 g5 g6 g7 hn g2 hL
  obtain ⟨k, hk⟩ : ∃ k, k = place zs ls := ⟨_, rfl⟩
  have HPk := hide hk
  have hkn : k ≤ n := by rw [hk, unhide HN]; exact unhide HPl
  rw [← hk] at HAt
  have hk0 : (0 : Int) ≤ (k : Int) := Int.natCast_nonneg _
  have hk1 : (k : Int) ≤ (n : Int) := by omega
  clear hk HPl
  go_wp2_with fail
  refine (unhide HAt W1 (Below.refl _ _)).mono ?_
  rintro e W2 ⟨rfl, b2⟩
  have z2 := b2.size
  have b12 := b1.trans (b2.mono z1)
  clear HAt
  cases hth : there zs ls
  · have HAdd := hide (unhide HNew hth)
    rw [← unhide HPk] at HAdd
    clear HOld HNew HTh hth
    have leL := (unhide HL) (W2.alloc (.cells #[] 47)) (b12.alloc (by omega) _)
    have oeL : (W2.alloc (.cells #[] 47)).ownsRow W2.heap.size 47 2 (.slice (some ⟨W2.heap.size, 0, none⟩) 0 0) 0 [] := own_empty (Nat.le_refl _)
    have leL' : Lies (W2.alloc (.cells #[] 47)) (.slice au l qu) l 2 (Lab.flat ls) := by rw [unhide HLL] at leL ⊢; exact leL
    have beL : Below W2.heap.size W2 (W2.alloc (.cells #[] 47)) := (Below.refl _ _).alloc (Nat.le_refl _) _
    have HS1 := hide (fun W (hb : Below W2.heap.size W2 W) => show Lies W (.slice asl m qs) m 2 (Sam.flat xs) from by have := unhide HS W (b12.trans (hb.mono (by omega))); rw [unhide HM] at this ⊢; exact this)
    clear leL
    go_wp2_with (first | (at_builtin; refine app_wp _ rfl (.tmp 24) (.tmp 25) _ rfl W2.heap.size 47 i1 _ 2 32 Try.underlying24 hi1 hy0 hy1 hy2 rfl (by omega) _ 0 [] rfl oeL _ l (Lab.flat ls) rfl leL' (Lab.flat_oneCell _) (by unfold maxLen; omega) (by omega) (by simp) ?_; intro vl W3 ol gl al; rw [Nat.zero_add, List.nil_append] at ol; have b3 : Below W2.heap.size W2 W3 := below_grown beL (by simp) gl (fun k hk => by cases hk; exact Nat.le_refl _); obtain ⟨la, lq, rfl⟩ : ∃ a q, vl = .slice a l q := (by obtain ⟨-, a, q, e, -⟩ := lies_of_own ol; exact ⟨a, q, e⟩); have z3 := b3.size; have oeS : (W3.alloc (.cells #[] 26)).ownsRow W3.heap.size 26 2 (.slice (some ⟨W3.heap.size, 0, none⟩) 0 0) 0 [] := own_empty (Nat.le_refl _); have beS : Below W3.heap.size W3 (W3.alloc (.cells #[] 26)) := (Below.refl _ _).alloc (Nat.le_refl _) _; have leS := unhide HS1 (W3.alloc (.cells #[] 26)) (b3.alloc z3 _)) | (at_builtin; refine app_wp _ rfl (.tmp 27) (.tmp 28) _ rfl W3.heap.size 26 i2 _ 2 16 Try.underlying42 hi2 hx0 hx1 hx2 rfl (by omega) _ 0 [] rfl oeS _ m (Sam.flat xs) rfl leS (Sam.flat_oneCell _) (by unfold maxLen; omega) (by omega) (by simp) ?_; intro vs W4 os gs as'; rw [Nat.zero_add, List.nil_append] at os; have b4 : Below W3.heap.size W3 W4 := below_grown beS (by simp) gs (fun k hk => by cases hk; exact Nat.le_refl _); obtain ⟨sa, sq, rfl⟩ : ∃ a q, vs = .slice a m q := (by obtain ⟨-, a, q, e, -⟩ := lies_of_own os; exact ⟨a, q, e⟩)))
    have z4 := b4.size
    have ol4 := own_below ol b4
    have b24 := b3.trans (b4.mono z3)
    clear gl al gs as' oeL oeS beL beS leL' leS HS1 HL HS b3 b4 ol
    obtain ⟨W, hW⟩ : ∃ W, W = W4.alloc (.cells #[.slice la l lq, .slice sa m sq] 44) := ⟨_, rfl⟩
    have bW : Below W4.heap.size W4 W := by rw [hW]; exact (Below.refl _ _).alloc (Nat.le_refl _) _
    have zW : W.heap.size = W4.heap.size + 1 := by rw [hW]; simp
    have y0 : W.cell? ⟨W4.heap.size, 0, none⟩ = some (.slice la l lq) := by rw [hW]; simp [go_sem]
    have y1 : W.cell? ⟨W4.heap.size, 1, none⟩ = some (.slice sa m sq) := by rw [hW]; simp [go_sem]
    have olW := own_below ol4 bW
    have osW := own_below os bW
    have b2W : Below W2.heap.size W2 W := b24.trans (bW.mono b24.size)
    have b1W : Below W1.heap.size W1 W := b2.trans (b2W.mono z2)
    have bwW : Below w.heap.size w W := b12.trans (b2W.mono (by omega))
    have G2 := own_below (unhide HG2) b1W
    obtain ⟨R1, e1, lr1⟩ := head_ok ((unhide HLi).below b1W) hkn
    obtain ⟨R2, e2, lr2⟩ := rest_ok ((unhide HLi).below b1W) hkn
    rw [← flatOf_take clk] at lr1
    rw [← flatOf_drop clk] at lr2
    generalize hB : W4.heap.size = B at *
    have hBW : B < W.heap.size := by omega
    have hBa : B < W.heap.size + 1 := by omega
    have hBb : B < W.heap.size + 1 + 1 := by omega
    have hBn : ¬ B = W.heap.size := by omega
    have hBn2 : ¬ B = W.heap.size + 1 := by omega
    clear zW
    have be1 : Below W.heap.size W (W.alloc (.cells #[] 44)).drew := ((Below.refl _ _).alloc (Nat.le_refl _) _).drew
    have be2 : Below W.heap.size W ((W.alloc (.cells #[] 44)).alloc (.cells #[.slice la l lq, .slice sa m sq] 44)).drew := (((Below.refl _ _).alloc (Nat.le_refl _) _).alloc (by simp) _).drew
    have be3 : Below W.heap.size W ((W.alloc (.cells #[.slice la l lq, .slice sa m sq] 44)).alloc (.cells #[] 44)).drew := (((Below.refl _ _).alloc (Nat.le_refl _) _).alloc (by simp) _).drew
    have oe1 : World.ownsRow (W.alloc (.cells #[] 44)).drew W.heap.size 44 2 (.slice (some ⟨W.heap.size, 0, none⟩) 0 0) 0 [] := World.ownsRow.drew (own_empty (Nat.le_refl _))
    have oe2 : World.ownsRow ((W.alloc (.cells #[] 44)).alloc (.cells #[.slice la l lq, .slice sa m sq] 44)).drew W.heap.size 44 2 (.slice (some ⟨W.heap.size, 0, none⟩) 0 0) 0 [] := World.ownsRow.drew (World.ownsRow.alloc (own_empty (Nat.le_refl _)) _)
    have oe3 : World.ownsRow ((W.alloc (.cells #[.slice la l lq, .slice sa m sq] 44)).alloc (.cells #[] 44)).drew W.heap.size 44 2 (.slice (some ⟨W.heap.size + 1, 0, none⟩) 0 0) 0 [] := World.ownsRow.drew (Str.own_empty' (w := W.alloc (.cells #[.slice la l lq, .slice sa m sq] 44)) (by simp) (by simp))
    have hmx1 : 1 ≤ maxLen := by unfold maxLen; omega
    have ln2 : Lies ((W.alloc (.cells #[] 44)).alloc (.cells #[.slice la l lq, .slice sa m sq] 44)).drew (.slice (some ⟨W.heap.size + 1, 0, none⟩) 1 1) 1 2 [.slice la l lq, .slice sa m sq] := (lies_new (w := W.alloc (.cells #[] 44)) (by simp) rfl hmx1).drew
    have ln3 : Lies ((W.alloc (.cells #[.slice la l lq, .slice sa m sq] 44)).alloc (.cells #[] 44)).drew (.slice (some ⟨W.heap.size, 0, none⟩) 1 1) 1 2 [.slice la l lq, .slice sa m sq] := ((lies_new (w := W) rfl rfl hmx1).alloc _).drew
    have ls1 := lr1.below be1
    have ls2 := lr1.below be2
    have ls3 := lr1.below be3
    have hq0 : (0 : Int) ≤ (rq : Int) := Int.natCast_nonneg _
    have HR2 := hide lr2
    clear lr1 lr2 HLi
    go_wp2_with fail
    rw [← hW]
    clear hW
    go_region_law ((first | (refine app_step _ (by rfl) (.tmp 31) (.tmp 34) _ (by rfl) W.heap.size 44 i0 _ 2 48 Try.underlying23 hi hz0 hz1 hz2 rfl (by omega) _ 0 [] (by rfl) (by first | exact oe1 | exact oe2 | exact oe3) _ k _ (by rfl) (by first | exact ls1 | exact ls2 | exact ls3) (unhide HO1 k) (by unfold maxLen; omega) (by omega) (by simp <;> omega) ?_; intro va w7 oa ga aa; rw [Nat.zero_add, List.nil_append] at oa; have b7 : Below W.heap.size W w7 := (by first | exact below_grown be1 (by simp) ga (own_ge oe1) | exact below_grown be2 (by simp <;> omega) ga (own_ge oe2) | exact below_grown be3 (by simp <;> omega) ga (own_ge oe3)); obtain ⟨aa7, aq7, rfl⟩ : ∃ a q, va = .slice a k q := (by obtain ⟨-, a, q, e, -⟩ := lies_of_own oa; exact ⟨a, q, e⟩); have z7 := b7.size; have c70 : w7.cell? ⟨B, 0, none⟩ = some (.slice la l lq) := (b7.cell (p := ⟨B, _, none⟩) hBW).trans y0; have c71 : w7.cell? ⟨B, 1, none⟩ = some (.slice sa m sq) := (b7.cell (p := ⟨B, _, none⟩) hBW).trans y1; have hB7 : B < w7.heap.size := (by omega); have hB7n : ¬ B = w7.heap.size := (by omega); have bs1 : Below w7.heap.size w7 (w7.alloc (.cells #[.slice la l lq, .slice sa m sq] 44)) := (Below.refl _ _).alloc (Nat.le_refl _) _; have ln1 : Lies (w7.alloc (.cells #[.slice la l lq, .slice sa m sq] 44)) (.slice (some ⟨w7.heap.size, 0, none⟩) 1 1) 1 2 [.slice la l lq, .slice sa m sq] := lies_new (w := w7) rfl rfl hmx1) | (refine app_step _ (by rfl) (.tmp 35) (.tmp 37) _ (by rfl) W.heap.size 44 i0 _ 2 48 Try.underlying23 hi hz0 hz1 hz2 rfl (by omega) _ k _ (by rfl) (by first | exact oa | exact own_below oa bs1) _ 1 [.slice la l lq, .slice sa m sq] (by rfl) (by first | exact ln1 | exact ln2.grown ga (fun j hj hj' => by have e1 : some (W.heap.size + 1) = some j := hj; have e2 : some W.heap.size = some j := hj'; have e3 := Option.some.inj e1; have e4 := Option.some.inj e2; omega) | exact ln3.grown ga (fun j hj hj' => by have e1 : some W.heap.size = some j := hj; have e2 : some (W.heap.size + 1) = some j := hj'; have e3 := Option.some.inj e1; have e4 := Option.some.inj e2; omega)) (by simp [Value.oneCell']) (by unfold maxLen; omega) (by omega) (by first | omega | (simp; done) | (simp; omega)) ?_; intro vb w8 ob gb ab; have b8 : Below W.heap.size W w8 := (by first | exact below_grown (b7.trans (bs1.mono z7)) (by simp <;> omega) gb (own_ge oa) | exact below_grown b7 z7 gb (own_ge oa)); obtain ⟨ab8, bq8, rfl⟩ : ∃ a q, vb = .slice a (k + 1) q := (by obtain ⟨-, a, q, e, -⟩ := lies_of_own ob; exact ⟨a, q, e⟩); have z8 := b8.size; have lr8 := (unhide HR2).below b8) | (refine app_step _ (by rfl) (.tmp 38) (.tmp 41) _ (by rfl) W.heap.size 44 i0 _ 2 48 Try.underlying23 hi hz0 hz1 hz2 rfl (by omega) _ (k + 1) _ (by rfl) ob _ (n - k) _ (by rfl) lr8 (unhide HO2 k) (by unfold maxLen; omega) (by omega) (by first | omega | (simp; done) | (simp; omega)) ?_; intro vn wn on gn an)))
    all_goals
      have b9 : Below W.heap.size W wn := below_grown b8 z8 gn (own_ge ob)
      have z9 := b9.size
      have R9 : Below w.heap.size w wn := bwW.trans (b9.mono bwW.size)
      rw [show k + 1 + (n - k) = n + 1 by omega] at on
      obtain ⟨an', cn, rfl⟩ : ∃ a c, vn = .slice a (n + 1) c := by obtain ⟨-, a, c, e, -⟩ := lies_of_own on; exact ⟨a, c, e⟩
      have HOw := hide (show Own w.heap.size wn.heap.size wn (.slice an' (n + 1) cn) (zs.take k ++ (ls, xs) :: zs.drop k) by
        obtain ⟨g1, g5, g6, g7⟩ := unhide HA
        have hb9 := b1W.trans (b9.mono (by omega))
        exact own_mid (c := (.slice la l lq, .slice sa m sq)) (by rw [← unhide HN]; exact hkn) g1 g5 g6 (fun i hi => ⟨own_below (g7 i hi).1.1 hb9, own_below (g7 i hi).1.2 hb9⟩) (by rw [← unhide HN]; exact own_mono on (by omega)) (by simp only; rw [← unhide HLL]; exact own_mono (own_below olW b9) (by omega)) (by simp only; rw [← unhide HM]; exact own_mono (own_below osW b9) (by omega)) (fun i hi b hb hb' => by have h1 := own_block_lt (g7 i hi).1.1 b hb; have h2 := own_ge olW b hb'; omega) (fun i hi b hb hb' => by have h1 := own_block_lt (g7 i hi).1.2 b hb; have h2 := own_ge osW b hb'; omega))
      rw [← unhide HN, ← unhide HM] at HAdd
      clear oe1 oe2 oe3 ln2 ln3 ls1 ls2 ls3 be1 be2 be3 on gn an oa ob ga gb aa ab b7 b8 e1 e2 lr8 y0 y1 c70 c71 olW osW HR2 ln1 bs1
      by_cases h1 : n + 1 ≤ 10
      · have d1 : decide ((n : Int) + 1 ≤ 10) = true := by simp; omega
        by_cases h2 : m ≤ 1000
        · have HF := hide (show add zs (ls, xs) = some (zs.take k ++ (ls, xs) :: zs.drop k) by rw [unhide HAdd, decide_eq_true h1, decide_eq_true h2]; rfl)
          have d2 : decide ((m : Int) ≤ 1000) = true := by simp; omega
          clear HAdd
          go_wp2_with fail
          go_ret2
          refine ⟨.slice an' (n + 1) cn, by rw [unhide HF]; rfl, ?_, R9⟩
          intro R hR
          rw [unhide HF] at hR
          cases hR
          exact unhide HOw
        · have HF := hide (show add zs (ls, xs) = none by rw [unhide HAdd, decide_eq_true h1, decide_eq_false h2]; rfl)
          have d2 : decide ((m : Int) ≤ 1000) = false := by simp; omega
          clear HAdd
          go_wp2_with fail
          go_ret2
          refine ⟨.slice an' (n + 1) cn, by rw [unhide HF]; rfl, ?_, R9⟩
          intro R hR
          rw [unhide HF] at hR
          cases hR
      · have d1 : decide ((n : Int) + 1 ≤ 10) = false := by simp; omega
        have HF := hide (show add zs (ls, xs) = none by rw [unhide HAdd, decide_eq_false h1]; rfl)
        clear HAdd
        go_wp2_with fail
        go_ret2
        refine ⟨.slice an' (n + 1) cn, by rw [unhide HF]; rfl, ?_, R9⟩
        intro R hR
        rw [unhide HF] at hR
        cases hR
  · have hkz : k < zs.length := by rw [unhide HPk]; exact unhide HTh hth
    have hlt : k < n := by rw [unhide HN]; exact hkz
    have hz := unhide HSam k hkz
    have HF0 := hide (unhide HOld hth)
    rw [← unhide HPk] at HF0
    clear HOld HNew HTh hth HSam HO1 HO2 HLi
    obtain ⟨g, rfl⟩ : ∃ g, ra = some ⟨g, 0, none⟩ := by
      rcases (unhide HG2).2 with ⟨-, h0⟩ | ⟨g, cap, cur, e, -⟩
      · omega
      · simp only [Value.slice.injEq] at e
        exact ⟨g, e.1⟩
    have G2 := own_below (unhide HG2) b2
    have hgw := own_ge (unhide HG2) g rfl
    obtain ⟨g1, g5, g6, g7⟩ := unhide HA
    have hk7 := g7 k hkz
    have hgl := own_lt G2
    have c1 : W2.cell? ⟨g, k * 2 + 1, none⟩ = some (cat cs k).2 := (G2.cellAt (k * 2 + 1) (by omega)).trans (flat_at cs k (by omega)).2
    have f1 : W2.frozen? ⟨g, k * 2 + 1, none⟩ = false := G2.frozenAt _
    obtain ⟨a1, n1, q1, e1, hv1⟩ := view_of_is (Sam.is_of_own (own_below hk7.1.2 b2))
    obtain ⟨a2, n2, q2, e2, hv2⟩ := view_of_is (unhide HS W2 b12)
    cases e2
    rw [e1] at c1
    have hn1 : n1 ≤ 4194304 := by have := hv1.1; have := hz.1; omega
    have HJn := hide (Samp.l2join a1 asl n1 m q1 qs _ _ W2 hv1 hv2 hn1 (by omega))
    have hjo := Samp.join_of_ok hz.2 (unhide HSo)
    rw [hjo.1, hjo.2] at HF0
    obtain ⟨J, hJ⟩ : ∃ J, J = (SampMath.merge (at' zs k).2 xs).getD [] := ⟨_, rfl⟩
    obtain ⟨fl, hfl⟩ : ∃ fl, fl = (SampMath.merge (at' zs k).2 xs).isSome := ⟨_, rfl⟩
    rw [← hJ, ← hfl] at HF0 HJn
    obtain ⟨j, hj⟩ : ∃ j, j = J.length := ⟨_, rfl⟩
    rw [← hj] at HF0 HJn
    have HJL := hide hj
    clear hJ hfl hjo e1 hk7 g1 g5 g6 g7 hj HA HG2 G2 hv1 hv2 hz
    go_wp2_with fail
    refine (unhide HJn).mono ?_
    rintro e W3 ⟨xv, rfl, ox, b3⟩
    obtain ⟨xa, xq, rfl⟩ : ∃ a q, xv = .slice a j q := by obtain ⟨-, a, q, e, -⟩ := lies_of_own ox; exact ⟨a, q, e⟩
    have z3 := b3.size
    have c3 := (b3.cell (p := ⟨g, k * 2 + 1, none⟩) hgl).trans c1
    have f3 := (b3.frozen (p := ⟨g, k * 2 + 1, none⟩) hgl).trans f1
    have HOw := hide (own_set (hi := W1.heap.size) (w := W3) (L := zs) (J := J) (g := g) (q := rq) (k := k) (lo := w.heap.size) (xv := .slice xa j xq) (by rw [← unhide HN]; exact (unhide HO).below (b2.trans (b3.mono z2))) hkz (by rw [← unhide HJL, ← RSet.flat_eq]; exact own_mono ox (by omega)) (fun b hb => by have := own_ge ox b hb; omega))
    obtain ⟨W4, hW4⟩ : ∃ W4, W3.setCell ⟨g, k * 2 + 1, none⟩ (.slice xa j xq) = W4 := ⟨_, rfl⟩
    have o4 : OnlyAt g W3 W4 := by rw [← hW4]; exact (OnlyAt.refl _ _).setCell _ _
    have hs4 := o4.size
    have hb4 : Below w.heap.size w W4 := (b12.trans (b3.mono (by omega))).trans (o4.below hgw)
    rw [hW4, ← unhide HN] at HOw
    clear HJn o4 ox c1 f1
    have fin : ∀ R, R = zs.set k ((at' zs k).1, J) → Own w.heap.size W4.heap.size W4 (.slice (some ⟨g, 0, none⟩) n rq) R := fun R e => by rw [e, hs4]; exact unhide HOw
    have HFin := hide fin
    clear fin HOw hs4
    cases fl
    · have HF := hide (show add zs (ls, xs) = none by rw [unhide HF0]; rfl)
      clear HF0 HFin
      go_wp2_with fail
      go_ret2
      refine ⟨.slice (some ⟨g, 0, none⟩) n rq, by rw [unhide HF]; rfl, ?_, hb4⟩
      intro R hR
      rw [unhide HF] at hR
      cases hR
    · by_cases h2 : j ≤ 1000
      · have HF := hide (show add zs (ls, xs) = some (zs.set k ((at' zs k).1, J)) by rw [unhide HF0, decide_eq_true h2]; rfl)
        have d2 : decide ((j : Int) ≤ 1000) = true := by simp; omega
        clear HF0
        go_wp2_with fail
        go_ret2
        refine ⟨.slice (some ⟨g, 0, none⟩) n rq, by rw [unhide HF]; rfl, ?_, hb4⟩
        intro R hR
        rw [unhide HF] at hR
        cases hR
        exact unhide HFin _ rfl
      · have HF := hide (show add zs (ls, xs) = none by rw [unhide HF0, decide_eq_false h2]; rfl)
        have d2 : decide ((j : Int) ≤ 1000) = false := by simp; omega
        clear HF0 HFin
        go_wp2_with fail
        go_ret2
        refine ⟨.slice (some ⟨g, 0, none⟩) n rq, by rw [unhide HF]; rfl, ?_, hb4⟩
        intro R hR
        rw [unhide HF] at hR
        cases hR
end Go.Proofs.Ytncjagdnebpaaaa.Row

/- RowsJoin of the program: all rows are put to a set. -/
namespace Go.Proofs.Ytncjagdnebpaaaa.Row
open Go.RowKit Rw
set_option linter.unusedVariables false
attribute [local go_sem ↓] Go.wp_at_zero Go.wp_at_succ
theorem own_wide {lo hi lo' hi' : Nat} {w : World} {v : Value} {zs : List E} (h : Own lo hi w v zs) (h1 : lo' ≤ lo) (h2 : hi ≤ hi') (h3 : hi' ≤ w.heap.size) : Own lo' hi' w v zs := by
  obtain ⟨cs, g1, g2, g3, g4, g5, g6, g7⟩ := h
  exact ⟨cs, g1, own_mono g2 h1, fun k hk => by have := g3 k hk; omega, h3, g5, g6, fun i hi => ⟨⟨own_mono (g7 i hi).1.1 h1, own_mono (g7 i hi).1.2 h1⟩, fun k hk => by have := (g7 i hi).2.1 k hk; omega, fun k hk => by have := (g7 i hi).2.2 k hk; omega⟩⟩
set_option maxRecDepth 100000 in
set_option maxHeartbeats 8000000 in
theorem putAll_any {lo B mb n0 : Nat} {w0 w : World} {v : Value} {L ys : List E} (hlo : lo = w0.heap.size) (hb0 : Below lo w0 w) (hB : RSet.Built lo B mb n0 w L) (hF : Fine L) (hL : L.length ≤ 20) (hn0 : n0 ≤ 20) (h : Is w0 v ys) (hg : ∀ x ∈ ys, good x) (hok : ok ys = true) :
    Calls Try.prog 42 #[.pointer (some ⟨B, 0, none⟩), v] w fun e w' => (∃ R n', insAll L ys = some R ∧ e = .returned (.bool true) ∧ n' ≤ n0 + 10 ∧ RSet.Built lo B mb n' w' R ∧ RSet.Two B mb w w') ∨ (insAll L ys = none ∧ e = .returned (.bool false) ∧ RSet.Two B mb w w') := by
  have hn10 := ok_len hok
  have HOK := hide hok
  have HFy := hide (fine_ok hok)
  have HF := hide hF
  have hlt0 := hB.ltB
  have HB0 := hide hB
  obtain ⟨cs, hcs, hLi, hE⟩ := h
  have HE := hide hE
  have HG := hide hg
  obtain ⟨-, a, cap, rfl, hc, hmx, -, hr⟩ := hLi
  unfold maxLen at hmx
  obtain ⟨l, hl⟩ : ∃ l, l = ys.length := ⟨_, rfl⟩
  rw [← hl] at hc hr hcs hn10 ⊢
  have HN := hide hl
  have HC := hide hcs
  have HT0 := hide (show insAll L (ys.take 0) = some L from rfl)
  have hsz0 := hb0.size
  subst hlo
  clear hl hE hcs hg hok hB hF
  go_enter Try.func42, Try.ntmps42
  go_wp2_with fail
  go_loopw [9] (fun i wr => ∃ (k n : Nat) (R : List E), k ≤ l ∧ i = .int .i64 k ∧ n ≤ n0 + k ∧ Hid (insAll L (ys.take k) = some R) ∧ Hid (RSet.Built w0.heap.size B mb n wr R) ∧ RSet.Two B mb w wr) (fun i _ => l - (intOf i).toNat)
  case atStart => exact ⟨0, n0, L, Nat.zero_le _, rfl, Nat.le_refl _, HT0, HB0, RSet.Two.refl _ _ _⟩
  case round =>
    clear HB0 HT0
    obtain ⟨k, n, R, hk, rfl, hnk, HT, HB, h2⟩ := hrel
    have hsz := h2.size
    have hbel : Below w0.heap.size w0 wr := hb0.trans (h2.below hlt0.2.2.1 hlt0.2.2.2 hsz0)
    by_cases hlt : k < l
    · obtain ⟨b, off, rfl, hbl, hcells⟩ := hr (by omega)
      have fa := flat_at cs k (by have := unhide HC; omega)
      have hc0 : wr.cell? ⟨b, off + k * 2, none⟩ = some (cat cs k).1 := (hbel.cell (p := ⟨b, _, none⟩) hbl).trans (hcells (k * 2) _ fa.1)
      have hc1 : wr.cell? ⟨b, off + k * 2 + 1, none⟩ = some (cat cs k).2 := (hbel.cell (p := ⟨b, _, none⟩) hbl).trans (hcells (k * 2 + 1) _ fa.2)
      have hkz : k < ys.length := by have := unhide HN; omega
      have hEk := unhide HE k hkz
      have hgk := unhide HG (at' ys k) (at_mem ys k hkz)
      have hst := step_is (ok_at (unhide HOK) hkz)
      have hFR := insAll_fine (ys.take k) (unhide HF) (fun x hx => fine_one (unhide HFy) (List.mem_of_mem_take hx)) (unhide HT)
      have hRl : R.length ≤ 30 := by have := hFR.2; rw [List.length_take] at this; omega
      have hsn := insAll_step hkz (unhide HT)
      obtain ⟨⟨ls, xs⟩, hX⟩ : ∃ x, x = at' ys k := ⟨_, rfl⟩
      rw [← hX] at hEk hgk hst hsn
      simp only at hst
      obtain ⟨c0, c1, hY⟩ : ∃ c0 c1, (c0, c1) = cat cs k := ⟨_, _, rfl⟩
      rw [← hY] at hc0 hc1 hEk
      have hE1 : Lab.Is w0 c0 ls := hEk.1
      have hE2 : Sam.Is w0 c1 xs := hEk.2
      obtain ⟨-, a0, q0, e0, -⟩ := hE1
      obtain ⟨-, a1, q1, e1, -⟩ := hE2
      have hE1 : Lab.Is w0 c0 ls := hEk.1
      have hE2 : Sam.Is w0 c1 xs := hEk.2
      clear fa hEk hX hY
      have hxne : xs ≠ [] := fun e => by rw [e] at hst; simp at hst
      have hk0 : (0 : Int) ≤ (k : Int) := Int.natCast_nonneg _
      have hk1 : (k : Int) < (l : Int) := by omega
      have hWf : ∀ o, Below wr.heap.size wr (wr.alloc o) := fun o => (Below.refl _ _).alloc (Nat.le_refl _) _
      have HP := hide (fun (W : World) (hb : Below wr.heap.size wr W) => RSet.built_put ((unhide HB).below hb) hFR.1 (by omega) (by omega) (hE1.below (hbel.trans (hb.mono (by omega)))) hgk.1.2 hst.1 (by rw [← e1]; exact smp_of_lies (hE2.below (hbel.trans (hb.mono (by omega)))) hxne) rfl hst.2.2.2 (by omega) (by omega) (by have := hb.size; omega))
      rw [← hsn] at HP
      clear hgk hst hsn hE1 hE2 hxne hFR HB HT
      subst e0 e1
      go_wp2_with fail
      obtain ⟨W, hW⟩ : ∃ W, W = wr.alloc (.cells #[.slice a0 ls.length q0, .slice a1 xs.length q1] 44) := ⟨_, rfl⟩
      rw [← hW]
      have bW : Below wr.heap.size wr W := by rw [hW]; exact hWf _
      clear hW
      refine (unhide HP W bW).mono ?_
      rintro e w4 (⟨R', hR', rfl, hB4, t4⟩ | ⟨hNo, rfl, t4⟩)
      · have t5 := (h2.trans (RSet.Two.of_below bW)).trans t4
        have HB4 := hide hB4
        have HT4 := hide hR'
        clear HP hB4 t4 hR'
        go_wp2_with fail
        go_roundw
        case rel => exact ⟨k + 1, n + 1, R', by omega, by go_num, by omega, HT4, HB4, t5⟩
        case measure => simp [intOf]; omega
      · have t5 := (h2.trans (RSet.Two.of_below bW)).trans t4
        have HNo := hide (insAll_take_none _ hNo)
        clear HP t4 hNo
        go_wp2_with fail
        go_ret
        exact .inr ⟨unhide HNo, rfl, t5⟩
    · obtain rfl : k = l := by omega
      have HT' := hide (show insAll L ys = some R by have := unhide HT; rwa [List.take_of_length_le (by have := unhide HN; omega)] at this)
      clear HT
      go_wp2_with fail
      go_ret
      exact .inl ⟨R, n, unhide HT', rfl, by omega, unhide HB, h2⟩
set_option maxRecDepth 100000 in
set_option maxHeartbeats 8000000 in
theorem impl_join {w : World} {v u : Value} {zs ys : List E} (h : Is w v zs) (h' : Is w u ys) (hg : ∀ x ∈ zs, good x) (hlen : zs.length ≤ maxLen) (hg' : ∀ x ∈ ys, good x) (hlen' : ys.length ≤ maxLen) :
    Calls Try.prog 21 #[v, u] w fun e w' => ∃ r, e = .returned (.tuple #[r, .bool (join zs ys).2]) ∧ Own w.heap.size w'.heap.size w' r (join zs ys).1 ∧ Below w.heap.size w w' := by
  have HO := hide (impl_ok h hg hlen)
  have HO' := hide (fun W (hb : Below w.heap.size w W) => impl_ok (h'.below hb) hg' hlen')
  cases hok : ok zs
  · have HR := hide (join_bad1 (b := ys) hok)
    rw [hok] at HO
    clear h h' hg hg' hok
    go_enter Try.func21, Try.ntmps21
    go_wp2_with fail
    refine (unhide HO).mono ?_
    rintro e w1 ⟨rfl, b1⟩
    go_wp2_with fail
    go_ret2
    exact ⟨.slice none 0 0, by rw [unhide HR]; rfl, by rw [unhide HR]; exact own_nil w.heap.size w1, b1⟩
  cases hok' : ok ys
  · have HR := hide (join_bad2 (a := zs) hok')
    rw [hok] at HO
    rw [hok'] at HO'
    clear h h' hg hg' hok hok'
    go_enter Try.func21, Try.ntmps21
    go_wp2_with fail
    refine (unhide HO).mono ?_
    rintro e w1 ⟨rfl, b1⟩
    go_wp2_with fail
    refine (unhide HO' w1 b1).mono ?_
    rintro e w2 ⟨rfl, b2⟩
    have b12 := b1.trans (b2.mono b1.size)
    go_wp2_with fail
    go_ret2
    exact ⟨.slice none 0 0, by rw [unhide HR]; rfl, by rw [unhide HR]; exact own_nil w.heap.size w2, b12⟩
  rw [hok] at HO
  rw [hok'] at HO'
  have HPa := hide (fun (W : World) (B mb n : Nat) (hb : Below w.heap.size w W) (hB : RSet.Built w.heap.size B mb n W []) (hn : n ≤ 20) => putAll_any rfl hb hB fine_nil (by simp) hn h hg hok)
  have HPb := hide (fun (W : World) (B mb n : Nat) (hb : Below w.heap.size w W) (hB : RSet.Built w.heap.size B mb n W zs) (hn : n ≤ 20) => putAll_any rfl hb hB (fine_ok hok) (by have := ok_len hok; omega) hn h' hg' hok')
  have HSelf := hide (insAll_self hok)
  have HNo := hide (fun h => join_no hok hok' h)
  have HYes := hide (fun R h => join_yes (R := R) hok hok' h)
  have HMany := hide (fun R h => join_many (R := R) hok hok' h)
  have HFine := hide (fun R (h : insAll zs ys = some R) => insAll_fine ys (fine_ok hok) (fun x hx => fine_one (fine_ok hok') hx) h)
  have HL := hide (And.intro (ok_len hok) (ok_len hok'))
  clear h h' hg hg' hok hok' hlen hlen'
  go_enter Try.func21, Try.ntmps21
  go_wp2_with fail
  refine (unhide HO).mono ?_
  rintro e w0 ⟨rfl, b0⟩
  go_wp2_with fail
  refine (unhide HO' w0 b0).mono ?_
  rintro e w1 ⟨rfl, b1'⟩
  have b1 := b0.trans (b1'.mono b0.size)
  clear b1' b0
  go_wp2_with fail
  refine (RSet.new_any w1).mono ?_
  rintro e w2 ⟨mb, rfl, hmb, hM2, b2⟩
  have z1 := b1.size
  have z2 := b2.size
  go_wp2_with fail
  obtain ⟨wa, hwa⟩ : ∃ wa, wa = w2.alloc (.cells #[.slice none 0 0, .map (some mb)] 69) := ⟨_, rfl⟩
  rw [← hwa]
  have ba : Below w2.heap.size w2 wa := by rw [hwa]; exact (Below.refl _ _).alloc (Nat.le_refl _) _
  have za : wa.heap.size = w2.heap.size + 1 := by rw [hwa]; simp
  have bwa : Below w.heap.size w wa := (b1.trans (b2.mono z1)).trans (ba.mono (by omega))
  have hmlt := hM2.lt
  have hB0 : RSet.Built w.heap.size w2.heap.size mb 0 wa [] := ⟨fun _ => none, fun _ => ([], []), ⟨by omega, by omega, by omega, by omega, ⟨.slice none 0 0, by rw [hwa]; simp [go_sem], World.ownsRow_nil _ _ _ _, fun k hk => by cases hk⟩, by rw [hwa]; simp [go_sem], by rw [hwa]; simp [go_sem], hM2.below ba, fun k => by simp, fun k c hc => (by cases hc), fun k k' c c' _ hc => (by cases hc)⟩, rfl⟩
  have HB0 := hide hB0
  have hlows : w.heap.size ≤ w2.heap.size := by omega
  have hlowm : w.heap.size ≤ mb := by omega
  generalize hBB : w2.heap.size = B at *
  clear hwa hB0 ba hM2 hBB b1 b2 HO HO'
  refine (unhide HPa wa B mb 0 bwa (unhide HB0) (by omega)).mono ?_
  rintro e w3 (⟨R, n3, hR, rfl, hn3, hB3, t3⟩ | ⟨hN, -, -⟩)
  case inr => rw [unhide HSelf] at hN; cases hN
  rw [unhide HSelf] at hR
  cases hR
  have b3 : Below w.heap.size w w3 := bwa.trans (t3.below hlows hlowm (by omega))
  have HB3 := hide hB3
  clear hB3 t3 HPa HB0 HSelf
  go_wp2_with fail
  refine (unhide HPb w3 B mb n3 b3 (unhide HB3) (by omega)).mono ?_
  rintro e w4 (⟨R, n4, hR, rfl, hn4, hB4, t4⟩ | ⟨hN, rfl, t4⟩)
  case inr =>
    have HR := hide (unhide HNo hN)
    have b4 : Below w.heap.size w w4 := b3.trans (t4.below hlows hlowm b3.size)
    clear hN HPb HB3 t4 HNo HYes HMany
    go_wp2_with fail
    go_ret2
    exact ⟨.slice none 0 0, by rw [unhide HR]; rfl, by rw [unhide HR]; exact own_nil w.heap.size w4, b4⟩
  have b4 : Below w.heap.size w w4 := b3.trans (t4.below hlows hlowm b3.size)
  have hfR := unhide HFine R hR
  have hRl : R.length ≤ 20 := by have := unhide HL; omega
  have HRw := hide (RSet.built_rows hB4 (fine_sorted hfR.1) (by omega) hfR.1.lab b4.size)
  have HfR := hide hfR.1
  have HRs := hide hR
  clear hB4 t4 HPb HB3 hfR hR
  go_wp2_with fail
  refine (unhide HRw).mono ?_
  rintro e w5 ⟨r, rfl, ho, b5'⟩
  have b5 := b4.trans (b5'.mono b4.size)
  have HO5 := hide (impl_ok ho.is (fine_good (unhide HfR)) (by unfold maxLen; omega))
  have HOw := hide ho
  obtain ⟨ra, rl, rq, rfl⟩ := ho.form
  clear ho b5' HRw
  go_wp2_with fail
  refine (unhide HO5).mono ?_
  rintro e w6 ⟨rfl, b6'⟩
  have b6 := b5.trans (b6'.mono b5.size)
  have HO6 := hide ((unhide HOw).below b6')
  have HZ := hide b6'.size
  clear HO5 b6'
  cases hkR : ok R
  · have HR := hide (unhide HMany R (unhide HRs) hkR)
    go_wp2_with fail
    go_ret2
    exact ⟨.slice none 0 0, by rw [unhide HR]; rfl, by rw [unhide HR]; exact own_nil w.heap.size w6, b6⟩
  · have HR := hide (unhide HYes R (unhide HRs) hkR)
    go_wp2_with fail
    go_ret2
    exact ⟨.slice ra rl rq, by rw [unhide HR]; rfl, by rw [unhide HR]; exact own_wide (unhide HO6) (Nat.le_refl _) (unhide HZ) (Nat.le_refl _), b6⟩
end Go.Proofs.Ytncjagdnebpaaaa.Row

/- RowsJoin and RowsAdd of the model. -/
namespace Go.Proofs.Ytncjagdnebpaaaa.Row
open Go.RowKit Rw
set_option linter.unusedVariables false
attribute [local go_sem ↓] Go.wp_at_zero Go.wp_at_succ
theorem addAll_app : ∀ (b c : List E) (L : List E), addAll L (b ++ c) = (addAll L b).bind fun R => addAll R c
  | [], c, L => rfl
  | y :: b, c, L => by
    rw [List.cons_append, addAll, addAll]
    cases e : add L y with
    | none => rfl
    | some R => rw [Option.bind_some, Option.bind_some]; exact addAll_app b c R
theorem addAll_take_none {L b : List E} (k : Nat) (h : addAll L (b.take k) = none) : addAll L b = none := by
  rw [← List.take_append_drop k b, addAll_app, h]; rfl
theorem addAll_step {L b R : List E} {k : Nat} (hk : k < b.length) (h : addAll L (b.take k) = some R) : addAll L (b.take (k + 1)) = add R (at' b k) := by
  rw [take_snoc hk, addAll_app, h, Option.bind_some, addAll]
  cases add R (at' b k) <;> rfl
theorem add_ok {L R : List E} {x : E} (hL : ok L = true) (hx : Fine [x]) (h : add L x = some R) : ok R = true := by
  unfold add at h
  cases e : ins L x with
  | none => rw [e] at h; cases h
  | some S =>
    rw [e, Option.bind_some] at h
    split at h
    · rename_i hs
      cases h
      rw [ok_of (ins_fine (fine_ok hL) hx e).1]; exact hs
    · cases h
theorem addAll_ok : ∀ (b : List E) {L R : List E}, ok L = true → (∀ x ∈ b, Fine [x]) → addAll L b = some R → ok R = true
  | [], L, R, hL, _, h => by cases h; exact hL
  | x :: b, L, R, hL, hb, h => by
    rw [addAll] at h
    cases e : add L x with
    | none => rw [e] at h; cases h
    | some S =>
      rw [e, Option.bind_some] at h
      exact addAll_ok b (add_ok hL (hb x (List.mem_cons_self ..)) e) (fun y hy => hb y (List.mem_cons_of_mem _ hy)) h
end Go.Proofs.Ytncjagdnebpaaaa.Row

/- How much there is at most in rows of both. -/
namespace Go.Proofs.Ytncjagdnebpaaaa.Row
open Go.RowKit Rw
theorem join_is (a b : List E) : (join a b).2 = true ∧ ok (join a b).1 = true ∨ join a b = ([], false) := by
  by_cases h : ok a = true ∧ ok b = true
  · rw [join_set h.1 h.2]
    cases e : insAll a b with
    | none => exact .inr rfl
    | some R =>
      simp only [Option.bind_some]
      by_cases hR : ok R = true
      · rw [if_pos hR]; exact .inl ⟨rfl, hR⟩
      · rw [if_neg hR]; exact .inr rfl
  · unfold join; rw [if_neg h]; exact .inr rfl
theorem join_cnt (a b : List E) : cnt (join a b).1 ≤ 2097152 ∧ (join a b).1.length ≤ 2097152 := by
  rcases join_is a b with h | h
  · exact ok_cnt h.2
  · rw [h]; simp [cnt, cntTo]
end Go.Proofs.Ytncjagdnebpaaaa.Row
