/- My own texts of one claim, laid together by program: WinThin, WinBox. -/
import Derived.Test.YtogdllkbiibicaaG38ce2864c7
import Derived.Test.YtogdllkbiibicaaG341cf6558d
import Derived.Test.YtogdllkbiibicaaGc044e6a058
/- What Thin answers, of the program and of the model, at every slice of samples and every step. -/
namespace Go.Proofs.Ytogdllkbiibicaa.Sam
open Go.RowKit Rw
set_option linter.unusedVariables false
attribute [local go_sem ↓] Go.wp_at_zero Go.wp_at_succ
def quoW (st x : Int) : Int := IntKind.i64.wrap (x.tdiv st)
def alT (st : Int) (x y : E) : Bool := decide (quoW st x.1 = quoW st y.1)
def second (x y : E) : E := y
theorem wrap_small {n : Int} (h0 : 0 ≤ n) (h1 : n ≤ 9999) : IntKind.i64.wrap n = n := by
  have hb : (2 : Int) ^ IntKind.i64.bits = 18446744073709551616 := by decide
  have hb' : (2 : Int) ^ (IntKind.i64.bits - 1) = 9223372036854775808 := by decide
  unfold IntKind.wrap
  simp only [hb, hb']
  rw [Int.emod_eq_of_lt h0 (by omega)]
  exact if_neg (fun h => by simp at h; omega)
theorem quo_in {st x : Int} (h0 : 0 < st) (h1 : 0 ≤ x) (h2 : x ≤ 9999) : quoW st x = x / st := by
  unfold quoW
  rw [Int.tdiv_eq_ediv_of_nonneg h1]
  have a := Int.ediv_nonneg h1 (Int.le_of_lt h0)
  have b : x / st ≤ x := Int.ediv_le_self _ h1
  exact wrap_small a (by omega)
theorem fold_thin {zs : List E} {st : Int} (hok : SampMath.ok zs = true) (h0 : 0 < st) : ∀ k, k ≤ zs.length → fold (alT st) second (zs.take k) = SampMath.foldTo zs st k := by
  intro k
  induction k with
  | zero => intro _; rfl
  | succ k ih =>
    intro hk
    rw [fold_snoc _ _ zs k (by omega), ih (by omega)]
    cases k with
    | zero => rfl
    | succ j =>
      have a := SampMath.ok_range hok (k := j) (by omega)
      have b := SampMath.ok_range hok (k := j + 1) (by omega)
      show fstep (alT st) second (SampMath.thinTo zs st j ++ [SampMath.at' zs j]) (SampMath.at' zs (j + 1)) = SampMath.thinTo zs st (j + 1) ++ [SampMath.at' zs (j + 1)]
      have q : alT st (SampMath.at' zs j) (SampMath.at' zs (j + 1)) = decide ((SampMath.at' zs j).1 / st = (SampMath.at' zs (j + 1)).1 / st) := by
        unfold alT; rw [quo_in h0 a.1 a.2.1, quo_in h0 b.1 b.2.1]
      by_cases e : (SampMath.at' zs j).1 / st = (SampMath.at' zs (j + 1)).1 / st
      · rw [fstep_same _ _ (by rw [q, decide_eq_true e]), SampMath.thinTo_no (SampMath.lastW_near (by omega) e.symm)]; rfl
      · rw [fstep_new _ _ (by rw [q, decide_eq_false e]), SampMath.thinTo_yes (SampMath.lastW_far (fun h => e h.symm))]
set_option maxRecDepth 100000 in
set_option maxHeartbeats 2000000 in
theorem thin1_any (X0 X1 Y0 Y1 st : Int) (B : Nat) (w : World) (hB : B < w.heap.size) (hc : w.cell? ⟨B, 0, none⟩ = some (.int .i64 st)) (h0 : 0 < st) :
    Calls Try.prog 42 #[.agg #[.int .i64 X0, .int .i64 X1], .agg #[.int .i64 Y0, .int .i64 Y1], .pointer (some ⟨B, 0, none⟩)] w fun e w' => e = .returned (.bool (alT st (X0, X1) (Y0, Y1))) ∧ Below w.heap.size w w' := by
  obtain ⟨W, hW⟩ : ∃ W, W = (w.alloc (.cells #[.int .i64 X0, .int .i64 X1] 41)).alloc (.cells #[.int .i64 Y0, .int .i64 Y1] 41) := ⟨_, rfl⟩
  have hWb : Below w.heap.size w W := by rw [hW]; exact ((Below.refl _ _).alloc (Nat.le_refl _) _).alloc (by simp) _
  have hWs : w.heap.size + 1 < W.heap.size := by rw [hW]; simp
  have c0 : W.cell? ⟨w.heap.size, 0, none⟩ = some (.int .i64 X0) := by rw [hW]; simp
  have c1 : W.cell? ⟨w.heap.size + 1, 0, none⟩ = some (.int .i64 Y0) := by rw [hW]; simp
  have c2 : W.cell? ⟨B, 0, none⟩ = some (.int .i64 st) := (hWb.cell (p := ⟨B, 0, none⟩) hB).trans hc
  have HW := hide hW
  clear hW
  have q0 : ∀ x : Cls W.heap.size W, x.val.cell? ⟨w.heap.size, 0, none⟩ = some (.int .i64 X0) := fun x => by rw [x.cell (by omega)]; exact c0
  have q1 : ∀ x : Cls W.heap.size W, x.val.cell? ⟨w.heap.size + 1, 0, none⟩ = some (.int .i64 Y0) := fun x => by rw [x.cell (by omega)]; exact c1
  have q2 : ∀ x : Cls W.heap.size W, x.val.cell? ⟨B, 0, none⟩ = some (.int .i64 st) := fun x => by rw [x.cell (by omega)]; exact c2
  obtain ⟨P, hP⟩ : ∃ P, X0.tdiv st = P := ⟨_, rfl⟩
  obtain ⟨Q, hQ⟩ : ∃ Q, Y0.tdiv st = Q := ⟨_, rfl⟩
  obtain ⟨P', hP'⟩ : ∃ P', IntKind.i64.wrap P = P' := ⟨_, rfl⟩
  obtain ⟨Q', hQ'⟩ : ∃ Q', IntKind.i64.wrap Q = Q' := ⟨_, rfl⟩
  have HA := hide (show alT st (X0, X1) (Y0, Y1) = decide (P' = Q') by unfold alT quoW; rw [hP, hQ, hP', hQ'])
  have hne := cls_nonempty W.heap.size W
  have hst : (st == 0) = false := by simp; omega
  have hst2 : ¬ st = 0 := by omega
  go_enter Try.func42, Try.ntmps42
  go_wp2_with fail
  rw [← unhide HW]
  refine region_cls (by kernel_rfl) (by kernel_rfl) ?_
  repeat (go_big_quiet_step (fail))
  refine wpQuiet_nil ?_
  rintro wq ⟨⟨_, hq⟩, rfl⟩
  go_wp2
  go_ret
  exact ⟨by rw [unhide HA]; first | rfl | (apply ret_bool; simp), hWb.trans (hq.mono hWb.size)⟩
set_option maxRecDepth 100000 in
theorem second_any (X0 X1 Y0 Y1 : Int) (w : World) : Calls Try.prog 44 #[.agg #[.int .i64 X0, .int .i64 X1], .agg #[.int .i64 Y0, .int .i64 Y1]] w fun e w' => e = .returned (.agg #[.int .i64 Y0, .int .i64 Y1]) ∧ Below w.heap.size w w' := by
  go_enter Try.func44, Try.ntmps44
  go_wp2
  refine bodyPost_ret (v := .agg #[.int .i64 Y0, .int .i64 Y1]) (by simp [results, Try.results44, go_sem]) rfl ⟨rfl, ?_⟩
  exact (((Below.refl _ _).alloc (Nat.le_refl _) _).alloc (by simp) _).alloc (by simp; omega) _
theorem step_any (st : Int) (w : World) : Calls Try.prog 41 #[.int .i64 st] w fun e w' => e = .returned (.bool (SampMath.thinB st)) ∧ w' = w := by
  rcases (show st < 1 ∨ (1 ≤ st ∧ 9999 < st) ∨ (1 ≤ st ∧ st ≤ 9999) from by omega) with h | ⟨h1, h2⟩ | ⟨h1, h2⟩
  · have hr := hide (show SampMath.thinB st = false by unfold SampMath.thinB; rw [decide_eq_false (by omega)]; rfl)
    go_enter Try.func41, Try.ntmps41
    go_wp2
    go_ret
    exact ⟨ret_bool (unhide hr).symm, rfl⟩
  · have hr := hide (show SampMath.thinB st = false by unfold SampMath.thinB; rw [decide_eq_false (show ¬ st ≤ 9999 by omega), Bool.and_false])
    have hd : decide (st ≤ 9999) = false := by simp; omega
    go_enter Try.func41, Try.ntmps41
    go_wp2
    go_ret
    exact ⟨ret_bool (by rw [unhide hr]), rfl⟩
  · have hr := hide (show SampMath.thinB st = true by unfold SampMath.thinB; rw [decide_eq_true h1, decide_eq_true h2]; rfl)
    go_enter Try.func41, Try.ntmps41
    go_wp2
    go_ret
    exact ⟨ret_bool (unhide hr).symm, rfl⟩
set_option maxRecDepth 100000 in
set_option maxHeartbeats 2000000 in
theorem impl_thin (st : Int) {w : World} {v : Value} {zs : List E} (h : Is w v zs) (hlen : zs.length ≤ 4194304) :
    Calls Try.prog 17 #[v, .int .i64 st] w fun e w' => ∃ r, e = .returned r ∧ w'.ownsRow w.heap.size 41 2 r (SampMath.thin zs st).length (flat (SampMath.thin zs st)) ∧ Below w.heap.size w w' := by
  obtain ⟨W, hW⟩ : ∃ W, W = w.alloc (.cells #[.int .i64 st] 3) := ⟨_, rfl⟩
  have hWb : Below w.heap.size w W := by rw [hW]; exact (Below.refl _ _).alloc (Nat.le_refl _) _
  have hWs : w.heap.size < W.heap.size := by rw [hW]; simp
  have c0 : W.cell? ⟨w.heap.size, 0, none⟩ = some (.int .i64 st) := by rw [hW]; simp
  have hWi : Is W v zs := h.below hWb
  obtain ⟨-, a, cap, rfl, -⟩ := id h
  have HOK := hide (impl_ok hWi)
  rw [hW] at HOK
  have HW := hide hW.symm
  have HI := hide hWi
  clear hW h hWi
  cases hok : SampMath.ok zs
  · have HK := hide (show SampMath.thin zs st = [] by unfold SampMath.thin; rw [hok]; rfl)
    rw [hok] at HOK
    clear hok
    go_enter Try.func17, Try.ntmps17
    go_wp2_with (go_at_call 38; refine (unhide HOK).mono ?_; rintro e w1 ⟨rfl, hb1⟩)
    go_ret
    refine ⟨_, rfl, by rw [unhide HK]; exact World.ownsRow_nil _ _ _ _, ?_⟩
    rw [unhide HW] at hb1
    exact hWb.trans (hb1.mono hWb.size)
  · rw [hok] at HOK
    cases hst : SampMath.thinB st
    · have HK := hide (show SampMath.thin zs st = [] by unfold SampMath.thin; rw [hst]; simp)
      have HS := hide hst
      clear hok hst
      go_enter Try.func17, Try.ntmps17
      go_wp2_with (first | (go_at_call 38; refine (unhide HOK).mono ?_; rintro e w1 ⟨rfl, hb1⟩; rw [unhide HW] at hb1; have c1 := (hb1.cell (p := ⟨w.heap.size, 0, none⟩) hWs).trans c0) | (go_at_call 41; refine (step_any _ _).mono ?_; rintro e w2 ⟨rfl, rfl⟩; rw [unhide HS]))
      go_ret
      exact ⟨_, rfl, by rw [unhide HK]; exact World.ownsRow_nil _ _ _ _, hWb.trans (hb1.mono hWb.size)⟩
    · have HK := hide (show SampMath.thin zs st = SampMath.thinTo zs st zs.length by unfold SampMath.thin; rw [hok, hst]; simp)
      have h0 : 0 < st := by unfold SampMath.thinB at hst; simp at hst; omega
      have HF := hide (show fold (alT st) second zs = SampMath.thin zs st by have := fold_thin hok h0 zs.length (Nat.le_refl _); rw [List.take_length] at this; rw [this, unhide HK, SampMath.foldTo_end])
      have HS := hide hst
      clear hok hst
      go_enter Try.func17, Try.ntmps17
      go_wp2_with (first | (go_at_call 38; refine (unhide HOK).mono ?_; rintro e w1 ⟨rfl, hb1⟩; rw [unhide HW] at hb1; have c1 := (hb1.cell (p := ⟨w.heap.size, 0, none⟩) hWs).trans c0) | (go_at_call 41; refine (step_any _ _).mono ?_; rintro e w2 ⟨rfl, rfl⟩; rw [unhide HS]) | (go_at_call 43; go_loud (refine (folded_any (alT st) second 42 44 #[.pointer (some ⟨w.heap.size, 0, none⟩)] (fun _ _ => by kernel_rfl) (fun _ _ => by kernel_rfl) (hide fun X0 X1 Y0 Y1 W' hb => thin1_any X0 X1 Y0 Y1 st w.heap.size W' (Nat.lt_of_lt_of_le hWs (Nat.le_trans hb1.size hb.size)) ((hb.cell (p := ⟨w.heap.size, 0, none⟩) (Nat.lt_of_lt_of_le hWs hb1.size)).trans c1) h0) (hide fun X0 X1 Y0 Y1 Z0 Z1 W' e hb => by cases e; exact second_any X0 X1 Y0 Y1 W') ((unhide HI).below hb1) hlen).mono ?_); rintro e w3 ⟨r, rfl, o3, b3⟩))
      go_ret
      have s1 := hb1.size
      exact ⟨_, rfl, by rw [unhide HF] at o3; exact own_mono o3 (by omega), (hWb.trans (hb1.mono hWb.size)).trans (b3.mono (by omega))⟩
set_option maxRecDepth 100000 in
set_option maxHeartbeats 4000000 in
theorem spec_thin (st : Int) {w : World} {v : Value} {zs : List E} (h : Is w v zs) (hlen : zs.length ≤ 4194304) :
    Calls Try.prog 16 #[v, .int .i64 st] w fun e w' => ∃ r, e = .returned r ∧ w'.ownsRow w.heap.size 41 2 r (SampMath.thin zs st).length (flat (SampMath.thin zs st)) ∧ Below w.heap.size w w' := by
  obtain ⟨i0, hi, hz0, hz1, hz2⟩ := info_parts info_e
  obtain ⟨W, hW⟩ : ∃ W, W = w.alloc (.cells #[] 41) := ⟨_, rfl⟩
  have hWb : Below w.heap.size w W := by rw [hW]; exact (Below.refl _ _).alloc (Nat.le_refl _) _
  have hWo : W.ownsRow w.heap.size 41 2 (.slice (some ⟨w.heap.size, 0, none⟩) 0 0) 0 [] := by rw [hW]; exact own_empty (Nat.le_refl _)
  have hWi : Is W v zs := h.below hWb
  obtain ⟨-, a, cap, rfl, hc, hm, -⟩ := id h
  have HOK := hide (l2ok hWi)
  rw [hW] at HOK
  have HW := hide hW.symm
  obtain ⟨n, hn⟩ : ∃ n, n = zs.length := ⟨_, rfl⟩
  rw [← hn] at hc hlen HOK ⊢
  have HL := hide (show Is w (.slice a n cap) zs by rw [hn]; exact h)
  have HN := hide hn
  unfold maxLen at hm
  clear hW h hWi hn
  cases hok : SampMath.ok zs
  · have HK := hide (show SampMath.thin zs st = [] by unfold SampMath.thin; rw [hok]; rfl)
    rw [hok] at HOK
    clear hok
    go_enter Try.func16, Try.ntmps16
    go_wp2_with (go_at_call 36; refine (unhide HOK).mono ?_; rintro e w1 ⟨rfl, hb1⟩; rw [unhide HW] at hb1)
    go_ret
    exact ⟨_, rfl, by rw [unhide HK]; exact own_below hWo hb1, hWb.trans (hb1.mono hWb.size)⟩
  · rw [hok] at HOK
    cases hst : SampMath.thinB st
    · have HK := hide (show SampMath.thin zs st = [] by unfold SampMath.thin; rw [hst]; simp)
      have HS := hide (show Zig.inB st 1 9999 = false from hst)
      clear hok hst
      go_enter Try.func16, Try.ntmps16
      go_wp2_with (first | (go_at_call 36; refine (unhide HOK).mono ?_; rintro e w1 ⟨rfl, hb1⟩; rw [unhide HW] at hb1) | (go_at_call 40; refine (Samp.in_is _ _ _ false _ (unhide HS)).mono ?_; rintro e w2 ⟨rfl, hw2⟩; subst hw2))
      go_ret
      exact ⟨_, rfl, by rw [unhide HK]; exact own_below hWo hb1, hWb.trans (hb1.mono hWb.size)⟩
    · have HK := hide (show SampMath.thin zs st = SampMath.thinTo zs st zs.length by unfold SampMath.thin; rw [hok, hst]; simp)
      have h0 : 0 < st := by unfold SampMath.thinB at hst; simp at hst; omega
      have HS := hide (show Zig.inB st 1 9999 = true from hst)
      have HO := hide hok
      have hst0 : (st == 0) = false := by simp; omega
      have hst2 : ¬ st = 0 := by omega
      clear hok hst
      go_enter Try.func16, Try.ntmps16
      go_wp2_with (first | (go_at_call 36; refine (unhide HOK).mono ?_; rintro e w1 ⟨rfl, hb1⟩; rw [unhide HW] at hb1) | (go_at_call 40; refine (Samp.in_is _ _ _ true _ (unhide HS)).mono ?_; rintro e w2 ⟨rfl, hw2⟩; subst hw2))
      go_loopw [5, 6] (fun ov i wr => ∃ (k : Nat) (L : List E) (ao : Option Addr) (qo : Nat), k ≤ n ∧ i = .int .i64 k ∧ ov = .slice ao L.length qo ∧ L = SampMath.thinTo zs st k ∧ wr.ownsRow w.heap.size 41 2 ov L.length (flat L) ∧ Below w.heap.size w wr) (fun _ i _ => n - (intOf i).toNat)
      case atStart => exact ⟨0, [], _, _, Nat.zero_le _, rfl, rfl, rfl, own_below hWo hb1, hWb.trans (hb1.mono hWb.size)⟩
      case round =>
        obtain ⟨k, L, ao, qo, hk, rfl, rfl, hL, hown, hbel⟩ := hrel
        have hsz := hbel.size
        have hs0 := hWb.size
        by_cases hlt : k < n
        · have hLk := SampMath.thinTo_le zs st k
          rw [← hL] at hLk
          obtain ⟨b, off, rfl, hbl, hcell⟩ := v_cell (unhide HL) hbel (by omega) (unhide HN)
          have hr0 := SampMath.ok_range (unhide HO) (k := k) (by have := unhide HN; omega)
          obtain ⟨T, hT⟩ : ∃ T, T = (SampMath.at' zs k).1 := ⟨_, rfl⟩
          obtain ⟨V, hV⟩ : ∃ V, V = (SampMath.at' zs k).2 := ⟨_, rfl⟩
          have HTV := hide (show SampMath.at' zs k = (T, V) by rw [hT, hV])
          have hx0 := (hcell k hlt).1
          have hx1 := (hcell k hlt).2
          rw [← hT] at hx0 hr0
          rw [← hV] at hx1 hr0
          have HT := hide hT
          clear hT hV
          have hbl1 : b < wr.heap.size := by omega
          have q0 : ∀ x : Cls wr.heap.size wr, x.val.cell? ⟨b, off + k * 2, none⟩ = some (.int .i64 T) := fun x => by rw [x.cell hbl1]; exact hx0
          have hk0 : (0 : Int) ≤ (k : Int) := Int.natCast_nonneg _
          have hk1 : (k : Int) < (n : Int) := by omega
          have hne := cls_nonempty wr.heap.size wr
          by_cases hend : k + 1 = n
          · have HY := hide (SampMath.thinTo_yes (SampMath.lastW_end (zs := zs) (st := st) (k := k) (by have := unhide HN; omega)))
            rw [← hL, unhide HTV] at HY
            have hd : ((k : Int) + 1 == (n : Int)) = true := by simp; omega
            have hd2 : decide ((k : Int) + 1 = (n : Int)) = true := by simp; omega
            have HE := hide hend
            clear hL hcell hend
            go_wp2_with fail
            refine region_cls (by kernel_rfl) (by kernel_rfl) ?_
            repeat (go_big_quiet_step (fail))
            refine wpQuiet_nil ?_
            rintro wq ⟨⟨_, hq⟩, rfl⟩
            have oq := own_below hown hq
            have cq := hbel.trans (hq.mono hsz)
            have hsq := hq.size
            have hy0 : wq.cell? ⟨b, off + k * 2, none⟩ = some (.int .i64 T) := (hq.cell (p := ⟨b, _, none⟩) hbl1).trans hx0
            have hy1 : wq.cell? ⟨b, off + k * 2 + 1, none⟩ = some (.int .i64 V) := (hq.cell (p := ⟨b, _, none⟩) hbl1).trans hx1
            go_wp2_with (at_builtin; refine app_wp _ rfl _ _ _ rfl w.heap.size 41 i0 _ 2 16 Try.underlying25 hi hz0 hz1 hz2 rfl (by omega) _ _ _ rfl (oq.alloc _) _ 1 [.int .i64 T, .int .i64 V] rfl (lies_new rfl rfl (by unfold maxLen; omega)) (by simp [Value.oneCell']) (by unfold maxLen; omega) (by omega) (by simp; omega) ?_; intro vn wn on gn an)
            have R9 : Below w.heap.size w wn := below_grown (cq.alloc (by omega) _) (by simp; omega) gn (own_ge oq)
            have R2 : wn.ownsRow w.heap.size 41 2 vn (L ++ [(T, V)]).length (flat (L ++ [(T, V)])) := by unfold flat; rw [flatOf_append, flatOf_one, List.length_append]; exact on
            obtain ⟨an', qn', evn⟩ : ∃ a q, vn = Value.slice a (L ++ [(T, V)]).length q := by obtain ⟨-, a, q, e, -⟩ := lies_of_own R2; exact ⟨a, q, e⟩
            clear on gn an
            go_wp2_with fail
            go_roundw
            case rel => exact ⟨k + 1, _, _, _, by omega, by go_num, evn, (unhide HY).symm, R2, R9⟩
            case measure => simp [intOf]; omega
          · have hd : ((k : Int) + 1 == (n : Int)) = false := by simp; omega
            have hd2 : decide ((k : Int) + 1 = (n : Int)) = false := by simp; omega
            have hk2 : (k : Int) + 1 < (n : Int) := by omega
            have hr1 := SampMath.ok_range (unhide HO) (k := k + 1) (by have := unhide HN; omega)
            obtain ⟨U, hU⟩ : ∃ U, U = (SampMath.at' zs (k + 1)).1 := ⟨_, rfl⟩
            have hx2 := (hcell (k + 1) (by omega)).1
            rw [← hU] at hx2 hr1
            have HU := hide hU
            clear hU hcell
            have q2 : ∀ x : Cls wr.heap.size wr, x.val.cell? ⟨b, off + (k + 1) * 2, none⟩ = some (.int .i64 U) := fun x => by rw [x.cell hbl1]; exact hx2
            obtain ⟨P, hP⟩ : ∃ P, T.tdiv st = P := ⟨_, rfl⟩
            obtain ⟨Q, hQ⟩ : ∃ Q, U.tdiv st = Q := ⟨_, rfl⟩
            obtain ⟨P', hP'⟩ : ∃ P', IntKind.i64.wrap P = P' := ⟨_, rfl⟩
            obtain ⟨Q', hQ'⟩ : ∃ Q', IntKind.i64.wrap Q = Q' := ⟨_, rfl⟩
            have eP : P' = T / st := by rw [← hP', ← hP]; exact quo_in h0 hr0.1 hr0.2.1
            have eQ : Q' = U / st := by rw [← hQ', ← hQ]; exact quo_in h0 hr1.1 hr1.2.1
            by_cases hne2 : Q' = P'
            · have HY := hide (SampMath.thinTo_no (SampMath.lastW_near (zs := zs) (st := st) (k := k) (by have := unhide HN; omega) (by rw [← unhide HU, ← unhide HT, ← eP, ← eQ]; exact hne2)))
              rw [← hL] at HY
              have hb9 : (Q' == P') = true := by simp [hne2]
              have hd9 : decide (Q' = P') = true := by simp [hne2]
              clear hL eP eQ hne2
              go_wp2_with fail
              refine region_cls (by kernel_rfl) (by kernel_rfl) ?_
              repeat (go_big_quiet_step (fail))
              refine wpQuiet_nil ?_
              rintro wq ⟨⟨_, hq⟩, rfl⟩
              go_wp2_with fail
              go_roundw
              case rel => exact ⟨k + 1, L, _, _, by omega, by go_num, rfl, (unhide HY).symm, own_below hown hq, hbel.trans (hq.mono hsz)⟩
              case measure => simp [intOf]; omega
            · have HY := hide (SampMath.thinTo_yes (SampMath.lastW_far (zs := zs) (st := st) (k := k) (by rw [← unhide HU, ← unhide HT, ← eP, ← eQ]; exact hne2)))
              rw [← hL, unhide HTV] at HY
              have hb9 : (Q' == P') = false := by simp [hne2]
              have hd9 : decide (Q' = P') = false := by simp [hne2]
              clear hL eP eQ hne2
              go_wp2_with fail
              refine region_cls (by kernel_rfl) (by kernel_rfl) ?_
              repeat (go_big_quiet_step (fail))
              refine wpQuiet_nil ?_
              rintro wq ⟨⟨_, hq⟩, rfl⟩
              have oq := own_below hown hq
              have cq := hbel.trans (hq.mono hsz)
              have hsq := hq.size
              have hy0 : wq.cell? ⟨b, off + k * 2, none⟩ = some (.int .i64 T) := (hq.cell (p := ⟨b, _, none⟩) hbl1).trans hx0
              have hy1 : wq.cell? ⟨b, off + k * 2 + 1, none⟩ = some (.int .i64 V) := (hq.cell (p := ⟨b, _, none⟩) hbl1).trans hx1
              go_wp2_with (at_builtin; refine app_wp _ rfl _ _ _ rfl w.heap.size 41 i0 _ 2 16 Try.underlying25 hi hz0 hz1 hz2 rfl (by omega) _ _ _ rfl (oq.alloc _) _ 1 [.int .i64 T, .int .i64 V] rfl (lies_new rfl rfl (by unfold maxLen; omega)) (by simp [Value.oneCell']) (by unfold maxLen; omega) (by omega) (by simp; omega) ?_; intro vn wn on gn an)
              have R9 : Below w.heap.size w wn := below_grown (cq.alloc (by omega) _) (by simp; omega) gn (own_ge oq)
              have R2 : wn.ownsRow w.heap.size 41 2 vn (L ++ [(T, V)]).length (flat (L ++ [(T, V)])) := by unfold flat; rw [flatOf_append, flatOf_one, List.length_append]; exact on
              obtain ⟨an', qn', evn⟩ : ∃ a q, vn = Value.slice a (L ++ [(T, V)]).length q := by obtain ⟨-, a, q, e, -⟩ := lies_of_own R2; exact ⟨a, q, e⟩
              clear on gn an
              go_wp2_with fail
              go_roundw
              case rel => exact ⟨k + 1, _, _, _, by omega, by go_num, evn, (unhide HY).symm, R2, R9⟩
              case measure => simp [intOf]; omega
        · have HF := hide (show L = SampMath.thin zs st by rw [unhide HK, hL, ← unhide HN, show k = n by omega])
          go_wp2
          go_ret
          exact ⟨_, rfl, by rw [← unhide HF]; exact hown, hbel⟩
end Go.Proofs.Ytogdllkbiibicaa.Sam

/- Whiles: the program's small functions; times; the model's while of samples. -/
namespace Go.Proofs.Ytogdllkbiibicaa.WinM
open Go.RowKit Rw
set_option linter.unusedVariables false
attribute [local go_sem ↓] Go.wp_at_zero Go.wp_at_succ
theorem times_yes {f t : Int} (h1 : 0 ≤ f) (h2 : f ≤ 9999) (h3 : f ≤ t) (h4 : t ≤ 10000) : timesB f t = true := by unfold timesB; rw [decide_eq_true h1, decide_eq_true h2, decide_eq_true h3, decide_eq_true h4]; rfl
theorem times_is {f t : Int} (h : timesB f t = true) : 0 ≤ f ∧ f ≤ 9999 ∧ f ≤ t ∧ t ≤ 10000 := by
  unfold timesB at h
  simp only [Bool.and_eq_true, decide_eq_true_eq] at h
  omega
theorem times_no {f t : Int} (h : f < 0 ∨ 9999 < f ∨ t < f ∨ 10000 < t) : timesB f t = false := by
  rw [Bool.eq_false_iff]; intro e; have := times_is e; omega
theorem times_in (f t : Int) : timesB f t = (Zig.inB f 0 9999 && Zig.inB t f 10000) := by unfold timesB Zig.inB; rw [Bool.and_assoc]
theorem impl_times (f t : Int) (w : World) : Calls Try.prog 48 #[.int .i64 f, .int .i64 t] w fun e w' => e = .returned (.bool (timesB f t)) ∧ w' = w := by
  by_cases h1 : 0 ≤ f
  · by_cases h2 : f ≤ 9999
    · by_cases h3 : f ≤ t
      · by_cases h4 : t ≤ 10000
        · have HR := hide (times_yes h1 h2 h3 h4)
          go_enter Try.func48, Try.ntmps48
          go_wp2
          go_ret
          exact ⟨ret_bool (unhide HR).symm, rfl⟩
        · have HR := hide (times_no (f := f) (t := t) (by omega))
          go_enter Try.func48, Try.ntmps48
          go_wp2
          go_ret
          exact ⟨ret_bool (unhide HR).symm, rfl⟩
      · have HR := hide (times_no (f := f) (t := t) (by omega))
        go_enter Try.func48, Try.ntmps48
        go_wp2
        go_ret
        exact ⟨ret_bool (unhide HR).symm, rfl⟩
    · have HR := hide (times_no (f := f) (t := t) (by omega))
      go_enter Try.func48, Try.ntmps48
      go_wp2
      go_ret
      exact ⟨ret_bool (unhide HR).symm, rfl⟩
  · have HR := hide (times_no (f := f) (t := t) (by omega))
    go_enter Try.func48, Try.ntmps48
    go_wp2
    go_ret
    exact ⟨ret_bool (unhide HR).symm, rfl⟩
theorem spec_times (f t : Int) (w : World) : Calls Try.prog 45 #[.int .i64 f, .int .i64 t] w fun e w' => e = .returned (.bool (timesB f t)) ∧ w' = w := by
  cases h1 : Zig.inB f 0 9999
  · have HR := hide (show timesB f t = false by rw [times_in, h1]; rfl)
    have I1 := hide h1
    clear h1
    go_enter Try.func45, Try.ntmps45
    go_wp2_with fail
    refine (Samp.in_is f 0 9999 _ _ (unhide I1)).mono ?_
    rintro e v1 ⟨rfl, rfl⟩
    go_wp2_with fail
    go_ret
    exact ⟨ret_bool (unhide HR).symm, rfl⟩
  · have HR := hide (show timesB f t = Zig.inB t f 10000 by rw [times_in, h1]; rfl)
    have I1 := hide h1
    clear h1
    go_enter Try.func45, Try.ntmps45
    go_wp2_with fail
    refine (Samp.in_is f 0 9999 _ _ (unhide I1)).mono ?_
    rintro e v1 ⟨rfl, rfl⟩
    go_wp2_with fail
    refine (Zig.in_any t f 10000 _).mono ?_
    rintro e v2 ⟨rfl, rfl⟩
    go_wp2_with fail
    go_ret
    exact ⟨ret_bool (unhide HR).symm, rfl⟩
def alW (x y : W6) : Bool := decide (x.1 = y.1)
def addW (a b : Int) : Int := IntKind.i64.wrap (a + b)
def tgW (x y : W6) : W6 := (x.1, addW x.2.1 y.2.1, addW x.2.2.1 y.2.2.1, min x.2.2.2.1 y.2.2.2.1, max x.2.2.2.2.1 y.2.2.2.2.1, y.2.2.2.2.2)
set_option maxRecDepth 100000 in
theorem same_any (X0 X1 X2 X3 X4 X5 Y0 Y1 Y2 Y3 Y4 Y5 : Int) (w : World) :
    Calls Try.prog 51 #[.agg #[.int .i64 X0, .int .i64 X1, .int .i64 X2, .int .i64 X3, .int .i64 X4, .int .i64 X5], .agg #[.int .i64 Y0, .int .i64 Y1, .int .i64 Y2, .int .i64 Y3, .int .i64 Y4, .int .i64 Y5]] w fun e w' => e = .returned (.bool (alW (X0, X1, X2, X3, X4, X5) (Y0, Y1, Y2, Y3, Y4, Y5))) ∧ Below w.heap.size w w' := by
  have HA := hide (show alW (X0, X1, X2, X3, X4, X5) (Y0, Y1, Y2, Y3, Y4, Y5) = decide (X0 = Y0) from rfl)
  go_enter Try.func51, Try.ntmps51
  go_wp2
  go_ret
  exact ⟨by rw [unhide HA]; first | rfl | (apply ret_bool; simp), ((Below.refl _ _).alloc (Nat.le_refl _) _).alloc (by simp) _⟩
set_option maxRecDepth 100000 in
set_option maxHeartbeats 4000000 in
theorem with_any (X0 X1 X2 X3 X4 X5 Y0 Y1 Y2 Y3 Y4 Y5 : Int) (w : World) :
    Calls Try.prog 52 #[.agg #[.int .i64 X0, .int .i64 X1, .int .i64 X2, .int .i64 X3, .int .i64 X4, .int .i64 X5], .agg #[.int .i64 Y0, .int .i64 Y1, .int .i64 Y2, .int .i64 Y3, .int .i64 Y4, .int .i64 Y5]] w fun e w' => e = .returned (.agg #[.int .i64 X0, .int .i64 (addW X1 Y1), .int .i64 (addW X2 Y2), .int .i64 (min X3 Y3), .int .i64 (max X4 Y4), .int .i64 Y5]) ∧ Below w.heap.size w w' := by
  obtain ⟨c, hc⟩ : ∃ c, IntKind.i64.wrap (X1 + Y1) = c := ⟨_, rfl⟩
  obtain ⟨s, hs⟩ : ∃ s, IntKind.i64.wrap (X2 + Y2) = s := ⟨_, rfl⟩
  have HC := hide (show addW X1 Y1 = c from hc)
  have HS := hide (show addW X2 Y2 = s from hs)
  rw [unhide HC, unhide HS]
  rcases Int.lt_or_le Y3 X3 with a | a
  · rw [show min X3 Y3 = Y3 by omega]
    rcases Int.lt_or_le X4 Y4 with b | b
    · rw [show max X4 Y4 = Y4 by omega]
      go_enter Try.func52, Try.ntmps52
      go_wp2
      refine bodyPost_ret (v := .agg #[.int .i64 X0, .int .i64 c, .int .i64 s, .int .i64 Y3, .int .i64 Y4, .int .i64 Y5]) (by simp [results, Try.results52, go_sem]) rfl ⟨rfl, ?_⟩
      exact (((Below.refl _ _).alloc (Nat.le_refl _) _).alloc (by simp) _).alloc (by simp; omega) _
    · rw [show max X4 Y4 = X4 by omega]
      have b' : ¬ X4 < Y4 := by omega
      go_enter Try.func52, Try.ntmps52
      go_wp2
      refine bodyPost_ret (v := .agg #[.int .i64 X0, .int .i64 c, .int .i64 s, .int .i64 Y3, .int .i64 X4, .int .i64 Y5]) (by simp [results, Try.results52, go_sem]) rfl ⟨rfl, ?_⟩
      exact (((Below.refl _ _).alloc (Nat.le_refl _) _).alloc (by simp) _).alloc (by simp; omega) _
  · rw [show min X3 Y3 = X3 by omega]
    rcases Int.lt_or_le X4 Y4 with b | b
    · rw [show max X4 Y4 = Y4 by omega]
      have a' : ¬ Y3 < X3 := by omega
      go_enter Try.func52, Try.ntmps52
      go_wp2
      refine bodyPost_ret (v := .agg #[.int .i64 X0, .int .i64 c, .int .i64 s, .int .i64 X3, .int .i64 Y4, .int .i64 Y5]) (by simp [results, Try.results52, go_sem]) rfl ⟨rfl, ?_⟩
      exact (((Below.refl _ _).alloc (Nat.le_refl _) _).alloc (by simp) _).alloc (by simp; omega) _
    · rw [show max X4 Y4 = X4 by omega]
      have a' : ¬ Y3 < X3 := by omega
      have b' : ¬ X4 < Y4 := by omega
      go_enter Try.func52, Try.ntmps52
      go_wp2
      refine bodyPost_ret (v := .agg #[.int .i64 X0, .int .i64 c, .int .i64 s, .int .i64 X3, .int .i64 X4, .int .i64 Y5]) (by simp [results, Try.results52, go_sem]) rfl ⟨rfl, ?_⟩
      exact (((Below.refl _ _).alloc (Nat.le_refl _) _).alloc (by simp) _).alloc (by simp; omega) _
set_option maxRecDepth 100000 in
set_option maxHeartbeats 4000000 in
theorem winOf_any (b T V : Int) (w : World) :
    Calls Try.prog 49 #[.int .i64 b, .agg #[.int .i64 T, .int .i64 V]] w fun e w' => e = .returned (.agg #[.int .i64 b, .int .i64 1, .int .i64 V, .int .i64 V, .int .i64 V, .int .i64 V]) ∧ Below w.heap.size w w' := by
  go_enter Try.func49, Try.ntmps49
  go_wp2
  refine bodyPost_ret (v := .agg #[.int .i64 b, .int .i64 1, .int .i64 V, .int .i64 V, .int .i64 V, .int .i64 V]) (by simp [results, Try.results49, go_sem]) rfl ⟨rfl, ?_⟩
  exact ((Below.refl _ _).alloc (Nat.le_refl _) _).alloc (by simp) _
end Go.Proofs.Ytogdllkbiibicaa.WinM
