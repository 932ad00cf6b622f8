/- My own texts of one claim, laid together by program: WinWins, WinWins2. -/
import Derived.Test.YtogdllkbiibicaaG952b55b70d
import Derived.Test.YtogdllkbiibicaaGb543366ceb
import Derived.Test.YtogdllkbiibicaaG8e2e95e9de
/- What Wins answers, of the program and of the model, at every slice of samples, times and step. -/
namespace Go.Proofs.Ytogdllkbiibicaa.WinM
open Go.RowKit Rw
set_option linter.unusedVariables false
attribute [local go_sem ↓] Go.wp_at_zero Go.wp_at_succ
theorem each_snoc (f st : Int) (g : List SampMath.S) (k : Nat) (h : k < g.length) : each f st (g.take (k + 1)) = each f st (g.take k) ++ [winOf (beg f st (SampMath.at' g k).1) (SampMath.at' g k).2] := by
  unfold each; rw [SampMath.at_snoc g k h, List.map_append]; rfl
theorem each_len (f st : Int) (g : List SampMath.S) (k : Nat) (h : k ≤ g.length) : (each f st (g.take k)).length = k := by
  unfold each; rw [List.length_map, List.length_take, Nat.min_eq_left h]
theorem cut_mem {zs : List SampMath.S} {f t : Int} (h : SampMath.ok zs = true) {k : Nat} (hk : k < (Samp.cut zs f t).length) : f ≤ (SampMath.at' (Samp.cut zs f t) k).1 ∧ (SampMath.at' (Samp.cut zs f t) k).1 < t := Samp.cut_in h f t k hk
theorem cut_bad {zs : List SampMath.S} {f t : Int} (h : SampMath.ok zs = false) : Samp.cut zs f t = [] := by unfold Samp.cut; rw [h]; rfl
theorem cut_good {zs : List SampMath.S} {f t : Int} (h : SampMath.ok zs = true) : Samp.cut zs f t = Samp.cutL zs f t := by unfold Samp.cut; rw [h]; rfl
theorem wins_cut {zs : List SampMath.S} {f t st : Int} (ht : timesB f t = true) (hs : SampMath.thinB st = true) : wins zs f t st = foldW (each f st (Samp.cut zs f t)) := by
  unfold wins
  cases h : SampMath.ok zs
  · rw [cut_bad h]; simp; rfl
  · rw [cut_good h, if_pos ⟨rfl, ht, hs⟩]
set_option maxRecDepth 100000 in
set_option maxHeartbeats 8000000 in
theorem impl_wins (f t st : Int) {w : World} {v : Value} {zs : List SampMath.S} (h : Sam.Is w v zs) (hlen : zs.length ≤ 4194304) :
    Calls Try.prog 21 #[v, .int .i64 f, .int .i64 t, .int .i64 st] w fun e w' => ∃ r, e = .returned r ∧ w'.ownsRow w.heap.size 52 6 r (wins zs f t st).length (Win.flat (wins zs f t st)) ∧ Below w.heap.size w w' := by
  obtain ⟨i0, hi, hz0, hz1, hz2⟩ := info_parts Win.info_e
  obtain ⟨-, a, cap, rfl, -⟩ := id h
  have HCut := hide (Sam.impl_cut f t h hlen)
  clear h
  cases ht : timesB f t
  · have HK := hide (show wins zs f t st = [] by unfold wins; rw [ht]; simp)
    have HT := hide ht
    clear ht
    go_enter Try.func21, Try.ntmps21
    go_wp2_with (go_at_call 48; refine (impl_times _ _ _).mono ?_; rintro e w1 ⟨rfl, hw1⟩; subst hw1; rw [unhide HT])
    go_ret
    exact ⟨_, rfl, by rw [unhide HK]; exact World.ownsRow_nil _ _ _ _, Below.refl _ _⟩
  · cases hs : SampMath.thinB st
    · have HK := hide (show wins zs f t st = [] by unfold wins; rw [hs]; simp)
      have HT := hide ht
      have HS := hide hs
      clear ht hs
      go_enter Try.func21, Try.ntmps21
      go_wp2_with (first | (go_at_call 48; refine (impl_times _ _ _).mono ?_; rintro e w1 ⟨rfl, hw1⟩; subst hw1; rw [unhide HT]) | (go_at_call 41; refine (Sam.step_any _ _).mono ?_; rintro e w2 ⟨rfl, hw2⟩; subst hw2; rw [unhide HS]))
      go_ret
      exact ⟨_, rfl, by rw [unhide HK]; exact World.ownsRow_nil _ _ _ _, Below.refl _ _⟩
    · have hti := times_is ht
      have hst : 1 ≤ st ∧ st ≤ 9999 := by unfold SampMath.thinB at hs; simpa using hs
      have HWC := hide (wins_cut (zs := zs) ht hs)
      have HT := hide ht
      have HS := hide hs
      have hgl : (Samp.cut zs f t).length ≤ 10000 := by
        cases ho : SampMath.ok zs
        · rw [cut_bad ho]; simp
        · rw [cut_good ho]; exact (cut_vals ho f t).2
      have HIn := hide (fun k (hk : k < (Samp.cut zs f t).length) => (show f ≤ (SampMath.at' (Samp.cut zs f t) k).1 ∧ (SampMath.at' (Samp.cut zs f t) k).1 < t by
        cases ho : SampMath.ok zs
        · rw [cut_bad ho] at hk; simp at hk
        · exact cut_mem ho hk))
      generalize Samp.cut zs f t = g at HCut HWC hgl HIn
      clear ht hs
      obtain ⟨n, hn⟩ : ∃ n, n = g.length := ⟨_, rfl⟩
      rw [← hn] at HCut hgl
      have HN := hide hn
      clear hn
      go_enter Try.func21, Try.ntmps21
      go_wp2_with (first | (go_at_call 48; refine (impl_times _ _ _).mono ?_; rintro e w1 ⟨rfl, hw1⟩; subst hw1; rw [unhide HT]) | (go_at_call 41; refine (Sam.step_any _ _).mono ?_; rintro e w2 ⟨rfl, hw2⟩; subst hw2; rw [unhide HS]) | (go_at_call 29; refine (unhide HCut).mono ?_; rintro e w3 ⟨vc, rfl, oc, b3⟩; obtain ⟨ac, qc, rfl⟩ : ∃ a q, vc = .slice a n q := (by obtain ⟨-, a, q, e, -⟩ := lies_of_own oc; exact ⟨a, q, e⟩)))
      have ic : Sam.Is w3 (.slice ac n qc) g := by rw [unhide HN] at oc ⊢; exact Sam.is_of_own oc
      have hqc : n ≤ qc ∧ qc ≤ 9223372036854775807 := by
        obtain ⟨-, a', c', h1, h2, h3, -⟩ := ic
        simp only [Value.slice.injEq] at h1
        unfold maxLen at h3
        omega
      have HIc := hide ic
      have hg9 : n ≤ 10000 := by omega
      clear oc ic hgl HCut
      have z3 := b3.size
      go_loopw [9, 27] (fun ov iv wr => ∃ (k : Nat) (ao : Option Addr) (qo : Nat), k ≤ n ∧ iv = .int .i64 k ∧ ov = .slice ao k qo ∧ wr.ownsRow w3.heap.size 52 6 ov k (Win.flat (each f st (g.take k))) ∧ Below w3.heap.size w3 wr) (fun _ iv _ => n - (intOf iv).toNat)
      case atStart => exact ⟨0, _, _, Nat.zero_le _, rfl, rfl, World.ownsRow_nil _ _ _ _, Below.refl _ _⟩
      case round =>
        obtain ⟨k, ao, qo, hk, rfl, rfl, hown, hbel⟩ := hrel
        have hsz := hbel.size
        by_cases hlt : k < n
        · obtain ⟨b, off, rfl, hbl, hcell⟩ := Sam.v_cell (unhide HIc) hbel (by omega) (unhide HN)
          have hc0 := (hcell k hlt).1
          have hc1 := (hcell k hlt).2
          have hin := unhide HIn k (by have := unhide HN; omega)
          have HE := hide (each_snoc f st g k (by have := unhide HN; omega))
          obtain ⟨T, hT⟩ : ∃ T, T = (SampMath.at' g k).1 := ⟨_, rfl⟩
          obtain ⟨V, hV⟩ : ∃ V, V = (SampMath.at' g k).2 := ⟨_, rfl⟩
          rw [← hT] at hc0 hin HE
          rw [← hV] at hc1 HE
          obtain ⟨D, hD⟩ : ∃ D, T - f = D := ⟨_, rfl⟩
          obtain ⟨R, hR⟩ : ∃ R, D % st = R := ⟨_, rfl⟩
          have hR0 : 0 ≤ R ∧ R < st := by rw [← hR]; exact ⟨Int.emod_nonneg _ (by omega), Int.emod_lt_of_pos _ (by omega)⟩
          have hRt : D.tmod st = R := by rw [Int.tmod_eq_emod_of_nonneg (by omega)]; exact hR
          obtain ⟨G, hG⟩ : ∃ G, T - R = G := ⟨_, rfl⟩
          have HG := hide (show beg f st T = G by unfold beg; rw [hD, hR, hG])
          rw [unhide HG] at HE
          have hst0 : (st == 0) = false := by simp; omega
          have hst2 : ¬ st = 0 := by omega
          obtain ⟨W, hW⟩ : ∃ W, wr.alloc (.cells #[.int .i64 T, .int .i64 V] 41) = W := ⟨_, rfl⟩
          have bW : Below wr.heap.size wr W := by rw [← hW]; exact (Below.refl _ _).alloc (Nat.le_refl _) _
          have zW : wr.heap.size < W.heap.size := by rw [← hW]; simp
          have n0 : W.cell? ⟨wr.heap.size, 0, none⟩ = some (.int .i64 T) := by rw [← hW]; simp
          have n1 : W.cell? ⟨wr.heap.size, 1, none⟩ = some (.int .i64 V) := by rw [← hW]; simp
          have q0 : ∀ x : Cls W.heap.size W, x.val.cell? ⟨wr.heap.size, 0, none⟩ = some (.int .i64 T) := fun x => by rw [x.cell zW]; exact n0
          have hne := cls_nonempty W.heap.size W
          have hk0 : (0 : Int) ≤ (k : Int) := Int.natCast_nonneg _
          have hk1 : (k : Int) < (n : Int) := by omega
          have HWo := hide (fun W' => winOf_any G T V W')
          clear hcell hT hV
          go_wp2_with fail
          try rw [hW]
          clear hW
          refine region_cls (by kernel_rfl) (by kernel_rfl) ?_
          repeat (go_big_quiet_step (fail))
          refine wpQuiet_nil ?_
          rintro wq ⟨⟨_, hq⟩, rfl⟩
          have bq := bW.trans (hq.mono bW.size)
          have m0 : wq.cell? ⟨wr.heap.size, 0, none⟩ = some (.int .i64 T) := (hq.cell (p := ⟨wr.heap.size, 0, none⟩) zW).trans n0
          have m1 : wq.cell? ⟨wr.heap.size, 1, none⟩ = some (.int .i64 V) := (hq.cell (p := ⟨wr.heap.size, 1, none⟩) zW).trans n1
          have oq := own_below hown bq
          have cq := hbel.trans (bq.mono hsz)
          clear q0 hne n0 n1 hown hD hR hRt hG hst0
          go_wp2_with fail
          refine (unhide HWo wq).mono ?_
          rintro e w5 ⟨rfl, b5⟩
          have o5 := own_below oq b5
          have c5 := cq.trans (b5.mono cq.size)
          have z5 := c5.size
          clear oq
          go_wp2_with (at_builtin; refine app_wp _ rfl _ _ _ rfl w3.heap.size 52 i0 _ 6 48 Try.underlying32 hi hz0 hz1 hz2 rfl (by omega) _ _ _ rfl (o5.alloc _) _ 1 [.int .i64 G, .int .i64 1, .int .i64 V, .int .i64 V, .int .i64 V, .int .i64 V] rfl (lies_new rfl rfl (by unfold maxLen; omega)) (by simp [Value.oneCell']) (by unfold maxLen; omega) (by omega) (by simp; omega) ?_; intro vn wn on gn an)
          have R9 := below_grown (c5.alloc z5 _) (by simp; omega) gn (own_ge o5)
          have R2 : wn.ownsRow w3.heap.size 52 6 vn (k + 1) (Win.flat (each f st (g.take (k + 1)))) := by rw [unhide HE]; unfold Win.flat; rw [flatOf_append, flatOf_one]; exact on
          obtain ⟨an', qn', evn⟩ : ∃ a q, vn = Value.slice a (k + 1) q := by obtain ⟨-, a, q, e, -⟩ := lies_of_own R2; exact ⟨a, q, e⟩
          clear on gn an
          go_wp2_with fail
          go_roundw
          case rel => exact ⟨k + 1, _, _, by omega, by go_num, evn, R2, R9⟩
          case measure => simp [intOf]; omega
        · obtain rfl : k = n := by omega
          have HF := hide (show Calls Try.prog 50 #[.slice ao k qo, .func (.func 51) #[] #[], .func (.func 52) #[] #[]] wr fun e w' => ∃ r, e = .returned r ∧ w'.ownsRow wr.heap.size 52 6 r (foldW (each f st g)).length (Win.flat (foldW (each f st g))) ∧ Below wr.heap.size wr w' by
            rw [unhide HN, List.take_length] at hown
            have el : (each f st g).length = g.length := by unfold each; rw [List.length_map]
            exact Win.folded_any alW tgW 51 52 #[] (fun _ _ => by kernel_rfl) (fun _ _ => by kernel_rfl) (hide fun X0 X1 X2 X3 X4 X5 Y0 Y1 Y2 Y3 Y4 Y5 W' hb => same_any X0 X1 X2 X3 X4 X5 Y0 Y1 Y2 Y3 Y4 Y5 W') (hide fun X0 X1 X2 X3 X4 X5 Y0 Y1 Y2 Y3 Y4 Y5 Z0 Z1 Z2 Z3 Z4 Z5 W' e hb => by simp only [tgW, Prod.mk.injEq] at e; obtain ⟨rfl, rfl, rfl, rfl, rfl, rfl⟩ := e; exact with_any X0 X1 X2 X3 X4 X5 Y0 Y1 Y2 Y3 Y4 Y5 W') (Win.is_of_own (by rw [el]; rw [unhide HN]; exact hown)) (by rw [el, ← unhide HN]; omega))
          clear hown
          go_wp2_with fail
          refine (unhide HF).mono ?_
          rintro e w6 ⟨r, rfl, o6, b6⟩
          have cw := (b3.trans (hbel.mono z3)).trans (b6.mono (by omega))
          have O6 := hide (own_mono o6 (show w2.heap.size ≤ wr.heap.size by omega))
          rw [← unhide HWC] at O6
          clear o6
          go_wp2_with fail
          go_ret
          exact ⟨r, rfl, unhide O6, cw⟩
end Go.Proofs.Ytogdllkbiibicaa.WinM

/- What Wins answers, of the model, at every slice of samples, times and step. -/
namespace Go.Proofs.Ytogdllkbiibicaa.WinM
open Go.RowKit Rw
set_option linter.unusedVariables false
attribute [local go_sem ↓] Go.wp_at_zero Go.wp_at_succ
theorem few {f t st : Int} (h1 : 0 ≤ f) (h2 : t ≤ 10000) (h3 : 1 ≤ st) {j : Nat} (h : ∀ i : Nat, i < j → f + i * st < t) : j ≤ 10000 := by
  rcases Nat.eq_zero_or_pos j with h0 | h0
  · omega
  · have a := h (j - 1) (by omega)
    have b := Int.mul_le_mul_of_nonneg_left h3 (Int.natCast_nonneg (j - 1))
    rw [Int.mul_one] at b
    omega
theorem next_at (f st : Int) (j : Nat) : f + ((j + 1 : Nat) : Int) * st = f + j * st + st := by rw [Int.natCast_add, Int.add_mul]; simp; omega
set_option maxRecDepth 100000 in
set_option maxHeartbeats 8000000 in
theorem spec_wins (f t st : Int) {w : World} {v : Value} {zs : List SampMath.S} (h : Sam.Is w v zs) (hlen : zs.length ≤ 4194304) :
    Calls Try.prog 20 #[v, .int .i64 f, .int .i64 t, .int .i64 st] w fun e w' => ∃ r, e = .returned r ∧ w'.ownsRow w.heap.size 52 6 r (wins zs f t st).length (Win.flat (wins zs f t st)) ∧ Below w.heap.size w w' := by
  obtain ⟨i0, hi, hz0, hz1, hz2⟩ := info_parts Win.info_e
  obtain ⟨-, a, cap, rfl, -⟩ := id h
  obtain ⟨W, hW⟩ : ∃ W, w.alloc (.cells #[] 52) = W := ⟨_, rfl⟩
  have bW : Below w.heap.size w W := by rw [← hW]; exact (Below.refl _ _).alloc (Nat.le_refl _) _
  have oW : W.ownsRow w.heap.size 52 6 (.slice (some ⟨w.heap.size, 0, none⟩) 0 0) 0 [] := by rw [← hW]; exact own_empty (Nat.le_refl _)
  have HOK := hide (Sam.l2ok (h.below bW))
  have HI := hide h
  obtain ⟨n, hn⟩ : ∃ n, n = zs.length := ⟨_, rfl⟩
  rw [← hn] at HOK HI ⊢
  have HN := hide hn
  clear h hn
  cases hok : SampMath.ok zs
  · have HK := hide (show wins zs f t st = [] by unfold wins; rw [hok]; simp)
    rw [hok] at HOK
    clear hok
    go_enter Try.func20, Try.ntmps20
    go_wp2_with fail
    refine (unhide HOK).mono ?_
    rintro e w1 ⟨rfl, b1⟩
    clear hW
    go_wp2_with fail
    go_ret
    exact ⟨_, rfl, by rw [unhide HK]; exact own_below oW b1, bW.trans (b1.mono bW.size)⟩
  · rw [hok] at HOK
    cases ht : timesB f t
    · have HK := hide (show wins zs f t st = [] by unfold wins; rw [ht]; simp)
      have HT := hide (fun W' => spec_times f t W')
      rw [ht] at HT
      clear hok ht
      go_enter Try.func20, Try.ntmps20
      go_wp2_with fail
      refine (unhide HOK).mono ?_
      rintro e w1 ⟨rfl, b1⟩
      clear hW
      go_wp2_with fail
      refine (unhide HT w1).mono ?_
      rintro e w2 ⟨rfl, rfl⟩
      go_wp2_with fail
      go_ret
      exact ⟨_, rfl, by rw [unhide HK]; exact own_below oW b1, bW.trans (b1.mono bW.size)⟩
    · cases hs : SampMath.thinB st
      · have HK := hide (show wins zs f t st = [] by unfold wins; rw [hs]; simp)
        have HT := hide (fun W' => spec_times f t W')
        rw [ht] at HT
        have HS := hide (fun W' => Samp.in_is st 1 9999 false W' hs)
        clear hok ht hs
        go_enter Try.func20, Try.ntmps20
        go_wp2_with fail
        refine (unhide HOK).mono ?_
        rintro e w1 ⟨rfl, b1⟩
        clear hW
        go_wp2_with fail
        refine (unhide HT w1).mono ?_
        rintro e w2 ⟨rfl, rfl⟩
        go_wp2_with fail
        refine (unhide HS _).mono ?_
        rintro e w3 ⟨rfl, rfl⟩
        go_wp2_with fail
        go_ret
        exact ⟨_, rfl, by rw [unhide HK]; exact own_below oW b1, bW.trans (b1.mono bW.size)⟩
      · have hti := times_is ht
        have hst : 1 ≤ st ∧ st ≤ 9999 := by unfold SampMath.thinB at hs; simpa using hs
        have HAll := hide (fun (j : Nat) (hj : ∀ i : Nat, i < j → f + i * st < t) (he : t ≤ f + j * st) => wins_all hok ht hs hj he)
        have HT := hide (fun W' => spec_times f t W')
        rw [ht] at HT
        have HS := hide (fun W' => Samp.in_is st 1 9999 true W' hs)
        have HO := hide hok
        clear hok ht hs
        go_enter Try.func20, Try.ntmps20
        go_wp2_with fail
        refine (unhide HOK).mono ?_
        rintro e w1 ⟨rfl, b1⟩
        clear hW
        go_wp2_with fail
        refine (unhide HT w1).mono ?_
        rintro e w2 ⟨rfl, hw2⟩
        rw [hw2]
        clear hw2 w2
        go_wp2_with fail
        refine (unhide HS w1).mono ?_
        rintro e w3 ⟨rfl, hw3⟩
        rw [hw3]
        clear hw3 w3
        have o1 := own_below oW b1
        have c1 := bW.trans (b1.mono bW.size)
        go_wp2_with fail
        go_loopw [9, 10] (fun ov av wr => ∃ (j : Nat) (A : Int) (L : List W6) (ao : Option Addr) (qo : Nat), Hid (A = f + j * st) ∧ Hid (∀ i : Nat, i < j → f + i * st < t) ∧ f ≤ A ∧ A ≤ 20000 ∧ av = .int .i64 A ∧ ov = .slice ao L.length qo ∧ Hid (L = winsTo zs f t st j) ∧ L.length ≤ 10000 ∧ wr.ownsRow w.heap.size 52 6 ov L.length (Win.flat L) ∧ Below w.heap.size w wr) (fun _ av _ => (t - intOf av).toNat)
        case atStart => exact ⟨0, f, [], _, _, hide (by simp), hide (fun i hi => by omega), Int.le_refl _, by omega, rfl, rfl, hide rfl, Nat.zero_le _, o1, c1⟩
        case round =>
          obtain ⟨j, A, L, ao, qo, HA, HJ, hA1, hA2, rfl, rfl, HL, hLl, hown, hbel⟩ := hrel
          have hsz := hbel.size
          by_cases hlt : A < t
          · have HJ' := hide (show ∀ i : Nat, i < j + 1 → f + i * st < t from fun i hi => by
              by_cases e : i = j
              · subst e; rw [← unhide HA]; exact hlt
              · exact unhide HJ i (by omega))
            have HA' := hide (show A + st = f + ((j + 1 : Nat) : Int) * st by rw [next_at, ← unhide HA])
            have hj1 := few hti.1 hti.2.2.2 hst.1 (unhide HJ')
            have hLj := winsTo_len zs f t st j
            rw [← unhide HL] at hLj
            have HW := hide (show winsTo zs f t st (j + 1) = L ++ oneW A (Samp.cutL zs A (if t < A + st then t else A + st)) by rw [winsTo, ← unhide HA, ← unhide HL])
            obtain ⟨E, hE⟩ : ∃ E, E = (if t < A + st then t else A + st) := ⟨_, rfl⟩
            rw [← hE] at HW
            have HCut := hide (fun W' (hb : Below w.heap.size w W') => Sam.l2cut A E ((unhide HI).below hb) hlen)
            have HVal := hide (cut_vals (unhide HO) A E)
            generalize Samp.cutL zs A E = g at HW HCut HVal
            obtain ⟨m, hm⟩ : ∃ m, m = g.length := ⟨_, rfl⟩
            rw [← hm] at HCut
            have HM := hide hm
            clear hm hLj
            have hdt : decide (t < A + st) = true ∨ decide (t < A + st) = false := by cases decide (t < A + st) <;> simp
            by_cases hov : t < A + st
            · rw [if_pos hov] at hE
              have hd : decide (t < A + st) = true := by simp; omega
              replace hE := hE.symm
              subst hE
              clear hdt
              go_wp2_with fail
              refine (unhide HCut wr hbel).mono ?_
              rintro e w4 ⟨vc, rfl, oc, b4⟩
              obtain ⟨ac, qc, rfl⟩ : ∃ a q, vc = .slice a m q := by obtain ⟨-, a, q, e, -⟩ := lies_of_own oc; exact ⟨a, q, e⟩
              have ic : Sam.Is w4 (.slice ac m qc) g := by rw [unhide HM] at oc ⊢; exact Sam.is_of_own oc
              have o4 := own_below hown b4
              have c4 := hbel.trans (b4.mono hsz)
              have z4 := c4.size
              clear oc hown HCut
              rcases Nat.eq_zero_or_pos m with h0 | h0
              · subst h0
                have HF := hide (show winsTo zs f t st (j + 1) = L by rw [unhide HW, show g = [] from List.eq_nil_of_length_eq_zero (unhide HM).symm]; simp [oneW])
                clear ic
                go_wp2_with fail
                go_roundw
                case rel => exact ⟨j + 1, A + st, L, _, _, HA', HJ', by omega, by omega, by go_num, rfl, hide (unhide HF).symm, hLl, o4, c4⟩
                case measure => simp [intOf]; omega
              · have HF := hide (show winsTo zs f t st (j + 1) = L ++ [winTo A g g.length] by rw [unhide HW]; unfold oneW; rw [if_neg (fun e => by have := unhide HM; rw [e] at this; simp at this; omega)])
                have HLn := hide (show (L ++ [winTo A g g.length]).length ≤ 10000 by rw [← unhide HF]; exact Nat.le_trans (winsTo_len zs f t st (j + 1)) hj1)
                have HOne := hide (l11win A ic (by have := unhide HM; omega) (unhide HVal).2 (unhide HVal).1)
                obtain ⟨F0, F1, F2, F3, F4, F5, eX⟩ : ∃ F0 F1 F2 F3 F4 F5, (F0, F1, F2, F3, F4, F5) = winTo A g g.length := ⟨_, _, _, _, _, _, rfl⟩
                rw [← eX] at HOne HF HLn
                have HOne' := hide (show Calls Try.prog 47 #[.int .i64 A, .slice ac m qc] w4 fun e w' => e = .returned (.agg #[.int .i64 F0, .int .i64 F1, .int .i64 F2, .int .i64 F3, .int .i64 F4, .int .i64 F5]) ∧ Below w4.heap.size w4 w' from unhide HOne)
                have hm0 : decide (0 < m) = true := by simp; omega
                have hm1 : (0 : Int) < (m : Int) := by omega
                clear eX HOne ic
                go_wp2_with fail
                refine (unhide HOne').mono ?_
                rintro e w5 ⟨rfl, b5⟩
                have o5 := own_below o4 b5
                have c5 := c4.trans (b5.mono z4)
                have z5 := c5.size
                clear o4 HOne'
                go_wp2_with (at_builtin; refine app_wp _ rfl _ _ _ rfl w.heap.size 52 i0 _ 6 48 Try.underlying32 hi hz0 hz1 hz2 rfl (by omega) _ _ _ rfl (o5.alloc _) _ 1 [.int .i64 F0, .int .i64 F1, .int .i64 F2, .int .i64 F3, .int .i64 F4, .int .i64 F5] rfl (lies_new rfl rfl (by unfold maxLen; omega)) (by simp [Value.oneCell']) (by unfold maxLen; omega) (by omega) (by simp; omega) ?_; intro vn wn on gn an)
                have R9 := below_grown (c5.alloc z5 _) (by simp; omega) gn (own_ge o5)
                have R2 : wn.ownsRow w.heap.size 52 6 vn (L ++ [(F0, F1, F2, F3, F4, F5)]).length (Win.flat (L ++ [(F0, F1, F2, F3, F4, F5)])) := by unfold Win.flat; rw [flatOf_append, flatOf_one, List.length_append]; exact on
                obtain ⟨an', qn', evn⟩ : ∃ a q, vn = Value.slice a (L ++ [(F0, F1, F2, F3, F4, F5)]).length q := by obtain ⟨-, a, q, e, -⟩ := lies_of_own R2; exact ⟨a, q, e⟩
                clear on gn an
                go_wp2_with fail
                go_roundw
                case rel => exact ⟨j + 1, A + st, _, _, _, HA', HJ', by omega, by omega, by go_num, evn, hide (unhide HF).symm, unhide HLn, R2, R9⟩
                case measure => simp [intOf]; omega
            · rw [if_neg hov] at hE
              have hd : decide (t < A + st) = false := by simp; omega
              subst hE
              clear hdt
              go_wp2_with fail
              refine (unhide HCut wr hbel).mono ?_
              rintro e w4 ⟨vc, rfl, oc, b4⟩
              obtain ⟨ac, qc, rfl⟩ : ∃ a q, vc = .slice a m q := by obtain ⟨-, a, q, e, -⟩ := lies_of_own oc; exact ⟨a, q, e⟩
              have ic : Sam.Is w4 (.slice ac m qc) g := by rw [unhide HM] at oc ⊢; exact Sam.is_of_own oc
              have o4 := own_below hown b4
              have c4 := hbel.trans (b4.mono hsz)
              have z4 := c4.size
              clear oc hown HCut
              rcases Nat.eq_zero_or_pos m with h0 | h0
              · subst h0
                have HF := hide (show winsTo zs f t st (j + 1) = L by rw [unhide HW, show g = [] from List.eq_nil_of_length_eq_zero (unhide HM).symm]; simp [oneW])
                clear ic
                go_wp2_with fail
                go_roundw
                case rel => exact ⟨j + 1, A + st, L, _, _, HA', HJ', by omega, by omega, by go_num, rfl, hide (unhide HF).symm, hLl, o4, c4⟩
                case measure => simp [intOf]; omega
              · have HF := hide (show winsTo zs f t st (j + 1) = L ++ [winTo A g g.length] by rw [unhide HW]; unfold oneW; rw [if_neg (fun e => by have := unhide HM; rw [e] at this; simp at this; omega)])
                have HLn := hide (show (L ++ [winTo A g g.length]).length ≤ 10000 by rw [← unhide HF]; exact Nat.le_trans (winsTo_len zs f t st (j + 1)) hj1)
                have HOne := hide (l11win A ic (by have := unhide HM; omega) (unhide HVal).2 (unhide HVal).1)
                obtain ⟨F0, F1, F2, F3, F4, F5, eX⟩ : ∃ F0 F1 F2 F3 F4 F5, (F0, F1, F2, F3, F4, F5) = winTo A g g.length := ⟨_, _, _, _, _, _, rfl⟩
                rw [← eX] at HOne HF HLn
                have HOne' := hide (show Calls Try.prog 47 #[.int .i64 A, .slice ac m qc] w4 fun e w' => e = .returned (.agg #[.int .i64 F0, .int .i64 F1, .int .i64 F2, .int .i64 F3, .int .i64 F4, .int .i64 F5]) ∧ Below w4.heap.size w4 w' from unhide HOne)
                have hm0 : decide (0 < m) = true := by simp; omega
                have hm1 : (0 : Int) < (m : Int) := by omega
                clear eX HOne ic
                go_wp2_with fail
                refine (unhide HOne').mono ?_
                rintro e w5 ⟨rfl, b5⟩
                have o5 := own_below o4 b5
                have c5 := c4.trans (b5.mono z4)
                have z5 := c5.size
                clear o4 HOne'
                go_wp2_with (at_builtin; refine app_wp _ rfl _ _ _ rfl w.heap.size 52 i0 _ 6 48 Try.underlying32 hi hz0 hz1 hz2 rfl (by omega) _ _ _ rfl (o5.alloc _) _ 1 [.int .i64 F0, .int .i64 F1, .int .i64 F2, .int .i64 F3, .int .i64 F4, .int .i64 F5] rfl (lies_new rfl rfl (by unfold maxLen; omega)) (by simp [Value.oneCell']) (by unfold maxLen; omega) (by omega) (by simp; omega) ?_; intro vn wn on gn an)
                have R9 := below_grown (c5.alloc z5 _) (by simp; omega) gn (own_ge o5)
                have R2 : wn.ownsRow w.heap.size 52 6 vn (L ++ [(F0, F1, F2, F3, F4, F5)]).length (Win.flat (L ++ [(F0, F1, F2, F3, F4, F5)])) := by unfold Win.flat; rw [flatOf_append, flatOf_one, List.length_append]; exact on
                obtain ⟨an', qn', evn⟩ : ∃ a q, vn = Value.slice a (L ++ [(F0, F1, F2, F3, F4, F5)]).length q := by obtain ⟨-, a, q, e, -⟩ := lies_of_own R2; exact ⟨a, q, e⟩
                clear on gn an
                go_wp2_with fail
                go_roundw
                case rel => exact ⟨j + 1, A + st, _, _, _, HA', HJ', by omega, by omega, by go_num, evn, hide (unhide HF).symm, unhide HLn, R2, R9⟩
                case measure => simp [intOf]; omega
          · have HF := hide (show wins zs f t st = L by rw [unhide HL]; exact unhide HAll j (unhide HJ) (by rw [← unhide HA]; omega))
            have hd : decide (A < t) = false := by simp; omega
            go_wp2_with fail
            go_ret
            exact ⟨_, rfl, by rw [unhide HF]; exact hown, hbel⟩
end Go.Proofs.Ytogdllkbiibicaa.WinM
