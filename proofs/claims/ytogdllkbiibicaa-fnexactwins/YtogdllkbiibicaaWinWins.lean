/- What Wins answers, of the program and of the model, at every slice of samples, times and step. -/
import Derived.Test.YtogdllkbiibicaaWinOne
import Derived.Test.YtogdllkbiibicaaWinMath4
import Derived.Test.YtogdllkbiibicaaWinUni
namespace Go.Proofs.Ytogdllkbiibicaa.WinM
open Go.RowKit Rw
set_option linter.unusedVariables false
attribute [local go_sem ↓] Go.wp_at_zero Go.wp_at_succ
theorem each_snoc (f st : Int) (g : List SampMath.S) (k : Nat) (h : k < g.length) : each f st (g.take (k + 1)) = each f st (g.take k) ++ [winOf (beg f st (SampMath.at' g k).1) (SampMath.at' g k).2] := by
  unfold each; rw [SampMath.at_snoc g k h, List.map_append]; rfl
theorem each_len (f st : Int) (g : List SampMath.S) (k : Nat) (h : k ≤ g.length) : (each f st (g.take k)).length = k := by
  unfold each; rw [List.length_map, List.length_take, Nat.min_eq_left h]
theorem cut_mem {zs : List SampMath.S} {f t : Int} (h : SampMath.ok zs = true) {k : Nat} (hk : k < (Samp.cut zs f t).length) : f ≤ (SampMath.at' (Samp.cut zs f t) k).1 ∧ (SampMath.at' (Samp.cut zs f t) k).1 < t := Samp.cut_in h f t k hk
theorem cut_bad {zs : List SampMath.S} {f t : Int} (h : SampMath.ok zs = false) : Samp.cut zs f t = [] := by unfold Samp.cut; rw [h]; rfl
theorem cut_good {zs : List SampMath.S} {f t : Int} (h : SampMath.ok zs = true) : Samp.cut zs f t = Samp.cutL zs f t := by unfold Samp.cut; rw [h]; rfl
theorem wins_cut {zs : List SampMath.S} {f t st : Int} (ht : timesB f t = true) (hs : SampMath.thinB st = true) : wins zs f t st = foldW (each f st (Samp.cut zs f t)) := by
  unfold wins
  cases h : SampMath.ok zs
  · rw [cut_bad h]; simp; rfl
  · rw [cut_good h, if_pos ⟨rfl, ht, hs⟩]
set_option maxRecDepth 100000 in
set_option maxHeartbeats 8000000 in
theorem impl_wins (f t st : Int) {w : World} {v : Value} {zs : List SampMath.S} (h : Sam.Is w v zs) (hlen : zs.length ≤ 4194304) :
    Calls Try.prog 21 #[v, .int .i64 f, .int .i64 t, .int .i64 st] w fun e w' => ∃ r, e = .returned r ∧ w'.ownsRow w.heap.size 52 6 r (wins zs f t st).length (Win.flat (wins zs f t st)) ∧ Below w.heap.size w w' := by
  obtain ⟨i0, hi, hz0, hz1, hz2⟩ := info_parts Win.info_e
  obtain ⟨-, a, cap, rfl, -⟩ := id h
  have HCut := hide (Sam.impl_cut f t h hlen)
  clear h
  cases ht : timesB f t
  · have HK := hide (show wins zs f t st = [] by unfold wins; rw [ht]; simp)
    have HT := hide ht
    clear ht
    go_enter Try.func21, Try.ntmps21
    go_wp2_with (go_at_call 48; refine (impl_times _ _ _).mono ?_; rintro e w1 ⟨rfl, hw1⟩; subst hw1; rw [unhide HT])
    go_ret
    exact ⟨_, rfl, by rw [unhide HK]; exact World.ownsRow_nil _ _ _ _, Below.refl _ _⟩
  · cases hs : SampMath.thinB st
    · have HK := hide (show wins zs f t st = [] by unfold wins; rw [hs]; simp)
      have HT := hide ht
      have HS := hide hs
      clear ht hs
      go_enter Try.func21, Try.ntmps21
      go_wp2_with (first | (go_at_call 48; refine (impl_times _ _ _).mono ?_; rintro e w1 ⟨rfl, hw1⟩; subst hw1; rw [unhide HT]) | (go_at_call 41; refine (Sam.step_any _ _).mono ?_; rintro e w2 ⟨rfl, hw2⟩; subst hw2; rw [unhide HS]))
      go_ret
      exact ⟨_, rfl, by rw [unhide HK]; exact World.ownsRow_nil _ _ _ _, Below.refl _ _⟩
    · have hti := times_is ht
      have hst : 1 ≤ st ∧ st ≤ 9999 := by unfold SampMath.thinB at hs; simpa using hs
      have HWC := hide (wins_cut (zs := zs) ht hs)
      have HT := hide ht
      have HS := hide hs
      have hgl : (Samp.cut zs f t).length ≤ 10000 := by
        cases ho : SampMath.ok zs
        · rw [cut_bad ho]; simp
        · rw [cut_good ho]; exact (cut_vals ho f t).2
      have HIn := hide (fun k (hk : k < (Samp.cut zs f t).length) => (show f ≤ (SampMath.at' (Samp.cut zs f t) k).1 ∧ (SampMath.at' (Samp.cut zs f t) k).1 < t by
        cases ho : SampMath.ok zs
        · rw [cut_bad ho] at hk; simp at hk
        · exact cut_mem ho hk))
      generalize Samp.cut zs f t = g at HCut HWC hgl HIn
      clear ht hs
      obtain ⟨n, hn⟩ : ∃ n, n = g.length := ⟨_, rfl⟩
      rw [← hn] at HCut hgl
      have HN := hide hn
      clear hn
      go_enter Try.func21, Try.ntmps21
      go_wp2_with (first | (go_at_call 48; refine (impl_times _ _ _).mono ?_; rintro e w1 ⟨rfl, hw1⟩; subst hw1; rw [unhide HT]) | (go_at_call 41; refine (Sam.step_any _ _).mono ?_; rintro e w2 ⟨rfl, hw2⟩; subst hw2; rw [unhide HS]) | (go_at_call 29; refine (unhide HCut).mono ?_; rintro e w3 ⟨vc, rfl, oc, b3⟩; obtain ⟨ac, qc, rfl⟩ : ∃ a q, vc = .slice a n q := (by obtain ⟨-, a, q, e, -⟩ := lies_of_own oc; exact ⟨a, q, e⟩)))
      have ic : Sam.Is w3 (.slice ac n qc) g := by rw [unhide HN] at oc ⊢; exact Sam.is_of_own oc
      have hqc : n ≤ qc ∧ qc ≤ 9223372036854775807 := by
        obtain ⟨-, a', c', h1, h2, h3, -⟩ := ic
        simp only [Value.slice.injEq] at h1
        unfold maxLen at h3
        omega
      have HIc := hide ic
      have hg9 : n ≤ 10000 := by omega
      clear oc ic hgl HCut
      have z3 := b3.size
      go_loopw [9, 27] (fun ov iv wr => ∃ (k : Nat) (ao : Option Addr) (qo : Nat), k ≤ n ∧ iv = .int .i64 k ∧ ov = .slice ao k qo ∧ wr.ownsRow w3.heap.size 52 6 ov k (Win.flat (each f st (g.take k))) ∧ Below w3.heap.size w3 wr) (fun _ iv _ => n - (intOf iv).toNat)
      case atStart => exact ⟨0, _, _, Nat.zero_le _, rfl, rfl, World.ownsRow_nil _ _ _ _, Below.refl _ _⟩
      case round =>
        obtain ⟨k, ao, qo, hk, rfl, rfl, hown, hbel⟩ := hrel
        have hsz := hbel.size
        by_cases hlt : k < n
        · obtain ⟨b, off, rfl, hbl, hcell⟩ := Sam.v_cell (unhide HIc) hbel (by omega) (unhide HN)
          have hc0 := (hcell k hlt).1
          have hc1 := (hcell k hlt).2
          have hin := unhide HIn k (by have := unhide HN; omega)
          have HE := hide (each_snoc f st g k (by have := unhide HN; omega))
          obtain ⟨T, hT⟩ : ∃ T, T = (SampMath.at' g k).1 := ⟨_, rfl⟩
          obtain ⟨V, hV⟩ : ∃ V, V = (SampMath.at' g k).2 := ⟨_, rfl⟩
          rw [← hT] at hc0 hin HE
          rw [← hV] at hc1 HE
          obtain ⟨D, hD⟩ : ∃ D, T - f = D := ⟨_, rfl⟩
          obtain ⟨R, hR⟩ : ∃ R, D % st = R := ⟨_, rfl⟩
          have hR0 : 0 ≤ R ∧ R < st := by rw [← hR]; exact ⟨Int.emod_nonneg _ (by omega), Int.emod_lt_of_pos _ (by omega)⟩
          have hRt : D.tmod st = R := by rw [Int.tmod_eq_emod_of_nonneg (by omega)]; exact hR
          obtain ⟨G, hG⟩ : ∃ G, T - R = G := ⟨_, rfl⟩
          have HG := hide (show beg f st T = G by unfold beg; rw [hD, hR, hG])
          rw [unhide HG] at HE
          have hst0 : (st == 0) = false := by simp; omega
          have hst2 : ¬ st = 0 := by omega
          obtain ⟨W, hW⟩ : ∃ W, wr.alloc (.cells #[.int .i64 T, .int .i64 V] 41) = W := ⟨_, rfl⟩
          have bW : Below wr.heap.size wr W := by rw [← hW]; exact (Below.refl _ _).alloc (Nat.le_refl _) _
          have zW : wr.heap.size < W.heap.size := by rw [← hW]; simp
          have n0 : W.cell? ⟨wr.heap.size, 0, none⟩ = some (.int .i64 T) := by rw [← hW]; simp
          have n1 : W.cell? ⟨wr.heap.size, 1, none⟩ = some (.int .i64 V) := by rw [← hW]; simp
          have q0 : ∀ x : Cls W.heap.size W, x.val.cell? ⟨wr.heap.size, 0, none⟩ = some (.int .i64 T) := fun x => by rw [x.cell zW]; exact n0
          have hne := cls_nonempty W.heap.size W
          have hk0 : (0 : Int) ≤ (k : Int) := Int.natCast_nonneg _
          have hk1 : (k : Int) < (n : Int) := by omega
          have HWo := hide (fun W' => winOf_any G T V W')
          clear hcell hT hV
          go_wp2_with fail
          try rw [hW]
          clear hW
          refine region_cls (by kernel_rfl) (by kernel_rfl) ?_
          repeat (go_big_quiet_step (fail))
          refine wpQuiet_nil ?_
          rintro wq ⟨⟨_, hq⟩, rfl⟩
          have bq := bW.trans (hq.mono bW.size)
          have m0 : wq.cell? ⟨wr.heap.size, 0, none⟩ = some (.int .i64 T) := (hq.cell (p := ⟨wr.heap.size, 0, none⟩) zW).trans n0
          have m1 : wq.cell? ⟨wr.heap.size, 1, none⟩ = some (.int .i64 V) := (hq.cell (p := ⟨wr.heap.size, 1, none⟩) zW).trans n1
          have oq := own_below hown bq
          have cq := hbel.trans (bq.mono hsz)
          clear q0 hne n0 n1 hown hD hR hRt hG hst0
          go_wp2_with fail
          refine (unhide HWo wq).mono ?_
          rintro e w5 ⟨rfl, b5⟩
          have o5 := own_below oq b5
          have c5 := cq.trans (b5.mono cq.size)
          have z5 := c5.size
          clear oq
          go_wp2_with (at_builtin; refine app_wp _ rfl _ _ _ rfl w3.heap.size 52 i0 _ 6 48 Try.underlying32 hi hz0 hz1 hz2 rfl (by omega) _ _ _ rfl (o5.alloc _) _ 1 [.int .i64 G, .int .i64 1, .int .i64 V, .int .i64 V, .int .i64 V, .int .i64 V] rfl (lies_new rfl rfl (by unfold maxLen; omega)) (by simp [Value.oneCell']) (by unfold maxLen; omega) (by omega) (by simp; omega) ?_; intro vn wn on gn an)
          have R9 := below_grown (c5.alloc z5 _) (by simp; omega) gn (own_ge o5)
          have R2 : wn.ownsRow w3.heap.size 52 6 vn (k + 1) (Win.flat (each f st (g.take (k + 1)))) := by rw [unhide HE]; unfold Win.flat; rw [flatOf_append, flatOf_one]; exact on
          obtain ⟨an', qn', evn⟩ : ∃ a q, vn = Value.slice a (k + 1) q := by obtain ⟨-, a, q, e, -⟩ := lies_of_own R2; exact ⟨a, q, e⟩
          clear on gn an
          go_wp2_with fail
          go_roundw
          case rel => exact ⟨k + 1, _, _, by omega, by go_num, evn, R2, R9⟩
          case measure => simp [intOf]; omega
        · obtain rfl : k = n := by omega
          have HF := hide (show Calls Try.prog 50 #[.slice ao k qo, .func (.func 51) #[] #[], .func (.func 52) #[] #[]] wr fun e w' => ∃ r, e = .returned r ∧ w'.ownsRow wr.heap.size 52 6 r (foldW (each f st g)).length (Win.flat (foldW (each f st g))) ∧ Below wr.heap.size wr w' by
            rw [unhide HN, List.take_length] at hown
            have el : (each f st g).length = g.length := by unfold each; rw [List.length_map]
            exact Win.folded_any alW tgW 51 52 #[] (fun _ _ => by kernel_rfl) (fun _ _ => by kernel_rfl) (hide fun X0 X1 X2 X3 X4 X5 Y0 Y1 Y2 Y3 Y4 Y5 W' hb => same_any X0 X1 X2 X3 X4 X5 Y0 Y1 Y2 Y3 Y4 Y5 W') (hide fun X0 X1 X2 X3 X4 X5 Y0 Y1 Y2 Y3 Y4 Y5 Z0 Z1 Z2 Z3 Z4 Z5 W' e hb => by simp only [tgW, Prod.mk.injEq] at e; obtain ⟨rfl, rfl, rfl, rfl, rfl, rfl⟩ := e; exact with_any X0 X1 X2 X3 X4 X5 Y0 Y1 Y2 Y3 Y4 Y5 W') (Win.is_of_own (by rw [el]; rw [unhide HN]; exact hown)) (by rw [el, ← unhide HN]; omega))
          clear hown
          go_wp2_with fail
          refine (unhide HF).mono ?_
          rintro e w6 ⟨r, rfl, o6, b6⟩
          have cw := (b3.trans (hbel.mono z3)).trans (b6.mono (by omega))
          have O6 := hide (own_mono o6 (show w2.heap.size ≤ wr.heap.size by omega))
          rw [← unhide HWC] at O6
          clear o6
          go_wp2_with fail
          go_ret
          exact ⟨r, rfl, unhide O6, cw⟩
end Go.Proofs.Ytogdllkbiibicaa.WinM
