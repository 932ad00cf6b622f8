/- My own texts of one claim, laid together by program: GReg, DrawWins. -/
import Derived.Test.YtogdllkbiibicaaG14d68e4ffa
import Derived.Deep.RegionHeld3
import Derived.Test.YtogdllkbiibicaaG341cf6558d
import Derived.Test.YtogdllkbiibicaaG4ca551c44b
/- A region that draws its order, walked operation by operation: what is wanted and yields, what is not wanted, what is carried out alone. No condition. -/
namespace Go.Proofs.Ytogdllkbiibicaa.Grl
open Go.RowKit
section
variable {P : Program} {l : List Oper} {Q : Exit → Act → World → Prop} {md : Region.Mode} {S : World → Prop}
theorem yes (i : Nat) {oi : Oper} {v : Value} {fuel : Nat} {listed : Array Bool} {a : Act} {w : World} (hi : l[i]? = some oi)
    (hs : Region.noSelect l.toArray = true) (hf : Region.free md l.toArray listed i = true) (hr : (Region.ready md l.toArray listed).contains i = true)
    (hQ : ∀ c a w, Q (.panic c) (a.put oi.dst v) w → Q (.panic c) a w) (hw : Region.wanted oi (yielded l.toArray a.tmps) = true) (hy : ∀ w, S w → (execOp a.eval oi).run P w = .ok (.value v) w) (hS : S w)
    (h : wpAnyH P md l.toArray Q S fuel (listed.setIfInBounds i true) (a.put oi.dst v) w) : wpAnyH P md l.toArray Q S (fuel + 1) listed a w :=
  wpAnyH_take (by simpa using hi) hs hf hr hQ (.inl ⟨hw, hy⟩) hS h
theorem no (i : Nat) {oi : Oper} {fuel : Nat} {listed : Array Bool} {a : Act} {w : World} (hi : l[i]? = some oi)
    (hs : Region.noSelect l.toArray = true) (hf : Region.free md l.toArray listed i = true) (hr : (Region.ready md l.toArray listed).contains i = true)
    (hQ : ∀ c a w, Q (.panic c) (a.put oi.dst undef) w → Q (.panic c) a w) (hw : Region.wanted oi (yielded l.toArray a.tmps) = false) (hS : S w)
    (h : wpAnyH P md l.toArray Q S fuel (listed.setIfInBounds i true) (a.put oi.dst undef) w) : wpAnyH P md l.toArray Q S (fuel + 1) listed a w :=
  wpAnyH_take (by simpa using hi) hs hf hr hQ (.inr ⟨hw, rfl⟩) hS h
theorem one (i : Nat) {o : Oper} {fuel : Nat} {listed : Array Bool} {a : Act} {w : World} (hi : l[i]? = some o) (hr : Region.ready md l.toArray listed = [i])
    (h : ∀ K' : Act → World → Prop, Shut (∀ a w, S w → (S w → wpAnyH P md l.toArray Q S fuel (listed.setIfInBounds i true) a w) → K' a w) → if Region.wanted o (yielded l.toArray a.tmps) = true then Oper.wp P o a w K' Q else K' (a.put o.dst undef) w) :
    wpAnyH P md l.toArray Q S (fuel + 1) listed a w :=
  wpAnyH_ready hr (by simp) (AllReadyH.cons (by simpa using hi) h AllReadyH.nil)
theorem start {id : Nat} {a : Act} {w : World} (hm : P.follows .mixedOrders = true) (hS : S w.drew)
    (h : S w.drew → wpAnyH P .any l.toArray Q S l.length (Array.replicate l.length false) a w.drew) : (Code.region id l.toArray true).wp P Q a w :=
  wp_region_held_drew hm hS (by simpa using h)
end
theorem wrap_ok {n : Int} (h0 : -4611686018427387904 ≤ n) (h1 : n ≤ 4611686018427387904) : IntKind.i64.wrap n = n := by
  have hb : (2 : Int) ^ IntKind.i64.bits = 18446744073709551616 := by decide
  have hb' : (2 : Int) ^ (IntKind.i64.bits - 1) = 9223372036854775808 := by decide
  unfold IntKind.wrap
  simp only [hb, hb']
  have hs : IntKind.i64.signed = true := rfl
  simp only [hs, Bool.true_and, decide_eq_true_eq]
  split <;> omega
end Go.Proofs.Ytogdllkbiibicaa.Grl

/- Samples, times and a step are drawn, for Wins. -/
namespace Go.Proofs.Ytogdllkbiibicaa.Draw
open Go.RowKit Samp SampMath Rw
set_option linter.unusedVariables false
set_option linter.unusedSimpArgs false
attribute [local go_sem ↓] Go.wp_at_zero Go.wp_at_succ
/-- what DrawWins answers -/
def Winned (w : World) (e : Ending) (w' : World) : Prop :=
  ∃ (zs : List S) (g cp : Nat) (A B st : Int), e = .returned (.tuple #[.slice (some ⟨g, 0, none⟩) zs.length cp, .int .i64 A, .int .i64 B, .int .i64 st]) ∧ zs.length ≤ 9 ∧ (-1 ≤ A ∧ A ≤ 30000 ∧ -2 ≤ B ∧ B ≤ 30000 ∧ 0 ≤ st ∧ st ≤ 10000) ∧ Sam.Is w' (.slice (some ⟨g, 0, none⟩) zs.length cp) zs ∧ g < w'.heap.size ∧ Below w.heap.size w w'
set_option maxRecDepth 100000 in
set_option maxHeartbeats 4000000 in
theorem draw_wins {a : Option Addr} {len cap : Nat} {zs : List Int} (w0 w : World) (h : IsRow .u8 w0 a len cap zs) (hB : Below w0.heap.size w0 w) :
    Calls Try.prog 31 #[.slice a len cap] w (Winned w) := by
  have HO := hide (open_any w0 w h hB)
  clear h hB
  go_enter Try.func31, Try.ntmps31
  go_wp2_with fail
  refine (unhide HO).mono ?_
  rintro e w1 ⟨rfl, r1, b1⟩
  have hlt := r1.lt
  have hs1 := b1.size
  go_wp2_with fail
  refine (anysamples_good w.heap.size 0 9 _ r1 (by omega) (by omega)).mono ?_
  rintro e w2 ⟨zs, g, cp, rfl, hl, hSG, o2, ⟨p2, hp2, r2⟩, q2⟩
  have HSG := hide hSG
  have hb2 := below_of_grown q2 (Nat.le_refl _) hs1
  clear r1 HO hSG q2
  have b2 := b1.trans hb2
  clear hb2 b1
  go_wp2_with fail
  refine (span_any w.heap.size p2 _ r2 (by omega)).mono ?_
  rintro e w3 ⟨A, B, rfl, hA0, hA1, hB0, hB1, r3, g3⟩
  have o3 := own_kept o2 g3 hlt
  have b3 := b2.trans (below_of_grown g3 (Nat.le_refl _) b2.size)
  clear r2 o2 g3 b2
  go_wp2_with fail
  refine (pick_any w.heap.size (p2 + 5) _ _ r3 (by omega) (by omega)).mono ?_
  rintro e w4 ⟨c, rfl, c0, c1, -, r4, g4⟩
  have o4 := own_kept o3 g4 hlt
  have b4 := b3.trans (below_of_grown g4 (Nat.le_refl _) b3.size)
  clear r3 o3 g4 b3 c1
  by_cases hc : 0 < c
  · go_wp2_with fail
    refine (pick_any w.heap.size (p2 + 5 + 1) _ _ r4 (by omega) (by omega)).mono ?_
    rintro e w5 ⟨A', rfl, a0, a1, -, r5, g5⟩
    have a2 : A' < 100 := a1 (by omega)
    have o5 := own_kept o4 g5 hlt
    have b5 := b4.trans (below_of_grown g5 (Nat.le_refl _) b4.size)
    clear r4 o4 g5 b4 a1 hA0 hA1 hB0 hB1
    go_wp2_with fail
    refine (pick_any w.heap.size (p2 + 5 + 1 + 1) _ _ r5 (by omega) (by omega)).mono ?_
    rintro e w6 ⟨d, rfl, d0, d1, -, r6, g6⟩
    have d2 : d < 60 := d1 (by omega)
    have o6 := own_kept o5 g6 hlt
    have b6 := b5.trans (below_of_grown g6 (Nat.le_refl _) b5.size)
    clear r5 o5 g6 b5 d1
    obtain ⟨D, hD⟩ : ∃ D, 10000 - d = D := ⟨_, rfl⟩
    have hD1 : 9940 < D ∧ D ≤ 10000 := by omega
    have hDA : decide (D < A') = false := by simp; omega
    have hD9 : decide (10000 < D) = false := by simp; omega
    obtain ⟨n, hn⟩ : ∃ n, n = zs.length := ⟨_, rfl⟩
    rw [← hn] at hl o6
    rw [← hn]
    have HN := hide hn
    clear hn
    rcases n with _ | n
    · go_wp2_with fail
      have hone := one_new w.heap.size (p2 + 5 + 1 + 1 + 1) [1, 10, 60, 100, 7, 1000, 60, 100, 0, 9999, 10000, 300] _ r6 (by omega) (by simp) (by simp)
      simp only [List.map_cons, List.map_nil, List.length_cons, List.length_nil, Nat.zero_add, Nat.reduceAdd] at hone
      refine hone.mono ?_
      clear hone
      rintro e wz ⟨st, rfl, hst, rz, gz⟩
      have oz := own_kept o6 gz hlt
      have bz := b6.trans (below_of_grown gz (Nat.le_refl _) b6.size)
      have hst' : 0 ≤ st ∧ st ≤ 10000 := by simp only [List.mem_cons, List.not_mem_nil, or_false] at hst; omega
      clear hst
      go_wp2_with fail
      refine bodyPost_ret (v := .tuple #[.slice (some ⟨g, 0, none⟩) 0 cp, .int .i64 (A'), .int .i64 (D), .int .i64 st]) (by simp [results, Try.results31, go_sem]) rfl ?_
      exact ⟨zs, g, cp, _, _, st, by rw [← unhide HN], by have := unhide HN; omega, by omega, Sam.is_of_own (by rw [← unhide HN]; exact oz), own_lt oz, bz⟩
    · have hnp : 0 < n + 1 := by omega
      have hnp' : (0 : Int) < (n : Int) + 1 := by omega
      go_wp2_with fail
      refine (pick_any w.heap.size (p2 + 5 + 1 + 1 + 1) _ _ r6 (by omega) (by omega)).mono ?_
      rintro e w7 ⟨x, rfl, x0, x1, -, r7, g7⟩
      have o7 := own_kept o6 g7 hlt
      have b7 := b6.trans (below_of_grown g7 (Nat.le_refl _) b6.size)
      clear r6 o6 g7 b6 x1
      by_cases hx : x = 0
      · subst hx
        obtain ⟨T, hT⟩ : ∃ T, T = (at' zs n).1 := ⟨_, rfl⟩
        have hTb : -1 ≤ T ∧ T ≤ 20000 := by
          have h := sg_at (unhide HSG) (k := n) (by rw [← unhide HN]; omega)
          rw [hT]
          exact ⟨h.1, h.2.1⟩
        have hcell : ∀ W : World, W.ownsRow w1.heap.size 41 2 (.slice (some ⟨g, 0, none⟩) (n + 1) cp) (n + 1) (Samp.flat zs) → W.cell? ⟨g, n * 2, none⟩ = some (.int .i64 T) := fun W hW => by
          rw [hW.cellAt (n * 2) (by omega)]
          have := Samp.flat_get zs n (by rw [← unhide HN]; omega)
          rw [this.1, hT]
        have hc7d := hcell _ (World.ownsRow.drew o7)
        have hn0 : (0 : Int) ≤ (n : Int) := Int.natCast_nonneg _
        have hn1 : (n : Int) < (n : Int) + 1 := by omega
        have hwn : IntKind.i64.wrap (n : Int) = (n : Int) := Grl.wrap_ok (by omega) (by omega)
        clear hT
        go_wp2_with fail
        refine Grl.start (S := fun X => X.cell? ⟨g, n * 2, none⟩ = some (.int .i64 T)) (by kernel_rfl) (by exact hc7d) (fun hHeld => ?_)
        refine Grl.yes 0 (v := ?_) rfl (by kernel_rfl) (by kernel_rfl) (by kernel_rfl) (fun _ _ _ h => h) (by kernel_rfl) ?_ (by assumption) ?_
        rotate_left
        · (intro w hSw; (try dsimp only at hSw); go_simp; try with_reducible rfl)
        simp only [Act.put, List.setIfInBounds_toArray, List.set_cons_zero, List.set_cons_succ]
        refine Grl.yes 1 (v := ?_) rfl (by kernel_rfl) (by kernel_rfl) (by kernel_rfl) (fun _ _ _ h => h) (by kernel_rfl) ?_ (by assumption) ?_
        rotate_left
        · (intro w hSw; (try dsimp only at hSw); go_simp; try with_reducible rfl)
        simp only [Act.put, List.setIfInBounds_toArray, List.set_cons_zero, List.set_cons_succ]
        refine Grl.yes 2 (v := ?_) rfl (by kernel_rfl) (by kernel_rfl) (by kernel_rfl) (fun _ _ _ h => h) (by kernel_rfl) ?_ (by assumption) ?_
        rotate_left
        · (intro w hSw; (try dsimp only at hSw); go_simp; try with_reducible rfl)
        simp only [Act.put, List.setIfInBounds_toArray, List.set_cons_zero, List.set_cons_succ]
        refine Grl.yes 3 (v := ?_) rfl (by kernel_rfl) (by kernel_rfl) (by kernel_rfl) (fun _ _ _ h => h) (by kernel_rfl) ?_ (by assumption) ?_
        rotate_left
        · (intro w hSw; (try dsimp only at hSw); go_simp; try with_reducible rfl)
        simp only [Act.put, List.setIfInBounds_toArray, List.set_cons_zero, List.set_cons_succ]
        refine Grl.yes 4 (v := ?_) rfl (by kernel_rfl) (by kernel_rfl) (by kernel_rfl) (fun _ _ _ h => h) (by kernel_rfl) ?_ (by assumption) ?_
        rotate_left
        · (intro w hSw; (try dsimp only at hSw); go_simp; try with_reducible rfl)
        simp only [Act.put, List.setIfInBounds_toArray, List.set_cons_zero, List.set_cons_succ]
        refine Grl.yes 5 (v := ?_) rfl (by kernel_rfl) (by kernel_rfl) (by kernel_rfl) (fun _ _ _ h => h) (by kernel_rfl) ?_ (by assumption) ?_
        rotate_left
        · (intro w hSw; (try dsimp only at hSw); go_simp; try with_reducible rfl)
        simp only [Act.put, List.setIfInBounds_toArray, List.set_cons_zero, List.set_cons_succ]
        refine Grl.yes 6 (v := ?_) rfl (by kernel_rfl) (by kernel_rfl) (by kernel_rfl) (fun _ _ _ h => h) (by kernel_rfl) ?_ (by assumption) ?_
        rotate_left
        · (intro w hSw; (try dsimp only at hSw); go_simp; try with_reducible rfl)
        simp only [Act.put, List.setIfInBounds_toArray, List.set_cons_zero, List.set_cons_succ]
        refine Grl.yes 7 (v := ?_) rfl (by kernel_rfl) (by kernel_rfl) (by kernel_rfl) (fun _ _ _ h => h) (by kernel_rfl) ?_ (by assumption) ?_
        rotate_left
        · (intro w hSw; (try dsimp only at hSw); go_simp; try with_reducible rfl)
        simp only [Act.put, List.setIfInBounds_toArray, List.set_cons_zero, List.set_cons_succ]
        refine Grl.one 8 rfl (by kernel_rfl) (fun K hK => ?_)
        go_simp
        go_wp2_with (refine (pick_any w.heap.size (p2 + 5 + 1 + 1 + 1 + 1) _ _ (rd_drew r7) (by omega) (by omega)).mono ?_; rintro e w8 ⟨y, rfl, y0, y1, -, r8, g8⟩; have y2 : y < 9 := y1 (by omega); have o8 := own_kept (World.ownsRow.drew o7) g8 hlt; have hc8 : w8.cell? ⟨g, n * 2, none⟩ = some (.int .i64 T) := hcell w8 o8; obtain ⟨Y, hY⟩ : ∃ Y, T + y = Y := ⟨_, rfl⟩; have hYb : -1 ≤ Y ∧ Y ≤ 20009 := (by omega); have hw := Grl.wrap_ok (n := Y) (by omega) (by omega))
        refine hK.out _ _ (by exact hc8) (fun hHeld => ?_)
        clear hK K
        refine Grl.yes 9 (v := ?_) rfl (by kernel_rfl) (by kernel_rfl) (by kernel_rfl) (fun _ _ _ h => h) (by kernel_rfl) ?_ (by assumption) ?_
        rotate_left
        · (intro w hSw; (try dsimp only at hSw); go_simp; try with_reducible rfl)
        simp only [Act.put, List.setIfInBounds_toArray, List.set_cons_zero, List.set_cons_succ]
        refine Grl.yes 10 (v := ?_) rfl (by kernel_rfl) (by kernel_rfl) (by kernel_rfl) (fun _ _ _ h => h) (by kernel_rfl) ?_ (by assumption) ?_
        rotate_left
        · (intro w hSw; (try dsimp only at hSw); go_simp; try with_reducible rfl)
        simp only [Act.put, List.setIfInBounds_toArray, List.set_cons_zero, List.set_cons_succ]
        refine wpAnyH_done (by kernel_rfl) ?_ _
        have b8 := b7.drew.trans (below_of_grown g8 (Nat.le_refl _) b7.drew.size)
        clear o7 r7 g8 b7 hc7d hcell hwn
        by_cases hYA : Y < A'
        · have hYA' : decide (Y < A') = true := by simpa using hYA
          go_wp2_with fail
          have hone := one_new w.heap.size (p2 + 5 + 1 + 1 + 1 + 1 + 1) [1, 10, 60, 100, 7, 1000, 60, 100, 0, 9999, 10000, 300] _ r8 (by omega) (by simp) (by simp)
          simp only [List.map_cons, List.map_nil, List.length_cons, List.length_nil, Nat.zero_add, Nat.reduceAdd] at hone
          refine hone.mono ?_
          clear hone
          rintro e wz ⟨st, rfl, hst, rz, gz⟩
          have oz := own_kept o8 gz hlt
          have bz := b8.trans (below_of_grown gz (Nat.le_refl _) b8.size)
          have hst' : 0 ≤ st ∧ st ≤ 10000 := by simp only [List.mem_cons, List.not_mem_nil, or_false] at hst; omega
          clear hst
          go_wp2_with fail
          refine bodyPost_ret (v := .tuple #[.slice (some ⟨g, 0, none⟩) (n + 1) cp, .int .i64 (A'), .int .i64 (A'), .int .i64 st]) (by simp [results, Try.results31, go_sem]) rfl ?_
          exact ⟨zs, g, cp, _, _, st, by rw [← unhide HN], by have := unhide HN; omega, by omega, Sam.is_of_own (by rw [← unhide HN]; exact oz), own_lt oz, bz⟩
        · have hYA' : decide (Y < A') = false := by simpa using hYA
          by_cases hY9 : 10000 < Y
          · have hY9' : decide (10000 < Y) = true := by simpa using hY9
            go_wp2_with fail
            have hone := one_new w.heap.size (p2 + 5 + 1 + 1 + 1 + 1 + 1) [1, 10, 60, 100, 7, 1000, 60, 100, 0, 9999, 10000, 300] _ r8 (by omega) (by simp) (by simp)
            simp only [List.map_cons, List.map_nil, List.length_cons, List.length_nil, Nat.zero_add, Nat.reduceAdd] at hone
            refine hone.mono ?_
            clear hone
            rintro e wz ⟨st, rfl, hst, rz, gz⟩
            have oz := own_kept o8 gz hlt
            have bz := b8.trans (below_of_grown gz (Nat.le_refl _) b8.size)
            have hst' : 0 ≤ st ∧ st ≤ 10000 := by simp only [List.mem_cons, List.not_mem_nil, or_false] at hst; omega
            clear hst
            go_wp2_with fail
            refine bodyPost_ret (v := .tuple #[.slice (some ⟨g, 0, none⟩) (n + 1) cp, .int .i64 (A'), .int .i64 (A'), .int .i64 st]) (by simp [results, Try.results31, go_sem]) rfl ?_
            exact ⟨zs, g, cp, _, _, st, by rw [← unhide HN], by have := unhide HN; omega, by omega, Sam.is_of_own (by rw [← unhide HN]; exact oz), own_lt oz, bz⟩
          · have hY9' : decide (10000 < Y) = false := by simpa using hY9
            go_wp2_with fail
            have hone := one_new w.heap.size (p2 + 5 + 1 + 1 + 1 + 1 + 1) [1, 10, 60, 100, 7, 1000, 60, 100, 0, 9999, 10000, 300] _ r8 (by omega) (by simp) (by simp)
            simp only [List.map_cons, List.map_nil, List.length_cons, List.length_nil, Nat.zero_add, Nat.reduceAdd] at hone
            refine hone.mono ?_
            clear hone
            rintro e wz ⟨st, rfl, hst, rz, gz⟩
            have oz := own_kept o8 gz hlt
            have bz := b8.trans (below_of_grown gz (Nat.le_refl _) b8.size)
            have hst' : 0 ≤ st ∧ st ≤ 10000 := by simp only [List.mem_cons, List.not_mem_nil, or_false] at hst; omega
            clear hst
            go_wp2_with fail
            refine bodyPost_ret (v := .tuple #[.slice (some ⟨g, 0, none⟩) (n + 1) cp, .int .i64 (A'), .int .i64 (Y), .int .i64 st]) (by simp [results, Try.results31, go_sem]) rfl ?_
            exact ⟨zs, g, cp, _, _, st, by rw [← unhide HN], by have := unhide HN; omega, by omega, Sam.is_of_own (by rw [← unhide HN]; exact oz), own_lt oz, bz⟩
      · have hx' : (x == 0) = false := by simp; omega
        go_wp2_with fail
        have hone := one_new w.heap.size (p2 + 5 + 1 + 1 + 1 + 1) [1, 10, 60, 100, 7, 1000, 60, 100, 0, 9999, 10000, 300] _ r7 (by omega) (by simp) (by simp)
        simp only [List.map_cons, List.map_nil, List.length_cons, List.length_nil, Nat.zero_add, Nat.reduceAdd] at hone
        refine hone.mono ?_
        clear hone
        rintro e wz ⟨st, rfl, hst, rz, gz⟩
        have oz := own_kept o7 gz hlt
        have bz := b7.trans (below_of_grown gz (Nat.le_refl _) b7.size)
        have hst' : 0 ≤ st ∧ st ≤ 10000 := by simp only [List.mem_cons, List.not_mem_nil, or_false] at hst; omega
        clear hst
        go_wp2_with fail
        refine bodyPost_ret (v := .tuple #[.slice (some ⟨g, 0, none⟩) (n + 1) cp, .int .i64 (A'), .int .i64 (D), .int .i64 st]) (by simp [results, Try.results31, go_sem]) rfl ?_
        exact ⟨zs, g, cp, _, _, st, by rw [← unhide HN], by have := unhide HN; omega, by omega, Sam.is_of_own (by rw [← unhide HN]; exact oz), own_lt oz, bz⟩
  · have hc' : decide (0 < c) = false := by simpa using hc
    go_wp2_with fail
    have hone := one_new w.heap.size (p2 + 5 + 1) [1, 10, 60, 100, 7, 1000, 60, 100, 0, 9999, 10000, 300] _ r4 (by omega) (by simp) (by simp)
    simp only [List.map_cons, List.map_nil, List.length_cons, List.length_nil, Nat.zero_add, Nat.reduceAdd] at hone
    refine hone.mono ?_
    clear hone
    rintro e wz ⟨st, rfl, hst, rz, gz⟩
    have oz := own_kept o4 gz hlt
    have bz := b4.trans (below_of_grown gz (Nat.le_refl _) b4.size)
    have hst' : 0 ≤ st ∧ st ≤ 10000 := by simp only [List.mem_cons, List.not_mem_nil, or_false] at hst; omega
    clear hst
    go_wp2_with fail
    refine bodyPost_ret (v := .tuple #[.slice (some ⟨g, 0, none⟩) zs.length cp, .int .i64 (A), .int .i64 (B), .int .i64 st]) (by simp [results, Try.results31, go_sem]) rfl ?_
    exact ⟨zs, g, cp, _, _, st, by rfl, by exact hl, by omega, Sam.is_of_own (by exact oz), own_lt oz, bz⟩
end Go.Proofs.Ytogdllkbiibicaa.Draw
