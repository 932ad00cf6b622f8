/- l4Put and ListEither of the model. -/
import Derived.Test.YtddbgchmpehffaaIntsImpl
import Derived.Deep.RegionLaw
namespace Go.Proofs.Ytddbgchmpehffaa.Ints
open Go.RowKit ListMath Rw
set_option linter.unusedVariables false
attribute [local go_sem ↓] Go.wp_at_zero Go.wp_at_succ
theorem own_empty' {w : World} {base B : Nat} {e : TypeId} {size : Nat} (hb : base ≤ w.heap.size) (hB : B = w.heap.size) : (w.alloc (.cells #[] e)).ownsRow base e size (.slice (some ⟨B, 0, none⟩) 0 0) 0 [] := by
  subst hB; exact own_empty hb
theorem putAt_of : ∀ (l : List Int) (x : Int) (k : Nat), k ≤ l.length → (∀ j, j < k → at' l j < x) → (k < l.length → ¬ at' l k < x) → putAt l x = k
  | [], x, k, h, _, _ => by simp at h; subst h; rfl
  | y :: l, x, 0, _, _, h => by
    have := h (by simp)
    have e : at' (y :: l) 0 = y := rfl
    rw [e] at this
    simp [putAt, this]
  | y :: l, x, k + 1, h, h1, h2 => by
    have hy : y < x := h1 0 (by omega)
    have ih := putAt_of l x k (by simpa using h) (fun j hj => by have := h1 (j + 1) (by omega); simpa [at', List.getD] using this) (fun hk => by have := h2 (by simpa using hk); simpa [at', List.getD] using this)
    unfold putAt at ih ⊢
    simp [hy, ih]
theorem put_there {l : List Int} {x : Int} {k : Nat} (hk : k < l.length) (h : putAt l x = k) (he : at' l k = x) : put l x = l := by
  unfold put
  rw [h, if_pos ⟨by intro e; have := congrArg List.length e; simp at this; omega, he⟩]
theorem put_new {l : List Int} {x : Int} {k : Nat} (h : putAt l x = k) (he : k < l.length → at' l k ≠ x) : put l x = l.take k ++ x :: l.drop k := by
  unfold put
  rw [h, if_neg]
  rintro ⟨h1, h2⟩
  refine he ?_ h2
  rcases Nat.lt_or_ge k l.length with hl | hl
  · exact hl
  · exact absurd (List.drop_eq_nil_of_le hl) h1
theorem head_ok {w : World} {a : Option Addr} {N cap k : Nat} {xs : List Value} (h : Lies w (.slice a N cap) N 1 xs) (h0 : k ≤ N) :
    ∃ R, (∀ W, (Instr.slice 23 (.slice a N cap) none (some (.int .i64 (k : Int))) none).run Try.prog W = .ok R W) ∧ Lies w R k 1 (xs.take k) := by
  have hc : N ≤ cap := by obtain ⟨-, a', cap', h1, h2, -⟩ := h; simp only [Value.slice.injEq, true_and] at h1; omega
  have h1 := take_lies (k := k) (cut_lies h (i := 0) (by omega)) (by omega)
  rw [Nat.zero_mul, List.drop_zero, Nat.mul_one] at h1
  refine ⟨_, fun W => ?_, h1⟩
  have e := run_slice_h (P := Try.prog) W 23 a N cap (by kernel_rfl) .i64 (k : Int) (by omega) (by omega)
  rw [e]
  show ((sizeOf (Try.prog.elem 23)).run Try.prog W).andThen _ = _
  rw [size_int]
  simp [sliced]
theorem rest_ok {w : World} {a : Option Addr} {N cap k : Nat} {xs : List Value} (h : Lies w (.slice a N cap) N 1 xs) (h0 : k ≤ N) :
    ∃ R, (∀ W, (Instr.slice 23 (.slice a N cap) (some (.int .i64 (k : Int))) none none).run Try.prog W = .ok R W) ∧ Lies w R (N - k) 1 (xs.drop k) := by
  have hc : N ≤ cap := by obtain ⟨-, a', cap', h1, h2, -⟩ := h; simp only [Value.slice.injEq, true_and] at h1; omega
  refine ⟨_, fun W => ?_, by have := cut_lies h (i := k) (by omega); rw [Nat.mul_one] at this; exact this⟩
  have e := run_slice_l (P := Try.prog) W 23 a N cap (by kernel_rfl) .i64 (k : Int) (by omega) (by omega)
  rw [e]
  show ((sizeOf (Try.prog.elem 23)).run Try.prog W).andThen _ = _
  rw [size_int]
  simp [sliced]
set_option maxRecDepth 100000 in
set_option maxHeartbeats 4000000 in
theorem l4Put_any {base : Nat} {v : Value} {l : List Int} {w : World} (x : Int) (hb : base ≤ w.heap.size) (hl : l.length ≤ 8388608) (hown : w.ownsRow base 3 1 v l.length (flat l)) :
    Calls Try.prog 33 #[v, .int .i64 x] w fun e w' => ∃ r, e = .returned r ∧ w'.ownsRow base 3 1 r (put l x).length (flat (put l x)) ∧ Below w.heap.size w w' := by
  obtain ⟨i0, hi, hz0, hz1, hz2⟩ := info_parts info_int
  have HOWN := hide hown
  have HLies := hide (show Lies w v l.length 1 (flat l) from is_of_own hown)
  obtain ⟨-, a, cap, rfl, hc, hm, -, hr⟩ := is_of_own hown
  unfold maxLen at hm
  have hmx : 1 ≤ maxLen := by unfold maxLen; omega
  obtain ⟨n, hn⟩ : ∃ n, n = l.length := ⟨_, rfl⟩
  rw [← hn] at hc hr HOWN HLies hl ⊢
  have HN := hide hn
  clear hn hown
  go_enter Try.func33, Try.ntmps33
  go_wp2
  go_loop [5] (fun i => ∃ k : Nat, k ≤ n ∧ i = .int .i64 k ∧ ∀ j, j < k → at' l j < x) (fun i => n - (intOf i).toNat)
  case atStart => exact ⟨0, Nat.zero_le _, rfl, fun j h => by omega⟩
  case round =>
    obtain ⟨k, hk, rfl, hlow⟩ := hrel
    have HL := hide hlow
    clear hlow
    have hk0 : (0 : Int) ≤ (k : Int) := Int.natCast_nonneg _
    have hkn : (k : Int) ≤ (n : Int) := by omega
    have hnc : (n : Int) ≤ (cap : Int) := by omega
    obtain ⟨S1, hS1, hL1⟩ := head_ok (unhide HLies) (show k ≤ n by omega)
    obtain ⟨S2, hS2, hL2⟩ := rest_ok (unhide HLies) (show k ≤ n by omega)
    have HS1 := hide (fun W (hB : Below w.heap.size w W) => hL1.below hB)
    have HS2 := hide (fun W (hB : Below w.heap.size w W) => hL2.below hB)
    have HO1 := hide (show ∀ u ∈ (flat l).take k, u.oneCell' = true from fun u hu => flat_oneCell l u (List.mem_of_mem_take hu))
    have HO2 := hide (show ∀ u ∈ (flat l).drop k, u.oneCell' = true from fun u hu => flat_oneCell l u (List.mem_of_mem_drop hu))
    clear hL1 hL2
    by_cases hlt : k < n
    · obtain ⟨b, off, rfl, hbl, hcells⟩ := hr (by omega)
      have hk1 : (k : Int) < (n : Int) := by omega
      have hc0 := hcells k _ (flat_get l k (by have := unhide HN; omega))
      obtain ⟨X, hX⟩ : ∃ X, X = at' l k := ⟨_, rfl⟩
      rw [← hX] at hc0
      have HX := hide hX
      clear hX
      by_cases hx : X < x
      · have HL' := hide (show ∀ j, j < k + 1 → at' l j < x from fun j hj => by
          by_cases e : j = k
          · subst e; rw [← unhide HX]; exact hx
          · exact unhide HL j (by omega))
        clear hS1 hS2
        go_wp2
        go_round
        case rel => exact ⟨k + 1, by omega, by go_num, unhide HL'⟩
        case measure => simp [intOf]; omega
      · have hxf : decide (X < x) = false := by simpa using hx
        have HP := hide (putAt_of l x k (by have := unhide HN; omega) (unhide HL) (fun _ => by rw [← unhide HX]; exact hx))
        by_cases he : X = x
        · have HPut := hide (put_there (by have := unhide HN; omega) (unhide HP) (by rw [← unhide HX]; exact he))
          subst he
          clear hS1 hS2
          go_wp2
          go_ret
          exact ⟨_, rfl, by rw [unhide HPut, ← unhide HN]; exact unhide HOWN, Below.refl _ _⟩
        · have hef : (X == x) = false := by simpa using he
          have HPut := hide (put_new (unhide HP) (fun _ => by rw [← unhide HX]; exact he))
          go_wp2_with fail
          go_region_law ((first | (refine app_step _ (by rfl) _ _ _ (by rfl) w.heap.size 3 i0 _ 1 8 Try.underlying23 hi hz0 hz1 hz2 rfl (by omega) _ 0 [] (by rfl) (by first | exact World.ownsRow.drew (own_empty' (Nat.le_refl _) rfl) | exact World.ownsRow.drew (World.ownsRow.alloc (own_empty' (Nat.le_refl _) rfl) _) | exact World.ownsRow.drew (own_empty' (w := w.alloc _) (by simp <;> omega) (by simp <;> omega))) S1 k _ (by rfl) (unhide HS1 _ (by first | exact ((Below.refl _ _).alloc (Nat.le_refl _) _).drew | exact (((Below.refl _ _).alloc (Nat.le_refl _) _).alloc (by simp <;> omega) _).drew)) (unhide HO1) (by unfold maxLen; omega) (by omega) (by simp <;> omega) ?_; intro v1 w1 o1 g1 a1; have B1 : Below w.heap.size w w1 := below_grown (by first | exact ((Below.refl _ _).alloc (Nat.le_refl _) _).drew | exact (((Below.refl _ _).alloc (Nat.le_refl _) _).alloc (by simp <;> omega) _).drew) (by simp <;> omega) g1 (by intro k hk; have e := Option.some.inj hk; simp at e; omega); have s1 := B1.size) | (refine app_step _ (by rfl) _ _ _ (by rfl) w.heap.size 3 i0 _ 1 8 Try.underlying23 hi hz0 hz1 hz2 rfl (by omega) _ (0 + k) _ (by rfl) (o1.alloc _) _ 1 [.int .i64 x] (by rfl) (lies_new rfl rfl hmx) (by simp [Value.oneCell']) (by unfold maxLen; omega) (by omega) (by simp <;> omega) ?_; intro v2 w2 o2 g2 a2; have B2 : Below w.heap.size w w2 := below_grown (B1.alloc s1 _) (by simp <;> omega) g2 (own_ge o1); have s2 := B2.size) | (refine app_step _ (by rfl) _ _ _ (by rfl) w.heap.size 3 i0 _ 1 8 Try.underlying23 hi hz0 hz1 hz2 rfl (by omega) _ (0 + k) _ (by rfl) o1 _ 1 [.int .i64 x] (by rfl) (Lies.grown (by first | exact Lies.drew (Lies.alloc (lies_new rfl rfl hmx) _) | exact Lies.drew (lies_new (w := w.alloc _) (by simp) rfl hmx)) g1 (fun k hk e' => by have e := Option.some.inj hk; have e2 := Option.some.inj e'; simp at e e2; omega)) (by simp [Value.oneCell']) (by unfold maxLen; omega) (by omega) (by omega) ?_; intro v2 w2 o2 g2 a2; have B2 : Below w.heap.size w w2 := below_grown B1 s1 g2 (own_ge o1); have s2 := B2.size) | (refine app_step _ (by rfl) _ _ _ (by rfl) w.heap.size 3 i0 _ 1 8 Try.underlying23 hi hz0 hz1 hz2 rfl (by omega) _ (0 + k + 1) _ (by rfl) o2 S2 (n - k) _ (by rfl) (unhide HS2 _ B2) (unhide HO2) (by unfold maxLen; omega) (by omega) (by omega) ?_; intro v3 w3 o3 g3 a3; have B3 : Below w.heap.size w w3 := below_grown B2 s2 g3 (own_ge o2))))
          all_goals
            have HF := hide (show flat (put l x) = [] ++ (flat l).take k ++ [.int .i64 x] ++ (flat l).drop k by rw [unhide HPut, flat_append]; simp [flat, List.map_take, List.map_drop])
            have HLn := hide (show (put l x).length = 0 + k + 1 + (n - k) by have := congrArg List.length (unhide HF); rw [flat_length] at this; rw [this]; simp [flat_length]; have := unhide HN; omega)
            go_wp2
            go_ret
            exact ⟨_, rfl, by rw [unhide HF, unhide HLn]; exact own_mono o3 hb, B3⟩
    · have hf : decide ((k : Int) < (n : Int)) = false := by simp; omega
      have HP := hide (putAt_of l x k (by have := unhide HN; omega) (unhide HL) (fun h => by have := unhide HN; omega))
      have HPut := hide (put_new (unhide HP) (fun h => by have := unhide HN; omega))
      go_wp2_with fail
      go_region_law ((first | (refine app_step _ (by rfl) _ _ _ (by rfl) w.heap.size 3 i0 _ 1 8 Try.underlying23 hi hz0 hz1 hz2 rfl (by omega) _ 0 [] (by rfl) (by first | exact World.ownsRow.drew (own_empty' (Nat.le_refl _) rfl) | exact World.ownsRow.drew (World.ownsRow.alloc (own_empty' (Nat.le_refl _) rfl) _) | exact World.ownsRow.drew (own_empty' (w := w.alloc _) (by simp <;> omega) (by simp <;> omega))) S1 k _ (by rfl) (unhide HS1 _ (by first | exact ((Below.refl _ _).alloc (Nat.le_refl _) _).drew | exact (((Below.refl _ _).alloc (Nat.le_refl _) _).alloc (by simp <;> omega) _).drew)) (unhide HO1) (by unfold maxLen; omega) (by omega) (by simp <;> omega) ?_; intro v1 w1 o1 g1 a1; have B1 : Below w.heap.size w w1 := below_grown (by first | exact ((Below.refl _ _).alloc (Nat.le_refl _) _).drew | exact (((Below.refl _ _).alloc (Nat.le_refl _) _).alloc (by simp <;> omega) _).drew) (by simp <;> omega) g1 (by intro k hk; have e := Option.some.inj hk; simp at e; omega); have s1 := B1.size) | (refine app_step _ (by rfl) _ _ _ (by rfl) w.heap.size 3 i0 _ 1 8 Try.underlying23 hi hz0 hz1 hz2 rfl (by omega) _ (0 + k) _ (by rfl) (o1.alloc _) _ 1 [.int .i64 x] (by rfl) (lies_new rfl rfl hmx) (by simp [Value.oneCell']) (by unfold maxLen; omega) (by omega) (by simp <;> omega) ?_; intro v2 w2 o2 g2 a2; have B2 : Below w.heap.size w w2 := below_grown (B1.alloc s1 _) (by simp <;> omega) g2 (own_ge o1); have s2 := B2.size) | (refine app_step _ (by rfl) _ _ _ (by rfl) w.heap.size 3 i0 _ 1 8 Try.underlying23 hi hz0 hz1 hz2 rfl (by omega) _ (0 + k) _ (by rfl) o1 _ 1 [.int .i64 x] (by rfl) (Lies.grown (by first | exact Lies.drew (Lies.alloc (lies_new rfl rfl hmx) _) | exact Lies.drew (lies_new (w := w.alloc _) (by simp) rfl hmx)) g1 (fun k hk e' => by have e := Option.some.inj hk; have e2 := Option.some.inj e'; simp at e e2; omega)) (by simp [Value.oneCell']) (by unfold maxLen; omega) (by omega) (by omega) ?_; intro v2 w2 o2 g2 a2; have B2 : Below w.heap.size w w2 := below_grown B1 s1 g2 (own_ge o1); have s2 := B2.size) | (refine app_step _ (by rfl) _ _ _ (by rfl) w.heap.size 3 i0 _ 1 8 Try.underlying23 hi hz0 hz1 hz2 rfl (by omega) _ (0 + k + 1) _ (by rfl) o2 S2 (n - k) _ (by rfl) (unhide HS2 _ B2) (unhide HO2) (by unfold maxLen; omega) (by omega) (by omega) ?_; intro v3 w3 o3 g3 a3; have B3 : Below w.heap.size w w3 := below_grown B2 s2 g3 (own_ge o2))))
      all_goals
        have HF := hide (show flat (put l x) = [] ++ (flat l).take k ++ [.int .i64 x] ++ (flat l).drop k by rw [unhide HPut, flat_append]; simp [flat, List.map_take, List.map_drop])
        have HLn := hide (show (put l x).length = 0 + k + 1 + (n - k) by have := congrArg List.length (unhide HF); rw [flat_length] at this; rw [this]; simp [flat_length]; have := unhide HN; omega)
        go_wp2
        go_ret
        exact ⟨_, rfl, by rw [unhide HF, unhide HLn]; exact own_mono o3 hb, B3⟩
theorem puts_snoc (l zs : List Int) (k : Nat) (h : k < zs.length) : (zs.take (k + 1)).foldl put l = put ((zs.take k).foldl put l) (at' zs k) := by rw [at_snoc zs k h, List.foldl_append]; rfl
theorem puts_take_le (l zs : List Int) (k : Nat) : ((zs.take k).foldl put l).length ≤ l.length + k := by
  have h1 := puts_le (zs.take k) l
  have h2 := List.length_take_le k zs
  omega
set_option maxRecDepth 100000 in
set_option maxHeartbeats 2000000 in
theorem spec_either : Gives 19 either := by
  intro w v u zs ys h h' hn hm
  obtain ⟨i0, hi, hz0, hz1, hz2⟩ := info_parts info_int
  have H1 := hide (spec_ok h)
  have H2 := hide (fun W (hb : Below w.heap.size w W) => spec_ok (h'.below hb))
  have HA := hide (fun W (hb : Below w.heap.size w W) => h.below hb)
  clear h
  obtain ⟨-, a, cap, rfl, hc, hcm, -, hr⟩ := h'
  unfold maxLen at hcm
  obtain ⟨n, hnn⟩ : ∃ n, n = ys.length := ⟨_, rfl⟩
  rw [← hnn] at hc hr hm H2 ⊢
  have HN := hide hnn
  clear hnn
  cases ho : ok zs
  · have HR := hide (show res either zs ys = [] from res_bad (.inl ho))
    have HO := hide ho
    clear ho
    go_enter Try.func19, Try.ntmps19
    go_wp2_with fail
    refine (unhide H1).mono ?_
    rintro e w1 ⟨rfl, b1⟩
    rw [unhide HO]
    go_wp2_with fail
    go_ret
    exact ⟨_, rfl, by rw [unhide HR]; exact own_empty b1.size, b1.alloc b1.size _⟩
  · cases ho' : ok ys
    · have HR := hide (show res either zs ys = [] from res_bad (.inr ho'))
      have HO := hide ho
      have HO' := hide ho'
      clear ho ho'
      go_enter Try.func19, Try.ntmps19
      go_wp2_with fail
      refine (unhide H1).mono ?_
      rintro e w1 ⟨rfl, b1⟩
      rw [unhide HO]
      go_wp2_with fail
      refine (unhide H2 _ b1).mono ?_
      rintro e w2 ⟨rfl, b2⟩
      rw [unhide HO']
      have c2 := b1.trans (b2.mono b1.size)
      go_wp2_with fail
      go_ret
      exact ⟨_, rfl, by rw [unhide HR]; exact own_empty c2.size, c2.alloc c2.size _⟩
    · have HR := hide (show res either zs ys = ys.foldl put zs by rw [res_ok ho ho']; exact merge_either (ok_up ho) (ok_up ho'))
      have HO := hide ho
      have HO' := hide ho'
      clear ho ho'
      go_enter Try.func19, Try.ntmps19
      go_wp2_with fail
      refine (unhide H1).mono ?_
      rintro e w1 ⟨rfl, b1⟩
      rw [unhide HO]
      go_wp2_with fail
      refine (unhide H2 _ b1).mono ?_
      rintro e w2 ⟨rfl, b2⟩
      rw [unhide HO']
      have c2 := b1.trans (b2.mono b1.size)
      have z2 := c2.size
      clear b1 b2
      go_wp2_with (at_builtin; refine app_wp _ rfl _ _ _ rfl w.heap.size 3 i0 _ 1 8 Try.underlying23 hi hz0 hz1 hz2 rfl (by omega) _ 0 [] rfl (own_empty z2) _ zs.length (flat zs) rfl (unhide HA _ (c2.alloc z2 _)) (flat_oneCell _) (by unfold maxLen; omega) (by omega) (by simp; omega) ?_; intro vn wn on gn an)
      have c3 : Below w.heap.size w wn := below_grown (c2.alloc z2 _) (by simp; omega) gn (by intro k hk; have e := Option.some.inj hk; simp at e; omega)
      rw [List.nil_append, Nat.zero_add] at on
      clear gn an c2 z2
      go_loopw [5, 6] (fun v i wr => ∃ k : Nat, k ≤ n ∧ i = .int .i64 k ∧ wr.ownsRow w.heap.size 3 1 v ((ys.take k).foldl put zs).length (flat ((ys.take k).foldl put zs)) ∧ Below w.heap.size w wr) (fun _ i _ => n - (intOf i).toNat)
      case atStart => exact ⟨0, Nat.zero_le _, rfl, on, c3⟩
      case round =>
        clear on c3
        obtain ⟨k, hk, rfl, hown, hbel⟩ := hrel
        have hsz := hbel.size
        by_cases hlt : k < n
        · have hle := puts_take_le zs ys k
          have HC := hide (puts_snoc zs ys k (by have := unhide HN; omega))
          obtain ⟨b, off, rfl, hl, hcells⟩ := hr (by omega)
          have hk0 : (0 : Int) ≤ (k : Int) := Int.natCast_nonneg _
          have hk1 : (k : Int) < (n : Int) := by omega
          have hc0 : wr.cell? ⟨b, off + k, none⟩ = some (.int .i64 (at' ys k)) := (hbel.cell (p := ⟨b, _, none⟩) hl).trans (hcells k _ (flat_get ys k (by have := unhide HN; omega)))
          obtain ⟨X, hX⟩ : ∃ X, X = at' ys k := ⟨_, rfl⟩
          rw [← hX] at hc0 HC
          clear hX
          generalize (ys.take k).foldl put zs = L at hown hle HC
          have HPut := hide (l4Put_any X hsz (by omega) hown)
          clear hown
          go_wp2_with fail
          refine (unhide HPut).mono ?_
          rintro e w4 ⟨r, rfl, o4, b4⟩
          have R := hbel.trans (b4.mono hsz)
          have R2 : w4.ownsRow w.heap.size 3 1 r ((ys.take (k + 1)).foldl put zs).length (flat ((ys.take (k + 1)).foldl put zs)) := by rw [unhide HC]; exact o4
          clear o4 b4
          go_wp2_with fail
          go_roundw
          case rel => exact ⟨k + 1, by omega, by go_num, R2, R⟩
          case measure => simp [intOf]; omega
        · go_wp2_with fail
          go_ret
          exact ⟨_, rfl, by rw [unhide HR]; rw [List.take_of_length_le (by have := unhide HN; omega)] at hown; exact hown, hbel⟩
end Go.Proofs.Ytddbgchmpehffaa.Ints
