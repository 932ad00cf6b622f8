/- My own texts of one claim, laid together by program: IntsLaw, IdxFind. -/
import Derived.Test.YtbkolpiekcifpaaGe9ee1a3ac3
import Derived.Test.YtbkolpiekcifpaaGdfb79642f1
/- What the laws' own helpers do with slices of ints: they are copied, held against each other, marked and looked at again; ListOk of the model. -/
namespace Go.Proofs.Ytbkolpiekcifpaa.Ints
open Go.RowKit ListMath Rw
set_option linter.unusedVariables false
attribute [local go_sem ↓] Go.wp_at_zero Go.wp_at_succ
theorem is_of_own {w : World} {base : Nat} {v : Value} {zs : List Int} (h : w.ownsRow base 3 1 v zs.length (flat zs)) : Is w v zs := lies_of_own h
theorem row_is {w : World} {a : Option Addr} {len cap : Nat} {z : List Int} (h : IsRow .i64 w a len cap z) : (z.take len).length = len ∧ Is w (.slice a len cap) (z.take len) := by
  rcases h with ⟨rfl, rfl, rfl, rfl⟩ | ⟨x, rfl, h1, h2, h3, h4, _⟩
  · exact ⟨rfl, rfl, none, 0, rfl, Nat.le_refl _, Nat.zero_le _, fun _ => rfl, fun h => by simp at h⟩
  · have hl : (z.take len).length = len := by simp; omega
    refine ⟨hl, by rw [flat_length]; omega, some x, cap, by rw [hl], by omega, h2, fun e => (by cases e), fun h0 => ?_⟩
    obtain ⟨b, off, spot⟩ := x
    have c0 := h4 0 (by omega)
    have hspot : spot = none := by simpa [Addr.add] using World.cell?_spot c0
    subst hspot
    refine ⟨b, off, rfl, World.block_lt_of_cell? w ⟨b, _, none⟩ c0, fun j u hj => ?_⟩
    have hj' := (List.getElem?_eq_some_iff.1 hj).1
    rw [flat_length, hl] at hj'
    rw [flat_get _ j (by omega)] at hj
    have e : at' (z.take len) j = z.getD j 0 := by simp [at', List.getD, hj']
    rw [← hj, e, ← Go.WideShapes.add_plain]
    exact h4 j (by omega)
theorem set_one (A : List Value) (u0 x : Value) (B : List Value) (k : Nat) (h : A.length = k) : (A ++ u0 :: B).set k x = A ++ [x] ++ B := by
  subst h
  rw [List.set_append_right _ _ (Nat.le_refl _), Nat.sub_self, List.set_cons_zero]
  simp
theorem split_one (r : List Value) (n : Nat) (h : r.length = n + 1) : ∃ u0 B, r = u0 :: B ∧ B.length = n := by
  match r, h with
  | u0 :: B, h => exact ⟨u0, B, rfl, by simpa using h⟩
set_option maxRecDepth 100000 in
set_option maxHeartbeats 1000000 in
theorem eq_any {v u : Value} {zs : List Int} {w : World} (h : Is w v zs) (h' : Is w u zs) : Calls Try.prog 61 #[v, u] w fun e w' => e = .returned (.bool true) ∧ Below w.heap.size w w' := by
  obtain ⟨-, a, cap, rfl, hc, hm, -, hr⟩ := h
  obtain ⟨-, a', cap', rfl, hc', hm', -, hr'⟩ := h'
  unfold maxLen at hm hm'
  obtain ⟨n, hn⟩ : ∃ n, n = zs.length := ⟨_, rfl⟩
  rw [← hn] at hc hr hc' hr' ⊢
  have HN := hide hn
  clear hn
  go_enter Try.func61, Try.ntmps61
  go_wp2
  go_loopw [5] (fun i wr => ∃ (k : Nat), k ≤ n ∧ i = .int .i64 k ∧ Below w.heap.size w wr) (fun i _ => n - (intOf i).toNat)
  case atStart => exact ⟨0, Nat.zero_le _, rfl, Below.refl _ _⟩
  case round =>
    obtain ⟨k, hk, rfl, hbel⟩ := hrel
    have hsz := hbel.size
    by_cases hlt : k < n
    · obtain ⟨b, off, rfl, hl, hcells⟩ := hr (by omega)
      obtain ⟨b', off', rfl, hl', hcells'⟩ := hr' (by omega)
      obtain ⟨X, hX⟩ : ∃ X, X = at' zs k := ⟨_, rfl⟩
      have hq0 : ∀ x : Cls wr.heap.size wr, x.val.cell? ⟨b, off + k, none⟩ = some (.int .i64 X) := fun x => by rw [x.cell (by omega), hX]; exact (hbel.cell (p := ⟨b, _, none⟩) hl).trans (hcells k _ (flat_get zs k (by have := unhide HN; omega)))
      have hp0 : ∀ x : Cls wr.heap.size wr, x.val.cell? ⟨b', off' + k, none⟩ = some (.int .i64 X) := fun x => by rw [x.cell (by omega), hX]; exact (hbel.cell (p := ⟨b', _, none⟩) hl').trans (hcells' k _ (flat_get zs k (by have := unhide HN; omega)))
      have hk0 : (0 : Int) ≤ (k : Int) := Int.natCast_nonneg _
      have hk1 : (k : Int) < (n : Int) := by omega
      clear hX
      have hne := cls_nonempty wr.heap.size wr
      go_wp2_with fail
      refine region_cls (by kernel_rfl) (by kernel_rfl) ?_
      repeat (go_big_quiet_step (fail))
      refine wpQuiet_nil ?_
      rintro _ ⟨⟨wq, hq⟩, rfl⟩
      go_wp2
      go_roundw
      case rel => exact ⟨k + 1, by omega, by go_num, hbel.trans (hq.mono hsz)⟩
      case measure => simp [intOf]; omega
    · go_wp2
      go_ret
      exact ⟨rfl, hbel⟩
def marks (k0 : Int) (n : Nat) : List Int := (List.range n).map fun i : Nat => k0 + (i : Int)
theorem marks_length (k0 : Int) (n : Nat) : (marks k0 n).length = n := by simp [marks]
theorem marks_succ (k0 : Int) (n : Nat) : marks k0 (n + 1) = marks k0 n ++ [k0 + (n : Int)] := by simp [marks, List.range_succ]
theorem marks_at (k0 : Int) (n i : Nat) (h : i < n) : at' (marks k0 n) i = k0 + (i : Int) := by simp [marks, at', List.getD, h]
set_option maxRecDepth 100000 in
set_option maxHeartbeats 1000000 in
theorem mark_some (base g n cap : Nat) (zs : List Int) (k0 : Int) (w : World) (hk1 : 0 ≤ k0) (hk2 : k0 ≤ 1000000000000) (hn : n ≤ 8388608) (hz : zs.length = n) (hown : w.ownsRow base 3 1 (.slice (some ⟨g, 0, none⟩) n cap) n (flat zs)) :
    Calls Try.prog 37 #[.slice (some ⟨g, 0, none⟩) n cap, .int .i64 k0] w fun e w' => e = .returned (.int .i64 (k0 + (n : Int))) ∧
      w'.ownsRow base 3 1 (.slice (some ⟨g, 0, none⟩) n cap) n (flat (marks k0 n)) ∧ OnlyAt g w w' := by
  go_enter Try.func37, Try.ntmps37
  go_wp2
  go_loopw [1, 5] (fun kv i wr => ∃ (j : Nat) (r : List Value), j ≤ n ∧ i = .int .i64 j ∧ kv = .int .i64 (k0 + (j : Int)) ∧ r.length = n - j ∧ wr.ownsRow base 3 1 (.slice (some ⟨g, 0, none⟩) n cap) n (flat (marks k0 j) ++ r) ∧ OnlyAt g w wr) (fun _ i _ => n - (intOf i).toNat)
  case atStart => exact ⟨0, flat zs, Nat.zero_le _, rfl, by simp, by rw [flat_length]; omega, by simpa [marks, flat] using hown, OnlyAt.refl _ _⟩
  case round =>
    obtain ⟨j, r, hj, rfl, rfl, hrl, ho, hon⟩ := hrel
    by_cases hlt : j < n
    · obtain ⟨u0, B, rfl, hB⟩ := split_one r (n - j - 1) (by rw [hrl]; omega)
      have fl := flat_length (marks k0 j)
      rw [marks_length] at fl
      have hd0 : wr.cell? ⟨g, j, none⟩ = some u0 := by rw [ho.cellAt j (by omega)]; simp [fl]
      have hf0 := ho.frozenAt j
      have h0 : (0 : Int) ≤ (j : Int) := Int.natCast_nonneg _
      have h1 : (j : Int) < (n : Int) := by omega
      have HE := hide fl
      clear fl
      have o1 := (ho.stored j (.int .i64 (k0 + (j : Int)))).1
      rw [set_one _ _ _ _ _ (unhide HE)] at o1
      have e2 : flat (marks k0 (j + 1)) = flat (marks k0 j) ++ [.int .i64 (k0 + (j : Int))] := by rw [marks_succ, flat_append]; rfl
      rw [← e2] at o1
      have O1 := hide o1
      have R := hide (hon.setCell j (.int .i64 (k0 + (j : Int))))
      clear e2 ho o1
      go_wp2
      go_roundw
      case rel => exact ⟨j + 1, B, by omega, by go_num, by go_num, by omega, unhide O1, unhide R⟩
      case measure => simp [intOf]; omega
    · obtain rfl : j = n := by omega
      obtain rfl : r = [] := List.eq_nil_of_length_eq_zero (by rw [hrl]; omega)
      rw [List.append_nil] at ho
      go_wp2
      go_ret
      exact ⟨rfl, ho, hon⟩
theorem mark_nil (k0 : Int) (w : World) : Calls Try.prog 37 #[.slice none 0 0, .int .i64 k0] w fun e w' => e = .returned (.int .i64 k0) ∧ w' = w := by
  go_enter Try.func37, Try.ntmps37
  go_wp2
  refine wp_loop_rounds 1 ?_
  rw [rounds_succ]
  go_wp2
  go_ret
  exact ⟨rfl, rfl⟩
set_option maxRecDepth 100000 in
set_option maxHeartbeats 1000000 in
theorem held_any {v : Value} {n : Nat} {w : World} (k0 : Int) (hk1 : 0 ≤ k0) (hk2 : k0 ≤ 1000000000000) (hn : n ≤ 8388608) (h : Is w v (marks k0 n)) :
    Calls Try.prog 38 #[v, .int .i64 k0] w fun e w' => e = .returned (.int .i64 (k0 + (n : Int))) ∧ w' = w := by
  obtain ⟨-, a, cap, rfl, hc, hm, -, hr⟩ := h
  rw [marks_length] at hc hr ⊢
  go_enter Try.func38, Try.ntmps38
  go_wp2
  go_loop [1, 5] (fun kv i => ∃ (j : Nat), j ≤ n ∧ i = .int .i64 j ∧ kv = .int .i64 (k0 + (j : Int))) (fun _ i => n - (intOf i).toNat)
  case atStart => exact ⟨0, Nat.zero_le _, rfl, by simp⟩
  case round =>
    obtain ⟨j, hj, rfl, rfl⟩ := hrel
    by_cases hlt : j < n
    · obtain ⟨b, off, rfl, hl, hcells⟩ := hr (by omega)
      have hc0 := hcells j _ (flat_get _ j (by rw [marks_length]; exact hlt))
      rw [marks_at k0 n j hlt] at hc0
      have h0 : (0 : Int) ≤ (j : Int) := Int.natCast_nonneg _
      have h1 : (j : Int) < (n : Int) := by omega
      go_wp2
      go_round
      case rel => exact ⟨j + 1, by omega, by go_num, by go_num⟩
      case measure => simp [intOf]; omega
    · obtain rfl : j = n := by omega
      go_wp2
      go_ret
      exact ⟨rfl, rfl⟩
/-- new marks are laid in a row of the call's own; what lies elsewhere is as it was -/
theorem mark_any {base : Nat} {v : Value} {zs : List Int} {w : World} (k0 : Int) (hk1 : 0 ≤ k0) (hk2 : k0 ≤ 1000000000000) (hn : zs.length ≤ 8388608) (hown : w.ownsRow base 3 1 v zs.length (flat zs)) :
    Calls Try.prog 37 #[v, .int .i64 k0] w fun e w' => e = .returned (.int .i64 (k0 + (zs.length : Int))) ∧
      w'.ownsRow base 3 1 v zs.length (flat (marks k0 zs.length)) ∧ Below base w w' ∧ w'.heap.size = w.heap.size ∧
      (∀ (u : Value) (ys : List Int), Is w u ys → (∀ k, u.ownBlock = some k → v.ownBlock ≠ some k) → Is w' u ys) ∧
      (∀ (b' n' : Nat) (u : Value) (xs : List Value), w.ownsRow b' 3 1 u n' xs → (∀ k, u.ownBlock = some k → v.ownBlock ≠ some k) → w'.ownsRow b' 3 1 u n' xs) := by
  have hf := hown
  rcases hown.2 with ⟨h1, h2⟩ | ⟨g, cap, cur, h1, h2, hg, _⟩
  · subst h1
    obtain rfl : zs = [] := List.eq_nil_of_length_eq_zero h2
    refine (mark_nil k0 w).mono ?_
    rintro e w' ⟨rfl, rfl⟩
    exact ⟨ret_int (by simp), ⟨rfl, .inl ⟨rfl, rfl⟩⟩, Below.refl _ _, rfl, fun u ys h _ => h, fun b' n' u xs h _ => h⟩
  · subst h1
    refine (mark_some base g zs.length cap zs k0 w hk1 hk2 hn rfl hf).mono ?_
    rintro e w' ⟨rfl, ho, hon⟩
    exact ⟨rfl, ho, hon.below h2, hon.size, fun u ys h hne => hon.lies h (fun k hk e => hne k hk (by rw [e]; rfl)), fun b' n' u xs h hne => hon.own h (fun k hk e => hne k hk (by rw [e]; rfl))⟩
theorem own_marks {base : Nat} {v : Value} {n : Nat} {k0 : Int} {w : World} (h : w.ownsRow base 3 1 v n (flat (marks k0 n))) : Is w v (marks k0 n) := is_of_own (by rw [marks_length]; exact h)
end Go.Proofs.Ytbkolpiekcifpaa.Ints

/- IndexFind, of the program and of the model. -/
namespace Go.Proofs.Ytbkolpiekcifpaa.Lss
open Go.RowKit Rw
set_option linter.unusedVariables false
attribute [local go_sem ↓] Go.wp_at_zero Go.wp_at_succ
theorem info_i : (Try.prog.info? 3).map (fun i => (i.zero, i.size, i.bytes)) = some (some (.int .i64 0), 1, 8) := by kernel_rfl
set_option maxRecDepth 100000 in
set_option maxHeartbeats 4000000 in
theorem impl_find {w : World} {v u : Value} {zs : List E} {ms : List Mat.E} (h : Is w v zs) (h' : Mat.Is w u ms) (hg : ∀ x ∈ zs, good x) (hg' : ∀ x ∈ ms, Mat.good x) (hz : ms.length ≤ maxLen) :
    Calls Try.prog 19 #[v, u] w fun e w' => ∃ r, e = .returned r ∧ w'.ownsRow w.heap.size 3 1 r (find ms zs).length (Ints.flat (find ms zs)) ∧ Below w.heap.size w w' := by
  obtain ⟨i0, hi, hz0, hz1, hz2⟩ := info_parts info_i
  have HAll := hide (impl_all h hg)
  cases hA : allOk zs
  · have HR := hide (find_no (ms := ms) hA)
    rw [hA] at HAll
    clear hA h h' hg hg'
    go_enter Try.func19, Try.ntmps19
    go_wp2_with fail
    refine (unhide HAll).mono ?_
    rintro e w1 ⟨rfl, b1⟩
    go_wp2_with fail
    go_ret
    exact ⟨_, rfl, by rw [unhide HR]; exact World.ownsRow_nil _ _ _ _, b1⟩
  have HR := hide (find_yes (ms := ms) hA)
  rw [hA] at HAll
  obtain ⟨cs, hcs, hL, hE⟩ := h
  have HE := hide hE
  obtain ⟨-, a, cap, rfl, hc, hm, -, hr⟩ := hL
  unfold maxLen at hm
  obtain ⟨n, hn⟩ : ∃ n, n = zs.length := ⟨_, rfl⟩
  have hn40 : n ≤ 40 := by rw [hn]; exact allOk_len hA
  rw [← hn] at hc hr hcs HAll ⊢
  have HN := hide hn
  have HC := hide hcs
  have HG := hide hg
  obtain ⟨ua, ul, uq, rfl⟩ : ∃ a l q, u = .slice a l q := by obtain ⟨-, a, q, e, -⟩ := h'; exact ⟨a, _, q, e⟩
  have HLet := hide (fun (W : World) (hb : Below w.heap.size w W) (k : Nat) (hk : k < n) => Mat.impl_let (h'.below hb) ((hE k (by omega)).below hb) hg' (hg _ (at_mem zs k (by omega))).2 hz)
  clear hn hE hcs hg hg' h' hA
  go_enter Try.func19, Try.ntmps19
  go_wp2_with fail
  refine (unhide HAll).mono ?_
  rintro e w1 ⟨rfl, b1⟩
  clear HAll
  go_wp2_with fail
  go_loopw [5, 13] (fun ov i wr => ∃ k : Nat, k ≤ n ∧ i = .int .i64 k ∧ (∃ a l q, ov = .slice a l q) ∧ wr.ownsRow w.heap.size 3 1 ov (findTo ms zs k).length (Ints.flat (findTo ms zs k)) ∧ Below w.heap.size w wr) (fun _ i _ => n - (intOf i).toNat)
  case atStart => exact ⟨0, Nat.zero_le _, rfl, ⟨_, _, _, rfl⟩, World.ownsRow_nil _ _ _ _, b1⟩
  case round =>
    clear b1
    obtain ⟨k, hk, rfl, ⟨oa, ol, oq, rfl⟩, hown, hbel⟩ := hrel
    have hsz := hbel.size
    have hk0 : (0 : Int) ≤ (k : Int) := Int.natCast_nonneg _
    by_cases hlt : k < n
    · obtain ⟨b, off, rfl, hl, hcells⟩ := hr (by omega)
      have fa := flat_at cs k (by have := unhide HC; omega)
      have hc0 : wr.cell? ⟨b, off + k, none⟩ = some (cat cs k) := (hbel.cell (p := ⟨b, _, none⟩) hl).trans (hcells k _ fa)
      have gd := unhide HG (at' zs k) (at_mem zs k (by have := unhide HN; omega))
      have HL := hide (unhide HLet wr hbel k hlt)
      have HFL := hide (findTo_len ms zs k)
      obtain ⟨c0, hX⟩ : ∃ c0, c0 = cat cs k := ⟨_, rfl⟩
      rw [← hX] at hc0 HL
      clear hX fa gd
      have hk1 : (k : Int) < (n : Int) := by omega
      cases hq : Mat.mlet ms (at' zs k)
      · have HS := hide (findTo_no hq)
        rw [hq] at HL
        clear hq
        go_wp2_with fail
        refine (unhide HL).mono ?_
        rintro e w2 ⟨rfl, b2⟩
        have c2 := hbel.trans (b2.mono hsz)
        have o2 := own_below hown b2
        rw [← unhide HS] at o2
        have O2 := hide o2
        clear o2 hown b2
        go_wp2_with fail
        go_roundw
        case rel => exact ⟨k + 1, by omega, by go_num, ⟨_, _, _, rfl⟩, unhide O2, c2⟩
        case measure => simp [intOf]; omega
      · have HS := hide (findTo_yes hq)
        rw [hq] at HL
        clear hq
        go_wp2_with fail
        refine (unhide HL).mono ?_
        rintro e w2 ⟨rfl, b2⟩
        have c2 := hbel.trans (b2.mono hsz)
        have z2 := b2.size
        have o2 := own_below hown b2
        clear hown b2
        go_wp2_with (at_builtin; refine app_wp _ rfl _ _ _ rfl w.heap.size 3 i0 _ 1 8 Try.underlying35 hi hz0 hz1 hz2 rfl (by omega) _ (findTo ms zs k).length _ rfl (o2.alloc _) _ 1 [.int .i64 (k : Int)] rfl (lies_new (by simp) rfl (by unfold maxLen; omega)) (by simp [Value.oneCell']) (by unfold maxLen; have := unhide HFL; omega) (by have := unhide HFL; omega) (by simp; omega) ?_; intro vn wn on gn an)
        have R9 : Below w.heap.size w wn := below_grown (c2.alloc (by omega) _) (by simp; omega) gn (own_ge o2)
        have hform : ∃ a l q, vn = .slice a l q := by obtain ⟨-, a, q, e, -⟩ := lies_of_own on; exact ⟨a, _, q, e⟩
        obtain ⟨na, nl, nq, rfl⟩ := hform
        have R2 := hide (show wn.ownsRow w.heap.size 3 1 (.slice na nl nq) (findTo ms zs (k + 1)).length (Ints.flat (findTo ms zs (k + 1))) by rw [unhide HS, List.length_append, Ints.flat_append]; exact on)
        clear on gn an o2
        go_wp2_with fail
        go_roundw
        case rel => exact ⟨k + 1, by omega, by go_num, ⟨_, _, _, rfl⟩, unhide R2, R9⟩
        case measure => simp [intOf]; omega
    · obtain rfl : k = n := by omega
      have hkf : decide ((k : Int) < (k : Int)) = false := by simp
      have O := hide (show wr.ownsRow w.heap.size 3 1 (.slice oa ol oq) (find ms zs).length (Ints.flat (find ms zs)) by rw [unhide HR, ← unhide HN]; exact hown)
      clear hown
      go_wp2_with fail
      go_ret
      exact ⟨_, rfl, unhide O, hbel⟩
end Go.Proofs.Ytbkolpiekcifpaa.Lss
