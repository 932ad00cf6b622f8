/- IndexFind, of the program and of the model. -/
import Derived.Test.YtfccibbgjjajjaaIdxOk
import Derived.Test.YtfccibbgjjajjaaLet4
import Derived.Test.YtfccibbgjjajjaaIntsLaw
namespace Go.Proofs.Ytfccibbgjjajjaa.Lss
open Go.RowKit Rw
set_option linter.unusedVariables false
attribute [local go_sem ↓] Go.wp_at_zero Go.wp_at_succ
theorem info_i : (Try.prog.info? 3).map (fun i => (i.zero, i.size, i.bytes)) = some (some (.int .i64 0), 1, 8) := by kernel_rfl
set_option maxRecDepth 100000 in
set_option maxHeartbeats 4000000 in
theorem impl_find {w : World} {v u : Value} {zs : List E} {ms : List Mat.E} (h : Is w v zs) (h' : Mat.Is w u ms) (hg : ∀ x ∈ zs, good x) (hg' : ∀ x ∈ ms, Mat.good x) (hz : ms.length ≤ maxLen) :
    Calls Try.prog 21 #[v, u] w fun e w' => ∃ r, e = .returned r ∧ w'.ownsRow w.heap.size 3 1 r (find ms zs).length (Ints.flat (find ms zs)) ∧ Below w.heap.size w w' := by
  obtain ⟨i0, hi, hz0, hz1, hz2⟩ := info_parts info_i
  have HAll := hide (impl_all h hg)
  cases hA : allOk zs
  · have HR := hide (find_no (ms := ms) hA)
    rw [hA] at HAll
    clear hA h h' hg hg'
    go_enter Try.func21, Try.ntmps21
    go_wp2_with fail
    refine (unhide HAll).mono ?_
    rintro e w1 ⟨rfl, b1⟩
    go_wp2_with fail
    go_ret
    exact ⟨_, rfl, by rw [unhide HR]; exact World.ownsRow_nil _ _ _ _, b1⟩
  have HR := hide (find_yes (ms := ms) hA)
  rw [hA] at HAll
  obtain ⟨cs, hcs, hL, hE⟩ := h
  have HE := hide hE
  obtain ⟨-, a, cap, rfl, hc, hm, -, hr⟩ := hL
  unfold maxLen at hm
  obtain ⟨n, hn⟩ : ∃ n, n = zs.length := ⟨_, rfl⟩
  have hn40 : n ≤ 40 := by rw [hn]; exact allOk_len hA
  rw [← hn] at hc hr hcs HAll ⊢
  have HN := hide hn
  have HC := hide hcs
  have HG := hide hg
  obtain ⟨ua, ul, uq, rfl⟩ : ∃ a l q, u = .slice a l q := by obtain ⟨-, a, q, e, -⟩ := h'; exact ⟨a, _, q, e⟩
  have HLet := hide (fun (W : World) (hb : Below w.heap.size w W) (k : Nat) (hk : k < n) => Mat.impl_let (h'.below hb) ((hE k (by omega)).below hb) hg' (hg _ (at_mem zs k (by omega))).2 hz)
  clear hn hE hcs hg hg' h' hA
  go_enter Try.func21, Try.ntmps21
  go_wp2_with fail
  refine (unhide HAll).mono ?_
  rintro e w1 ⟨rfl, b1⟩
  clear HAll
  go_wp2_with fail
  go_loopw [5, 13] (fun ov i wr => ∃ k : Nat, k ≤ n ∧ i = .int .i64 k ∧ (∃ a l q, ov = .slice a l q) ∧ wr.ownsRow w.heap.size 3 1 ov (findTo ms zs k).length (Ints.flat (findTo ms zs k)) ∧ Below w.heap.size w wr) (fun _ i _ => n - (intOf i).toNat)
  case atStart => exact ⟨0, Nat.zero_le _, rfl, ⟨_, _, _, rfl⟩, World.ownsRow_nil _ _ _ _, b1⟩
  case round =>
    clear b1
    obtain ⟨k, hk, rfl, ⟨oa, ol, oq, rfl⟩, hown, hbel⟩ := hrel
    have hsz := hbel.size
    have hk0 : (0 : Int) ≤ (k : Int) := Int.natCast_nonneg _
    by_cases hlt : k < n
    · obtain ⟨b, off, rfl, hl, hcells⟩ := hr (by omega)
      have fa := flat_at cs k (by have := unhide HC; omega)
      have hc0 : wr.cell? ⟨b, off + k, none⟩ = some (cat cs k) := (hbel.cell (p := ⟨b, _, none⟩) hl).trans (hcells k _ fa)
      have gd := unhide HG (at' zs k) (at_mem zs k (by have := unhide HN; omega))
      have HL := hide (unhide HLet wr hbel k hlt)
      have HFL := hide (findTo_len ms zs k)
      obtain ⟨c0, hX⟩ : ∃ c0, c0 = cat cs k := ⟨_, rfl⟩
      rw [← hX] at hc0 HL
      clear hX fa gd
      have hk1 : (k : Int) < (n : Int) := by omega
      cases hq : Mat.mlet ms (at' zs k)
      · have HS := hide (findTo_no hq)
        rw [hq] at HL
        clear hq
        go_wp2_with fail
        refine (unhide HL).mono ?_
        rintro e w2 ⟨rfl, b2⟩
        have c2 := hbel.trans (b2.mono hsz)
        have o2 := own_below hown b2
        rw [← unhide HS] at o2
        have O2 := hide o2
        clear o2 hown b2
        go_wp2_with fail
        go_roundw
        case rel => exact ⟨k + 1, by omega, by go_num, ⟨_, _, _, rfl⟩, unhide O2, c2⟩
        case measure => simp [intOf]; omega
      · have HS := hide (findTo_yes hq)
        rw [hq] at HL
        clear hq
        go_wp2_with fail
        refine (unhide HL).mono ?_
        rintro e w2 ⟨rfl, b2⟩
        have c2 := hbel.trans (b2.mono hsz)
        have z2 := b2.size
        have o2 := own_below hown b2
        clear hown b2
        go_wp2_with (at_builtin; refine app_wp _ rfl _ _ _ rfl w.heap.size 3 i0 _ 1 8 Try.underlying35 hi hz0 hz1 hz2 rfl (by omega) _ (findTo ms zs k).length _ rfl (o2.alloc _) _ 1 [.int .i64 (k : Int)] rfl (lies_new (by simp) rfl (by unfold maxLen; omega)) (by simp [Value.oneCell']) (by unfold maxLen; have := unhide HFL; omega) (by have := unhide HFL; omega) (by simp; omega) ?_; intro vn wn on gn an)
        have R9 : Below w.heap.size w wn := below_grown (c2.alloc (by omega) _) (by simp; omega) gn (own_ge o2)
        have hform : ∃ a l q, vn = .slice a l q := by obtain ⟨-, a, q, e, -⟩ := lies_of_own on; exact ⟨a, _, q, e⟩
        obtain ⟨na, nl, nq, rfl⟩ := hform
        have R2 := hide (show wn.ownsRow w.heap.size 3 1 (.slice na nl nq) (findTo ms zs (k + 1)).length (Ints.flat (findTo ms zs (k + 1))) by rw [unhide HS, List.length_append, Ints.flat_append]; exact on)
        clear on gn an o2
        go_wp2_with fail
        go_roundw
        case rel => exact ⟨k + 1, by omega, by go_num, ⟨_, _, _, rfl⟩, unhide R2, R9⟩
        case measure => simp [intOf]; omega
    · obtain rfl : k = n := by omega
      have hkf : decide ((k : Int) < (k : Int)) = false := by simp
      have O := hide (show wr.ownsRow w.heap.size 3 1 (.slice oa ol oq) (find ms zs).length (Ints.flat (find ms zs)) by rw [unhide HR, ← unhide HN]; exact hown)
      clear hown
      go_wp2_with fail
      go_ret
      exact ⟨_, rfl, unhide O, hbel⟩
set_option maxRecDepth 100000 in
set_option maxHeartbeats 4000000 in
theorem l4Find_any {w : World} {v u : Value} {zs : List E} {ms : List Mat.E} (h : Is w v zs) (h' : Mat.Is w u ms) (hg : ∀ x ∈ zs, good x) (hg' : ∀ x ∈ ms, Mat.good x) (hA : allOk zs = true) (hM : Mat.ok ms = true) :
    Calls Try.prog 56 #[v, u] w fun e w' => ∃ r, e = .returned r ∧ w'.ownsRow w.heap.size 3 1 r (find ms zs).length (Ints.flat (find ms zs)) ∧ Below w.heap.size w w' := by
  obtain ⟨i0, hi, hz0, hz1, hz2⟩ := info_parts info_i
  have HR := hide (find_yes (ms := ms) hA)
  have HML := hide (fun (k : Nat) (hk : k < zs.length) => (show Mat.mlet ms (at' zs k) = Mat.lets ms (at' zs k) by unfold Mat.mlet; rw [hM, allOk_at hA hk]; rfl))
  obtain ⟨cs, hcs, hL, hE⟩ := h
  have HE := hide hE
  obtain ⟨-, a, cap, rfl, hc, hm, -, hr⟩ := hL
  unfold maxLen at hm
  obtain ⟨n, hn⟩ : ∃ n, n = zs.length := ⟨_, rfl⟩
  have hn40 : n ≤ 40 := by rw [hn]; exact allOk_len hA
  rw [← hn] at hc hr hcs HML ⊢
  have HN := hide hn
  have HC := hide hcs
  have HG := hide hg
  obtain ⟨ua, ul, uq, rfl⟩ : ∃ a l q, u = .slice a l q := by obtain ⟨-, a, q, e, -⟩ := h'; exact ⟨a, _, q, e⟩
  have HLet := hide (fun (W : World) (hb : Below w.heap.size w W) (k : Nat) (hk : k < n) => Mat.l3Lets_any (h'.below hb) ((hE k (by omega)).below hb) hg' (hg _ (at_mem zs k (by omega))).2)
  clear hn hE hcs hg hg' h' hA hM
  go_enter Try.func56, Try.ntmps56
  go_wp2_with fail
  go_loopw [5, 6] (fun ov i wr => ∃ k : Nat, k ≤ n ∧ i = .int .i64 k ∧ (∃ a l q, ov = .slice a l q) ∧ wr.ownsRow w.heap.size 3 1 ov (findTo ms zs k).length (Ints.flat (findTo ms zs k)) ∧ Below w.heap.size w wr) (fun _ i _ => n - (intOf i).toNat)
  case atStart => exact ⟨0, Nat.zero_le _, rfl, ⟨_, _, _, rfl⟩, own_empty (Nat.le_refl _), (Below.refl _ _).alloc (Nat.le_refl _) _⟩
  case round =>
    obtain ⟨k, hk, rfl, ⟨oa, ol, oq, rfl⟩, hown, hbel⟩ := hrel
    have hsz := hbel.size
    have hk0 : (0 : Int) ≤ (k : Int) := Int.natCast_nonneg _
    by_cases hlt : k < n
    · obtain ⟨b, off, rfl, hl, hcells⟩ := hr (by omega)
      have fa := flat_at cs k (by have := unhide HC; omega)
      have hc0 : wr.cell? ⟨b, off + k, none⟩ = some (cat cs k) := (hbel.cell (p := ⟨b, _, none⟩) hl).trans (hcells k _ fa)
      have gd := unhide HG (at' zs k) (at_mem zs k (by have := unhide HN; omega))
      have HL := hide (unhide HLet wr hbel k hlt)
      rw [← unhide HML k hlt] at HL
      have HFL := hide (findTo_len ms zs k)
      obtain ⟨c0, hX⟩ : ∃ c0, c0 = cat cs k := ⟨_, rfl⟩
      rw [← hX] at hc0 HL
      clear hX fa gd
      have hk1 : (k : Int) < (n : Int) := by omega
      cases hq : Mat.mlet ms (at' zs k)
      · have HS := hide (findTo_no hq)
        rw [hq] at HL
        clear hq
        go_wp2_with fail
        refine (unhide HL).mono ?_
        rintro e w2 ⟨rfl, b2⟩
        have c2 := hbel.trans (b2.mono hsz)
        have o2 := own_below hown b2
        rw [← unhide HS] at o2
        have O2 := hide o2
        clear o2 hown b2
        go_wp2_with fail
        go_roundw
        case rel => exact ⟨k + 1, by omega, by go_num, ⟨_, _, _, rfl⟩, unhide O2, c2⟩
        case measure => simp [intOf]; omega
      · have HS := hide (findTo_yes hq)
        rw [hq] at HL
        clear hq
        go_wp2_with fail
        refine (unhide HL).mono ?_
        rintro e w2 ⟨rfl, b2⟩
        have c2 := hbel.trans (b2.mono hsz)
        have z2 := b2.size
        have o2 := own_below hown b2
        clear hown b2
        go_wp2_with (at_builtin; refine app_wp _ rfl _ _ _ rfl w.heap.size 3 i0 _ 1 8 Try.underlying35 hi hz0 hz1 hz2 rfl (by omega) _ (findTo ms zs k).length _ rfl (o2.alloc _) _ 1 [.int .i64 (k : Int)] rfl (lies_new (by simp) rfl (by unfold maxLen; omega)) (by simp [Value.oneCell']) (by unfold maxLen; have := unhide HFL; omega) (by have := unhide HFL; omega) (by simp; omega) ?_; intro vn wn on gn an)
        have R9 : Below w.heap.size w wn := below_grown (c2.alloc (by omega) _) (by simp; omega) gn (own_ge o2)
        have hform : ∃ a l q, vn = .slice a l q := by obtain ⟨-, a, q, e, -⟩ := lies_of_own on; exact ⟨a, _, q, e⟩
        obtain ⟨na, nl, nq, rfl⟩ := hform
        have R2 := hide (show wn.ownsRow w.heap.size 3 1 (.slice na nl nq) (findTo ms zs (k + 1)).length (Ints.flat (findTo ms zs (k + 1))) by rw [unhide HS, List.length_append, Ints.flat_append]; exact on)
        clear on gn an o2
        go_wp2_with fail
        go_roundw
        case rel => exact ⟨k + 1, by omega, by go_num, ⟨_, _, _, rfl⟩, unhide R2, R9⟩
        case measure => simp [intOf]; omega
    · obtain rfl : k = n := by omega
      have hkf : decide ((k : Int) < (k : Int)) = false := by simp
      have O := hide (show wr.ownsRow w.heap.size 3 1 (.slice oa ol oq) (find ms zs).length (Ints.flat (find ms zs)) by rw [unhide HR, ← unhide HN]; exact hown)
      clear hown
      go_wp2_with fail
      go_ret
      exact ⟨_, rfl, unhide O, hbel⟩
set_option maxHeartbeats 2000000 in
theorem spec_find {w : World} {v u : Value} {zs : List E} {ms : List Mat.E} (h : Is w v zs) (h' : Mat.Is w u ms) (hg : ∀ x ∈ zs, good x) (hg' : ∀ x ∈ ms, Mat.good x) (hz : ms.length ≤ maxLen) :
    Calls Try.prog 19 #[v, u] w fun e w' => ∃ r, e = .returned r ∧ w'.ownsRow w.heap.size 3 1 r (find ms zs).length (Ints.flat (find ms zs)) ∧ Below w.heap.size w w' := by
  have HAll := hide (spec_all h hg)
  have HMat := hide (fun (W : World) (hb : Below w.heap.size w W) => Mat.spec_ok (h'.below hb) hg' hz)
  obtain ⟨va, vl, vq, rfl⟩ : ∃ a l q, v = .slice a l q := by obtain ⟨cs, -, ⟨-, a, q, e, -⟩, -⟩ := h; exact ⟨a, _, q, e⟩
  obtain ⟨ua, ul, uq, rfl⟩ : ∃ a l q, u = .slice a l q := by obtain ⟨-, a, q, e, -⟩ := h'; exact ⟨a, _, q, e⟩
  cases hA : allOk zs
  · have HR := hide (find_no (ms := ms) hA)
    rw [hA] at HAll
    clear hA h h' hg hg' HMat
    go_enter Try.func19, Try.ntmps19
    go_wp2_with fail
    refine (unhide HAll).mono ?_
    rintro e w1 ⟨rfl, b1⟩
    have z1 := b1.size
    go_wp2_with fail
    go_ret
    exact ⟨_, rfl, by rw [unhide HR]; exact own_empty z1, b1.alloc z1 _⟩
  cases hM : Mat.ok ms
  · have HR := hide (find_bad zs hM)
    rw [hA] at HAll
    rw [hM] at HMat
    clear hA hM h h' hg hg'
    go_enter Try.func19, Try.ntmps19
    go_wp2_with fail
    refine (unhide HAll).mono ?_
    rintro e w1 ⟨rfl, b1⟩
    go_wp2_with fail
    refine (unhide HMat _ b1).mono ?_
    rintro e w2 ⟨rfl, b2⟩
    have c2 := b1.trans (b2.mono b1.size)
    have z2 := c2.size
    go_wp2_with fail
    go_ret
    exact ⟨_, rfl, by rw [unhide HR]; exact own_empty z2, c2.alloc z2 _⟩
  have HF := hide (fun (W : World) (hb : Below w.heap.size w W) => l4Find_any (h.below hb) (h'.below hb) hg hg' hA hM)
  rw [hA] at HAll
  rw [hM] at HMat
  clear hA hM h h' hg hg'
  go_enter Try.func19, Try.ntmps19
  go_wp2_with fail
  refine (unhide HAll).mono ?_
  rintro e w1 ⟨rfl, b1⟩
  go_wp2_with fail
  refine (unhide HMat _ b1).mono ?_
  rintro e w2 ⟨rfl, b2⟩
  have c2 := b1.trans (b2.mono b1.size)
  have z2 := c2.size
  clear HAll HMat b1 b2
  go_wp2_with fail
  refine (unhide HF _ c2).mono ?_
  rintro e w3 ⟨r, rfl, o3, b3⟩
  have c3 := c2.trans (b3.mono z2)
  have O := hide (own_mono o3 z2)
  obtain ⟨ra, rl, rq, rfl⟩ : ∃ a l q, r = .slice a l q := by obtain ⟨-, a, q, e, -⟩ := lies_of_own o3; exact ⟨a, _, q, e⟩
  clear o3 b3 HF
  go_wp2_with fail
  go_ret
  exact ⟨_, rfl, unhide O, c3⟩
end Go.Proofs.Ytfccibbgjjajjaa.Lss
