/- My own texts of one claim, laid together by program: RdOf, RdOne, DrawMat, DrawMat2. -/
import Derived.Test.YtkmoekbicbjdmaaDoorG228d3bb8bd
/- A word of some is drawn. -/
namespace Go.Proofs.YtkmoekbicbjdmaaDoor.Draw
open Go.RowKit Rw
set_option linter.unusedVariables false
attribute [local go_sem ↓] Go.wp_at_zero Go.wp_at_succ
/-- words that lie in a block of their own -/
def Strs (w : World) (g : Nat) (l : List ByteArray) : Prop := ∀ i, i < l.length → w.cell? ⟨g, i, none⟩ = some (.string (l.getD i ByteArray.empty))
set_option maxHeartbeats 1000000 in
theorem of_any (rb p g : Nat) (l : List ByteArray) (w : World) (h : Rd w rb p) (hp : p ≤ 1000000) (hl : 0 < l.length) (hl2 : l.length ≤ 1000) (hg : Strs w g l) (hgs : g < w.heap.size) (hne : g ≠ rb) :
    Calls Tryd.prog 45 #[.pointer (some ⟨rb, 0, none⟩), .slice (some ⟨g, 0, none⟩) l.length l.length] w fun e w' => ∃ x : ByteArray, e = .returned (.string x) ∧ x ∈ l ∧ Rd w' rb (p + 1) ∧ w.grownBy w' (some rb) := by
  obtain ⟨n, hn⟩ : ∃ n, n = l.length := ⟨_, rfl⟩
  rw [← hn]
  have HN := hide hn
  have n1 : 0 < n := by omega
  have n2 : n ≤ 1000 := by omega
  have HP := hide (fun k (hk : k ≤ (4294967296 : Int)) => pick_any rb p k w h hp hk)
  clear h hn hl hl2
  go_enter Tryd.func45, Tryd.ntmps45
  go_wp2_with fail
  refine (unhide HP _ (by omega)).mono ?_
  rintro e w1 ⟨x, rfl, x0, x1, -, r1, g1⟩
  have x2 : x < (n : Int) := x1 (by omega)
  obtain ⟨k, rfl⟩ := Int.eq_ofNat_of_zero_le x0
  have hk : k < n := by omega
  have hc : w1.cell? ⟨g, k, none⟩ = some (.string (l.getD k ByteArray.empty)) := (grown_cell g1 hgs hne).trans (hg k (by have := unhide HN; omega))
  have hm := hide (show l.getD k ByteArray.empty ∈ l by
    have hk' : k < l.length := by have := unhide HN; omega
    simp [List.getD, hk'])
  generalize l.getD k ByteArray.empty = X at hc hm
  clear x1
  go_wp2
  go_ret
  exact ⟨X, rfl, unhide hm, r1, g1⟩
theorem strs_block {w : World} {g : Nat} {l : List ByteArray} {t : TypeId} (h : w.heap[g]? = some (.cells (l.map Value.string).toArray t (0, 0))) : Strs w g l := fun i hi => by
  rw [cell_of_row w g i _ _ _ h]
  simp [List.getD, hi]
theorem of_new (rb p : Nat) (l : List ByteArray) (w : World) (h : Rd w rb p) (hp : p ≤ 1000000) (hl : 0 < l.length) (hl2 : l.length ≤ 1000) :
    Calls Tryd.prog 45 #[.pointer (some ⟨rb, 0, none⟩), .slice (some ⟨w.heap.size, 0, none⟩) l.length l.length] (w.alloc (.cells (l.map Value.string).toArray 9)) fun e w' => ∃ x : ByteArray, e = .returned (.string x) ∧ x ∈ l ∧ Rd w' rb (p + 1) ∧ w.grownBy w' (some rb) := by
  have hb : Below w.heap.size w (w.alloc (.cells (l.map Value.string).toArray 9)) := (Below.refl _ _).alloc (Nat.le_refl _) _
  refine (of_any rb p w.heap.size l _ (h.below hb) hp hl hl2 (strs_block (heap_alloc_new w _)) (by simp) (by have := h.lt; omega)).mono ?_
  rintro e w' ⟨x, rfl, hx, hr, hg⟩
  exact ⟨x, rfl, hx, hr, grown_trans (grown_below hb) hg⟩
end Go.Proofs.YtkmoekbicbjdmaaDoor.Draw

/- The laws draw their inputs from bytes: what is drawn lies within bounds, and nothing that lay there is turned. -/
namespace Go.Proofs.YtkmoekbicbjdmaaDoor.Draw
open Go.RowKit Rw
set_option linter.unusedVariables false
attribute [local go_sem ↓] Go.wp_at_zero Go.wp_at_succ
/-- numbers that lie in a block of their own -/
def Ints (w : World) (g : Nat) (l : List Int) : Prop := ∀ i, i < l.length → w.cell? ⟨g, i, none⟩ = some (.int .i64 (l.getD i 0))
set_option maxHeartbeats 1000000 in
theorem one_any (rb p g : Nat) (l : List Int) (w : World) (h : Rd w rb p) (hp : p ≤ 1000000) (hl : 0 < l.length) (hl2 : l.length ≤ 1000) (hg : Ints w g l) (hgs : g < w.heap.size) (hne : g ≠ rb) :
    Calls Tryd.prog 67 #[.pointer (some ⟨rb, 0, none⟩), .slice (some ⟨g, 0, none⟩) l.length l.length] w fun e w' => ∃ x : Int, e = .returned (.int .i64 x) ∧ x ∈ l ∧ Rd w' rb (p + 1) ∧ w.grownBy w' (some rb) := by
  obtain ⟨n, hn⟩ : ∃ n, n = l.length := ⟨_, rfl⟩
  rw [← hn]
  have HN := hide hn
  have n1 : 0 < n := by omega
  have n2 : n ≤ 1000 := by omega
  have HP := hide (fun k (hk : k ≤ (4294967296 : Int)) => pick_any rb p k w h hp hk)
  clear h hn hl hl2
  go_enter Tryd.func67, Tryd.ntmps67
  go_wp2_with fail
  refine (unhide HP _ (by omega)).mono ?_
  rintro e w1 ⟨x, rfl, x0, x1, -, r1, g1⟩
  have x2 : x < (n : Int) := x1 (by omega)
  obtain ⟨k, rfl⟩ := Int.eq_ofNat_of_zero_le x0
  have hk : k < n := by omega
  have hc : w1.cell? ⟨g, k, none⟩ = some (.int .i64 (l.getD k 0)) := (grown_cell g1 hgs hne).trans (hg k (by have := unhide HN; omega))
  have hm := hide (show l.getD k 0 ∈ l by
    have hk' : k < l.length := by have := unhide HN; omega
    simp [List.getD, hk'])
  generalize l.getD k 0 = X at hc hm
  clear x1
  go_wp2
  go_ret
  exact ⟨X, rfl, unhide hm, r1, g1⟩
theorem ints_block {w : World} {g : Nat} {l : List Int} {t : TypeId} (h : w.heap[g]? = some (.cells (l.map (Value.int .i64)).toArray t (0, 0))) : Ints w g l := fun i hi => by
  rw [cell_of_row w g i _ _ _ h]
  simp [List.getD, hi]
/-- one of numbers that are written out -/
theorem one_new (rb p : Nat) (l : List Int) (w : World) (h : Rd w rb p) (hp : p ≤ 1000000) (hl : 0 < l.length) (hl2 : l.length ≤ 1000) :
    Calls Tryd.prog 67 #[.pointer (some ⟨rb, 0, none⟩), .slice (some ⟨w.heap.size, 0, none⟩) l.length l.length] (w.alloc (.cells (l.map (Value.int .i64)).toArray 3)) fun e w' => ∃ x : Int, e = .returned (.int .i64 x) ∧ x ∈ l ∧ Rd w' rb (p + 1) ∧ w.grownBy w' (some rb) := by
  have hb : Below w.heap.size w (w.alloc (.cells (l.map (Value.int .i64)).toArray 3)) := (Below.refl _ _).alloc (Nat.le_refl _) _
  refine (one_any rb p w.heap.size l _ (h.below hb) hp hl hl2 (ints_block (heap_alloc_new w _)) (by simp) (by have := h.lt; omega)).mono ?_
  rintro e w' ⟨x, rfl, hx, hr, hg⟩
  exact ⟨x, rfl, hx, hr, grown_trans (grown_below hb) hg⟩
end Go.Proofs.YtkmoekbicbjdmaaDoor.Draw

/- Matches are drawn. -/
namespace Go.Proofs.YtkmoekbicbjdmaaDoor.Draw
open Go.RowKit Rw Mat
set_option linter.unusedVariables false
attribute [local go_sem ↓] Go.wp_at_zero Go.wp_at_succ
/-- what is drawn is small -/
def smallM (x : Mat.E) : Prop := 0 ≤ x.1 ∧ x.1 ≤ 5 ∧ x.2.1.size ≤ 100 ∧ x.2.2.size ≤ 100
theorem good_smallM {x : Mat.E} (h : smallM x) : Mat.good x := by
  obtain ⟨h1, h2, h3, h4⟩ := h
  refine ⟨?_, by unfold maxLen; omega, by unfold maxLen; omega⟩
  simp [Lit.wf, IntKind.min, IntKind.max, IntKind.signed, IntKind.bits]
  omega
theorem flat_snocM (L : List Mat.E) (x : Mat.E) : Mat.flat (L ++ [x]) = Mat.flat L ++ Mat.fl x := by unfold Mat.flat; rw [flatOf_append, flatOf_one]
set_option maxRecDepth 100000 in
set_option maxHeartbeats 4000000 in
theorem matches_any (rb p : Nat) (w : World) (h : Rd w rb p) (hp : p ≤ 700000) :
    Calls Tryd.prog 52 #[.pointer (some ⟨rb, 0, none⟩)] w fun e w' => ∃ (zs : List Mat.E) (v : Value), e = .returned v ∧ zs.length ≤ 2 ∧ (∀ x ∈ zs, smallM x) ∧ w'.ownsRow w.heap.size 61 3 v zs.length (Mat.flat zs) ∧ (∃ p', p' ≤ p + 10 ∧ Rd w' rb p') ∧ w.grownBy w' (some rb) := by
  obtain ⟨i0, hi, hz0, hz1, hz2⟩ := info_parts Mat.info_e
  have hrl := h.lt
  have hmx : 1 ≤ maxLen := by unfold maxLen; omega
  have HR := hide h
  clear h
  go_enter Tryd.func52, Tryd.ntmps52
  go_wp2_with fail
  refine (pick_any rb p _ _ ((unhide HR).below ((Below.refl _ _).alloc (Nat.le_refl _) _)) (by omega) (by omega)).mono ?_
  rintro e w1 ⟨n, rfl, n0, n1, -, r1, g1⟩
  have n2 : n < 3 := n1 (by omega)
  have o1 := own_kept (own_empty (w := w) (base := w.heap.size) (e := 61) (size := 3) (Nat.le_refl _)) g1 hrl
  have q1 : w.grownBy w1 (some rb) := grown_trans (grown_below ((Below.refl _ _).alloc (Nat.le_refl _) _)) g1
  clear n1 HR g1
  go_wp2_with fail
  go_loopw [3, 4] (fun ov kv wr => ∃ (k : Nat) (L : List Mat.E) (p' : Nat), kv = .int .i64 (k : Int) ∧ L.length + k ≤ 2 ∧ p' ≤ p + 1 + 3 * L.length ∧ (∀ x ∈ L, smallM x) ∧ wr.ownsRow w.heap.size 61 3 ov L.length (Mat.flat L) ∧ Rd wr rb p' ∧ w.grownBy wr (some rb)) (fun _ kv _ => (intOf kv).toNat)
  case atStart => exact ⟨n.toNat, [], p + 1, by rw [Int.toNat_of_nonneg n0], by simp; omega, by simp, by simp, o1, r1, q1⟩
  case round =>
    clear o1 q1 r1
    obtain ⟨k, L, p', rfl, hk, hp', hsm, hown, hrd, hg⟩ := hrel
    have HM := hide hsm
    clear hsm
    have hsz := hg.size
    by_cases hk0 : 0 < k
    · have hk1 : (0 : Int) < (k : Int) := by omega
      go_wp2_with fail
      refine (pick_any rb p' _ _ hrd (by omega) (by omega)).mono ?_
      rintro e w2 ⟨d, rfl, d0, d1, -, r2, g2⟩
      have d2 : d < 4 := d1 (by omega)
      have o2 := own_kept hown g2 hrl
      have q2 := grown_trans hg g2
      clear d1 hown hg hrd g2
      go_wp2_with fail
      have hof := of_new rb (p' + 1) [⟨#[97, 112, 112]⟩, ⟨#[104, 111, 115, 116]⟩, ⟨#[122, 111, 110, 101]⟩, ⟨#[106, 111, 98]⟩] _ r2 (by omega) (by simp) (by simp)
      simp only [List.map_cons, List.map_nil, List.length_cons, List.length_nil, Nat.zero_add, Nat.reduceAdd] at hof
      refine hof.mono ?_
      clear hof
      rintro e w3 ⟨A, rfl, hA, r3, g3⟩
      have A0 := hide (show A.size ≤ 100 by
        simp only [List.mem_cons, List.not_mem_nil, or_false] at hA
        rcases hA with rfl | rfl | rfl | rfl <;> decide)
      have o3 := own_kept o2 g3 hrl
      have q3 := grown_trans q2 g3
      clear hA o2 q2 r2 g3
      go_wp2_with fail
      have hof := of_new rb (p' + 1 + 1) [⟨#[97]⟩, ⟨#[97, 98]⟩, ⟨#[98]⟩, ⟨#[]⟩, ⟨#[97, 98, 99]⟩, ⟨#[120]⟩] _ r3 (by omega) (by simp) (by simp)
      simp only [List.map_cons, List.map_nil, List.length_cons, List.length_nil, Nat.zero_add, Nat.reduceAdd] at hof
      refine hof.mono ?_
      clear hof
      rintro e w4 ⟨B, rfl, hB, r4, g4⟩
      have B0 := hide (show B.size ≤ 100 by
        simp only [List.mem_cons, List.not_mem_nil, or_false] at hB
        rcases hB with rfl | rfl | rfl | rfl | rfl | rfl <;> decide)
      have o4 := own_kept o3 g4 hrl
      have q4 := grown_trans q3 g4
      have hsz4 := q4.size
      clear hB o3 q3 r3 g4 hsz
      go_wp2_with (at_builtin; refine app_wp _ rfl _ _ _ rfl w.heap.size 61 i0 _ 3 40 Tryd.underlying32 hi hz0 hz1 hz2 rfl (by omega) _ L.length _ rfl (o4.alloc _) _ 1 [.int .i64 (1 + d), .string A, .string B] rfl (lies_new rfl rfl hmx) (by simp [Value.oneCell']) (by unfold maxLen; omega) (by omega) (by simp; omega) ?_; intro vn w9 on gn an)
      have ge := own_ge o4
      have R := hide (show w.grownBy w9 (some rb) from grown_other (grown_trans q4 (grown_below ((Below.refl _ _).alloc (Nat.le_refl _) _))) gn ge)
      have R1 := hide (show Rd w9 rb (p' + 1 + 1 + 1) from (r4.below ((Below.refl _ _).alloc (Nat.le_refl _) _)).grown gn (fun k hk => by have := ge k hk; omega))
      have R2 := hide (show w9.ownsRow w.heap.size 61 3 vn (L ++ [(1 + d, A, B)]).length (Mat.flat (L ++ [(1 + d, A, B)])) by rw [List.length_append, flat_snocM]; exact on)
      clear on gn ge o4 q4 r4 an
      go_wp2_with fail
      go_roundw
      case rel => exact ⟨k - 1, L ++ [(1 + d, A, B)], p' + 1 + 1 + 1, by go_num, by simp; omega, by simp; omega, by
          intro x hx
          rw [List.mem_append, List.mem_singleton] at hx
          rcases hx with hx | rfl
          · exact unhide HM x hx
          · exact ⟨by show 0 ≤ 1 + d; omega, by show 1 + d ≤ 5; omega, unhide A0, unhide B0⟩, unhide R2, unhide R1, unhide R⟩
      case measure => simp [intOf]; omega
    · have hk1 : decide ((0 : Int) < (k : Int)) = false := by simp; omega
      go_wp2_with fail
      go_ret
      exact ⟨L, _, rfl, by omega, unhide HM, hown, ⟨p', by omega, hrd⟩, hg⟩
end Go.Proofs.YtkmoekbicbjdmaaDoor.Draw

/- Matches are drawn, also such as are none. -/
namespace Go.Proofs.YtkmoekbicbjdmaaDoor.Draw
open Go.RowKit Rw Mat
set_option linter.unusedVariables false
attribute [local go_sem ↓] Go.wp_at_zero Go.wp_at_succ
theorem size3 : (⟨#[97, 112, 112]⟩ : ByteArray).size ≤ 100 := by decide
theorem size0 : ByteArray.empty.size ≤ 100 := by decide
theorem one0 : (0 : Int) ≤ 1 := by decide
theorem one5 : (1 : Int) ≤ 5 := by decide
def slenM : Value → Nat
  | .slice _ n _ => n
  | _ => 0
theorem small_snocM {L : List Mat.E} {x : Mat.E} (h : ∀ y ∈ L, smallM y) (hx : smallM x) : ∀ y ∈ L ++ [x], smallM y := by
  intro y hy
  rw [List.mem_append, List.mem_singleton] at hy
  rcases hy with hy | rfl
  · exact h y hy
  · exact hx
set_option maxRecDepth 100000 in
set_option maxHeartbeats 4000000 in
theorem anymatches_any (rb p : Nat) (w : World) (h : Rd w rb p) (hp : p ≤ 700000) :
    Calls Tryd.prog 47 #[.pointer (some ⟨rb, 0, none⟩)] w fun e w' => ∃ (zs : List Mat.E) (v : Value), e = .returned v ∧ zs.length ≤ 20 ∧ (∀ x ∈ zs, smallM x) ∧ w'.ownsRow w.heap.size 61 3 v zs.length (Mat.flat zs) ∧ (∃ p', p' ≤ p + 100 ∧ Rd w' rb p') ∧ w.grownBy w' (some rb) := by
  obtain ⟨i0, hi, hz0, hz1, hz2⟩ := info_parts Mat.info_e
  have hrl := h.lt
  have hmx : 1 ≤ maxLen := by unfold maxLen; omega
  have HR := hide h
  clear h
  go_enter Tryd.func47, Tryd.ntmps47
  go_wp2_with fail
  refine (matches_any rb p _ (unhide HR) (by omega)).mono ?_
  rintro e w1 ⟨L, v, rfl, hL, hsm, o1, ⟨p1, hp1, r1⟩, q1⟩
  have HM := hide hsm
  clear HR hsm
  go_wp2_with fail
  refine (pick_any rb p1 _ _ r1 (by omega) (by omega)).mono ?_
  rintro e w5 ⟨c, rfl, c0, -, -, r5, g5⟩
  have o5 := own_kept o1 g5 hrl
  have q5 := grown_trans q1 g5
  have hsz5 := q5.size
  clear o1 q1 r1 g5
  rcases (show c = 0 ∨ c = 1 ∨ c = 2 ∨ (c ≠ 0 ∧ c ≠ 1 ∧ c ≠ 2) from by omega) with rfl | rfl | rfl | ⟨e0, e1, e2⟩
  · go_wp2_with fail
    have hone := one_new rb (p1 + 1) [0, 5] _ r5 (by omega) (by simp) (by simp)
    simp only [List.map_cons, List.map_nil, List.length_cons, List.length_nil, Nat.zero_add, Nat.reduceAdd] at hone
    refine hone.mono ?_
    clear hone
    rintro e w6 ⟨d, rfl, hd, r6, g6⟩
    have D0 := hide (show 0 ≤ d ∧ d ≤ 5 by
      simp only [List.mem_cons, List.not_mem_nil, or_false] at hd
      omega)
    have o6 := own_kept o5 g6 hrl
    have q6 := grown_trans q5 g6
    have hsz6 := q6.size
    clear hd o5 q5 r5 g6 hsz5
    go_wp2_with (at_builtin; refine app_wp _ rfl _ _ _ rfl w.heap.size 61 i0 _ 3 40 Tryd.underlying32 hi hz0 hz1 hz2 rfl (by omega) _ L.length _ rfl (o6.alloc _) _ 1 [.int .i64 d, .string ⟨#[97, 112, 112]⟩, .string ByteArray.empty] rfl (lies_new rfl rfl hmx) (by simp [Value.oneCell']) (by unfold maxLen; omega) (by omega) (by simp; omega) ?_; intro vn w9 on gn an)
    have ge := own_ge o6
    have R := hide (show w.grownBy w9 (some rb) from grown_other (grown_trans q6 (grown_below ((Below.refl _ _).alloc (Nat.le_refl _) _))) gn ge)
    have R1 := hide (show Rd w9 rb (p1 + 1 + 1) from (r6.below ((Below.refl _ _).alloc (Nat.le_refl _) _)).grown gn (fun k hk => by have := ge k hk; omega))
    have R2 := hide (show w9.ownsRow w.heap.size 61 3 vn (L ++ [((d, ⟨#[97, 112, 112]⟩, ByteArray.empty) : Mat.E)]).length (Mat.flat (L ++ [((d, ⟨#[97, 112, 112]⟩, ByteArray.empty) : Mat.E)])) by rw [List.length_append, flat_snocM]; exact on)
    clear on gn ge o6 q6 r6 an
    go_wp2_with fail
    go_ret
    exact ⟨_, _, rfl, by simp; omega, small_snocM (x := ((d, ⟨#[97, 112, 112]⟩, ByteArray.empty) : Mat.E)) (unhide HM) ⟨(unhide D0).1, (unhide D0).2, size3, size0⟩, unhide R2, ⟨_, by omega, unhide R1⟩, unhide R⟩
  · go_wp2_with fail
    have hof := of_new rb (p1 + 1) [⟨#[]⟩, ⟨#[65]⟩] _ r5 (by omega) (by simp) (by simp)
    simp only [List.map_cons, List.map_nil, List.length_cons, List.length_nil, Nat.zero_add, Nat.reduceAdd] at hof
    refine hof.mono ?_
    clear hof
    rintro e w6 ⟨A, rfl, hA, r6, g6⟩
    have A0 := hide (show A.size ≤ 100 by
      simp only [List.mem_cons, List.not_mem_nil, or_false] at hA
      rcases hA with rfl | rfl <;> decide)
    have o6 := own_kept o5 g6 hrl
    have q6 := grown_trans q5 g6
    have hsz6 := q6.size
    clear hA o5 q5 r5 g6 hsz5
    go_wp2_with (at_builtin; refine app_wp _ rfl _ _ _ rfl w.heap.size 61 i0 _ 3 40 Tryd.underlying32 hi hz0 hz1 hz2 rfl (by omega) _ L.length _ rfl (o6.alloc _) _ 1 [.int .i64 1, .string A, .string ByteArray.empty] rfl (lies_new rfl rfl hmx) (by simp [Value.oneCell']) (by unfold maxLen; omega) (by omega) (by simp; omega) ?_; intro vn w9 on gn an)
    have ge := own_ge o6
    have R := hide (show w.grownBy w9 (some rb) from grown_other (grown_trans q6 (grown_below ((Below.refl _ _).alloc (Nat.le_refl _) _))) gn ge)
    have R1 := hide (show Rd w9 rb (p1 + 1 + 1) from (r6.below ((Below.refl _ _).alloc (Nat.le_refl _) _)).grown gn (fun k hk => by have := ge k hk; omega))
    have R2 := hide (show w9.ownsRow w.heap.size 61 3 vn (L ++ [(1, A, ByteArray.empty)]).length (Mat.flat (L ++ [(1, A, ByteArray.empty)])) by rw [List.length_append, flat_snocM]; exact on)
    clear on gn ge o6 q6 r6 an
    go_wp2_with fail
    go_ret
    exact ⟨_, _, rfl, by simp; omega, small_snocM (x := ((1, A, ByteArray.empty) : Mat.E)) (unhide HM) ⟨one0, one5, unhide A0, size0⟩, unhide R2, ⟨_, by omega, unhide R1⟩, unhide R⟩
  · go_wp2_with fail
    go_loopw [3] (fun ov wr => ∃ (M : List Mat.E) (p2 : Nat) (am : Option Addr) (cm : Nat), ov = .slice am M.length cm ∧ M.length ≤ 10 ∧ p2 ≤ p + 20 + M.length ∧ (∀ x ∈ M, smallM x) ∧ wr.ownsRow w.heap.size 61 3 ov M.length (Mat.flat M) ∧ Rd wr rb p2 ∧ w.grownBy wr (some rb)) (fun ov _ => 100 - slenM ov)
    case atStart => obtain ⟨-, a5, c5, hv5, -⟩ := lies_of_own o5; exact ⟨L, p1 + 1, a5, c5, hv5, by omega, by omega, unhide HM, o5, r5, q5⟩
    case round =>
      clear o5 r5 q5 hsz5 HM
      obtain ⟨M, p2, am, cm, rfl, hM, hp2, hsm, hown, hrd, hg⟩ := hrel
      have HM := hide hsm
      clear hsm
      go_wp2_with fail
      refine (pick_any rb p2 _ _ hrd (by omega) (by omega)).mono ?_
      rintro e w6 ⟨d, rfl, d0, d1, -, r6, g6⟩
      have d2 : d < 2 := d1 (by omega)
      have o6 := own_kept hown g6 hrl
      have q6 := grown_trans hg g6
      have hsz6 := q6.size
      clear hown hg hrd g6 d1
      by_cases hlt : (M.length : Int) < 4 + d
      · have hM2 : M.length ≤ 5 := by omega
        go_wp2_with (at_builtin; refine app_wp _ rfl _ _ _ rfl w.heap.size 61 i0 _ 3 40 Tryd.underlying32 hi hz0 hz1 hz2 rfl (by omega) _ M.length _ rfl (o6.alloc _) _ 1 [.int .i64 2, .string ⟨#[97, 112, 112]⟩, .string ⟨#[113]⟩] rfl (lies_new rfl rfl hmx) (by simp [Value.oneCell']) (by unfold maxLen; omega) (by omega) (by simp; omega) ?_; intro vn w9 on gn an)
        have ge := own_ge o6
        have R : w.grownBy w9 (some rb) := grown_other (grown_trans q6 (grown_below ((Below.refl _ _).alloc (Nat.le_refl _) _))) gn ge
        have R1 : Rd w9 rb (p2 + 1) := (r6.below ((Below.refl _ _).alloc (Nat.le_refl _) _)).grown gn (fun k hk => by have := ge k hk; omega)
        have R2 := hide (show w9.ownsRow w.heap.size 61 3 vn (M ++ [((2, ⟨#[97, 112, 112]⟩, ⟨#[113]⟩) : Mat.E)]).length (Mat.flat (M ++ [((2, ⟨#[97, 112, 112]⟩, ⟨#[113]⟩) : Mat.E)])) by rw [List.length_append, flat_snocM]; exact on)
        obtain ⟨an', cn, hvn⟩ : ∃ a c, vn = .slice a (M.length + 1) c := by obtain ⟨-, a, c, e, -⟩ := lies_of_own on; exact ⟨a, c, e⟩
        have HS := hide (show slenM vn = M.length + 1 by rw [hvn]; rfl)
        have HV := hide hvn
        clear on gn ge o6 q6 r6 an hvn
        go_wp2_with fail
        go_roundw
        case rel => exact ⟨M ++ [((2, ⟨#[97, 112, 112]⟩, ⟨#[113]⟩) : Mat.E)], p2 + 1, an', cn, by rw [unhide HV]; simp, by simp; omega, by simp; omega, small_snocM (unhide HM) ⟨by decide, by decide, by decide, by decide⟩, unhide R2, R1, R⟩
        case measure => show 100 - slenM vn < 100 - M.length; rw [unhide HS]; omega
      · have hlf : decide ((M.length : Int) < 4 + d) = false := by simpa using hlt
        go_wp2_with fail
        go_ret
        exact ⟨M, _, rfl, by omega, unhide HM, o6, ⟨p2 + 1, by omega, r6⟩, q6⟩
  · have f0 : (c == 0) = false := by simpa using e0
    have f1 : (c == 1) = false := by simpa using e1
    have f2 : (c == 2) = false := by simpa using e2
    go_wp2_with fail
    go_ret
    exact ⟨L, _, rfl, by omega, unhide HM, o5, ⟨p1 + 1, by omega, r5⟩, q5⟩
end Go.Proofs.YtkmoekbicbjdmaaDoor.Draw
