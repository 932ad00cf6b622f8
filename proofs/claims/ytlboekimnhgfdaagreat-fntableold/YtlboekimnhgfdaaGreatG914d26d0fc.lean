/- My own texts of one claim, laid together by program: DrawLabOk, LssLaw, DrawMany, EntLaw. -/
import Derived.Test.YtlboekimnhgfdaaGreatG5be0a6915a
import Derived.Test.YtlboekimnhgfdaaGreatG41d3d5ff59
import Derived.Test.YtlboekimnhgfdaaGreatG2376b3578a
import Derived.Test.YtlboekimnhgfdaaGreatG54bfd16f94
import Derived.Test.YtlboekimnhgfdaaGreatGfd3a6dd580
/- Labels that are drawn are ok. -/
namespace Go.Proofs.YtlboekimnhgfdaaGreat.Draw
open Go.RowKit Rw Lab
set_option linter.unusedVariables false
attribute [local go_sem ↓] Go.wp_at_zero Go.wp_at_succ
def names4 : List ByteArray := names3 ++ [⟨#[106, 111, 98]⟩]
def words4 : List ByteArray := [⟨#[97]⟩, ⟨#[97, 98]⟩, ⟨#[98]⟩, ⟨#[120]⟩]
def okL (x : Lab.E) : Prop := x.1 ∈ names4 ∧ x.2 ∈ words4
theorem ok_snocL {L : List Lab.E} {x : Lab.E} (h : ∀ y ∈ L, okL y) (hx : okL x) : ∀ y ∈ L ++ [x], okL y := by
  intro y hy
  rcases List.mem_append.1 hy with hy | hy
  · exact h y hy
  · rw [List.mem_singleton.1 hy]; exact hx
theorem sub_app {L : List Lab.E} {i : Nat} {nm B : ByteArray} (h : (L.map (·.1)).Sublist (names3.take i)) (e : names3.take (i + 1) = names3.take i ++ [nm]) : ((L ++ [(nm, B)]).map (·.1)).Sublist (names3.take (i + 1)) := by
  rw [e, List.map_append]
  exact h.append (List.Sublist.refl _)
theorem sub_skip {L : List Lab.E} {i : Nat} {nm : ByteArray} (h : (L.map (·.1)).Sublist (names3.take i)) (e : names3.take (i + 1) = names3.take i ++ [nm]) : (L.map (·.1)).Sublist (names3.take (i + 1)) := by
  rw [e]
  exact h.trans (List.sublist_append_left _ _)
theorem name_ok {b : ByteArray} (h : b ∈ names4) : nameB b = true := by
  simp only [names4, names3, List.cons_append, List.nil_append, List.mem_cons, List.not_mem_nil, or_false] at h
  rcases h with rfl | rfl | rfl | rfl <;> decide
theorem word_ok {b : ByteArray} (h : b ∈ words4) : wordB b = true ∧ 0 < b.size := by
  simp only [words4, List.mem_cons, List.not_mem_nil, or_false] at h
  rcases h with rfl | rfl | rfl | rfl <;> decide
theorem names_up : names3.Pairwise (fun a b => ltS a b = true) := by
  unfold names3
  decide +kernel
theorem ok_names {L : List Lab.E} (h : (L.map (·.1)).Sublist (names3.take 3)) (ho : ∀ x ∈ L, okL x) (h0 : 0 < L.length) : Lab.ok L = true := by
  have hp : (L.map (·.1)).Pairwise (fun a b => ltS a b = true) := names_up.sublist h
  have hl : L.length ≤ 3 := by have := h.length_le; simpa [names3] using this
  refine ok_all (by omega) (by omega) ?_
  unfold okTo
  refine List.all_eq_true.2 fun i hi => ?_
  have hi := List.mem_range.1 hi
  have e : Lab.at' L i = L[i] := by simp [Lab.at', List.getD, hi]
  have hx := ho L[i] (List.getElem_mem hi)
  refine step_yes (by rw [e]; exact name_ok hx.1) (by rw [e]; exact (word_ok hx.2).1) (by rw [e]; exact (word_ok hx.2).2) ?_
  rcases Nat.eq_zero_or_pos i with h | h
  · exact .inl h
  · right
    have e' : Lab.at' L (i - 1) = L[i - 1] := by simp [Lab.at', List.getD, show i - 1 < L.length by omega]
    rw [e, e']
    rw [List.pairwise_map, List.pairwise_iff_getElem] at hp
    exact hp (i - 1) i (by omega) hi (by omega)
theorem ok_job (L : List Lab.E) (h : L.length = 0) : Lab.ok (L ++ [(⟨#[106, 111, 98]⟩, ⟨#[120]⟩)]) = true := by
  rw [List.eq_nil_of_length_eq_zero h]
  decide
/-- labels drawn so far; the names lie beside them, in block nb -/
def LSo (w wr : World) (rb nb p : Nat) (ov : Value) (L : List Lab.E) : Prop :=
  (∀ x ∈ L, okL x) ∧ wr.ownsRow w.heap.size 64 2 ov L.length (Lab.flat L) ∧ (∀ k, ov.ownBlock = some k → k ≠ nb) ∧ Strs wr nb names3 ∧ (nb < wr.heap.size ∧ w.heap.size ≤ nb) ∧ Rd wr rb p ∧ w.grownBy wr (some rb) ∧ rb < w.heap.size
theorem LSo.pick {w wr w' : World} {rb nb p p' : Nat} {ov : Value} {L : List Lab.E} (h : LSo w wr rb nb p ov L) (hr : Rd w' rb p') (hg : wr.grownBy w' (some rb)) : LSo w w' rb nb p' ov L := by
  obtain ⟨h1, h2, h3, h4, ⟨h5, h6⟩, h7, h8, h9⟩ := h
  exact ⟨h1, own_kept h2 hg h9, h3, strs_grown h4 hg h5 (fun k hk => by have := Option.some.inj hk; omega), ⟨Nat.lt_of_lt_of_le h5 hg.size, h6⟩, hr, grown_trans h8 hg, h9⟩
theorem LSo.app {w wr w9 : World} {rb nb p : Nat} {ov vn : Value} {L : List Lab.E} {x : Lab.E} {c : Array Value} {n : Nat} {xs : List Value} (h : LSo w wr rb nb p ov L) (hx : okL x) (hn : n = L.length + 1) (hxs : xs = Lab.flat L ++ Lab.fl x)
    (on : w9.ownsRow w.heap.size 64 2 vn n xs) (gn : (wr.alloc (.cells c 64)).grownBy w9 ov.ownBlock) (an : vn.ownBlock = ov.ownBlock ∨ vn.ownBlock = some (wr.alloc (.cells c 64)).heap.size) : LSo w w9 rb nb p vn (L ++ [x]) := by
  obtain ⟨h1, h2, h3, h4, ⟨h5, h6⟩, h7, h8, h9⟩ := h
  have ge := own_ge h2
  have hb : Below wr.heap.size wr (wr.alloc (.cells c 64)) := (Below.refl _ _).alloc (Nat.le_refl _) _
  have hs : (wr.alloc (.cells c 64)).heap.size = wr.heap.size + 1 := by simp
  refine ⟨ok_snocL h1 hx, ?_, ?_, ?_, ⟨?_, h6⟩, ?_, ?_, h9⟩
  · rw [List.length_append, flat_snocL, ← hxs]; rw [hn] at on; exact on
  · intro k hk e
    rcases an with an | an
    · exact h3 k (an.symm.trans hk) e
    · rw [hk] at an
      have := Option.some.inj an
      omega
  · exact strs_grown (strs_grown (row := some rb) h4 (grown_below hb) h5 (fun k hk => by have := Option.some.inj hk; omega)) gn (by rw [hs]; omega) h3
  · have := gn.size; omega
  · exact (h7.below hb).grown gn (fun k hk => by have := ge k hk; omega)
  · exact grown_other (grown_trans h8 (grown_below hb)) gn ge
set_option maxRecDepth 100000 in
set_option maxHeartbeats 4000000 in
theorem labels_ok (rb p : Nat) (w : World) (h : Rd w rb p) (hp : p ≤ 700000) :
    Calls Tryz.prog 142 #[.pointer (some ⟨rb, 0, none⟩)] w fun e w' => ∃ (zs : List Lab.E) (v : Value), e = .returned v ∧ 0 < zs.length ∧ zs.length ≤ 3 ∧ Lab.ok zs = true ∧ w'.ownsRow w.heap.size 64 2 v zs.length (Lab.flat zs) ∧ (∃ p', p' ≤ p + 10 ∧ Rd w' rb p') ∧ w.grownBy w' (some rb) := by
  obtain ⟨i0, hi, hz0, hz1, hz2⟩ := info_parts Lab.info_e
  have hrl := h.lt
  have hmx : 1 ≤ maxLen := by unfold maxLen; omega
  have hb1 : Below w.heap.size w (w.alloc (.cells #[] 64)) := (Below.refl _ _).alloc (Nat.le_refl _) _
  have hb2 : Below (w.alloc (.cells #[] 64)).heap.size (w.alloc (.cells #[] 64)) ((w.alloc (.cells #[] 64)).alloc (.cells (names3.map Value.string).toArray 9)) := (Below.refl _ _).alloc (Nat.le_refl _) _
  have S0 := hide (show LSo w ((w.alloc (.cells #[] 64)).alloc (.cells (names3.map Value.string).toArray 9)) rb (w.alloc (.cells #[] 64)).heap.size p (.slice (some ⟨w.heap.size, 0, none⟩) 0 0) [] from
    ⟨by simp, (own_empty (w := w) (base := w.heap.size) (e := 64) (size := 2) (Nat.le_refl _)).alloc _, fun k hk => by have := Option.some.inj hk; simp at this ⊢; omega, strs_block (heap_alloc_new _ _), ⟨by simp, by simp⟩, (h.below hb1).below hb2, grown_trans (grown_below hb1) (grown_below hb2), hrl⟩)
  clear h hb1 hb2
  go_enter Tryz.func142, Tryz.ntmps142
  go_wp2_with fail
  go_loopw [3, 9] (fun ov iv wr => ∃ (i : Nat) (L : List Lab.E) (p' : Nat), iv = .int .i64 (i : Int) ∧ i ≤ 3 ∧ L.length ≤ i ∧ Hid ((L.map (·.1)).Sublist (names3.take i)) ∧ p' ≤ p + 3 * i ∧ LSo w wr rb (w.heap.size + 1) p' ov L) (fun _ iv _ => 3 - (intOf iv).toNat)
  case atStart => exact ⟨0, [], p, rfl, by omega, by simp, List.nil_sublist _, by omega, by simpa [names3] using unhide S0⟩
  case round =>
    clear S0
    obtain ⟨i, L, p', rfl, hi3, hL, HSub, hp', hS⟩ := hrel
    by_cases h3 : i < 3
    · rcases (show i = 0 ∨ i = 1 ∨ i = 2 from by omega) with rfl | rfl | rfl
      · have hc : wr.cell? ⟨w.heap.size + 1, 0, none⟩ = some (.string ⟨#[97, 112, 112]⟩) := hS.2.2.2.1 0 (by decide)
        have HS := hide hS
        clear hS
        go_wp2_with fail
        refine (pick_any rb p' _ _ (unhide HS).2.2.2.2.2.1 (by omega) (by omega)).mono ?_
        rintro e w1 ⟨x, rfl, x0, x1, -, r1, g1⟩
        have HS1 := hide ((unhide HS).pick r1 g1)
        clear HS hc r1 g1 x1
        by_cases hx : x = 0
        · subst hx
          go_wp2_with fail
          have hof := of_new rb (p' + 1) [⟨#[97]⟩, ⟨#[97, 98]⟩, ⟨#[98]⟩, ⟨#[97]⟩, ⟨#[97]⟩] _ (unhide HS1).2.2.2.2.2.1 (by omega) (by simp) (by simp)
          simp only [List.map_cons, List.map_nil, List.length_cons, List.length_nil, Nat.zero_add, Nat.reduceAdd] at hof
          refine hof.mono ?_
          clear hof
          rintro e w3 ⟨B, rfl, hB, r3, g3⟩
          have B0 := hide (show B ∈ words4 by
            simp only [List.mem_cons, List.not_mem_nil, or_false] at hB
            rcases hB with rfl | rfl | rfl | rfl | rfl <;> simp [words4])
          have HT := hide ((unhide HS1).pick r3 g3)
          clear HS1 r3 g3 hB
          go_wp2_with (at_builtin; refine app_wp _ rfl _ _ _ rfl w.heap.size 64 i0 _ 2 32 Tryz.underlying60 hi hz0 hz1 hz2 rfl (by omega) _ L.length _ rfl ((unhide HT).2.1.alloc _) _ 1 [.string ⟨#[97, 112, 112]⟩, .string B] rfl (lies_new rfl rfl hmx) (by simp [Value.oneCell']) (by unfold maxLen; omega) (by omega) (by have := (unhide HT).2.2.2.2.1; simp; omega) ?_; intro vn w9 on gn an)
          have HU := hide ((unhide HT).app (x := (⟨#[97, 112, 112]⟩, B)) ⟨by simp [names4, names3], unhide B0⟩ rfl rfl on gn an)
          clear on gn an HT
          go_wp2_with fail
          go_roundw
          case rel => exact ⟨1, L ++ [(⟨#[97, 112, 112]⟩, B)], p' + 1 + 1, by go_num, by omega, by rw [List.length_append]; exact Nat.add_le_add_right hL 1, sub_app (unhide HSub) rfl, by omega, unhide HU⟩
          case measure => simp [intOf]
        · have hxf : (x == 0) = false := by simpa using hx
          go_wp2_with fail
          refine (pick_any rb (p' + 1) _ _ (unhide HS1).2.2.2.2.2.1 (by omega) (by omega)).mono ?_
          rintro e w2 ⟨y, rfl, y0, y1, -, r2, g2⟩
          have HS2 := hide ((unhide HS1).pick r2 g2)
          clear HS1 r2 g2 y1
          by_cases hy : 0 < y
          · go_wp2_with fail
            have hof := of_new rb (p' + 1 + 1) [⟨#[97]⟩, ⟨#[97, 98]⟩, ⟨#[98]⟩, ⟨#[97]⟩, ⟨#[97]⟩] _ (unhide HS2).2.2.2.2.2.1 (by omega) (by simp) (by simp)
            simp only [List.map_cons, List.map_nil, List.length_cons, List.length_nil, Nat.zero_add, Nat.reduceAdd] at hof
            refine hof.mono ?_
            clear hof
            rintro e w3 ⟨B, rfl, hB, r3, g3⟩
            have B0 := hide (show B ∈ words4 by
              simp only [List.mem_cons, List.not_mem_nil, or_false] at hB
              rcases hB with rfl | rfl | rfl | rfl | rfl <;> simp [words4])
            have HT := hide ((unhide HS2).pick r3 g3)
            clear HS2 r3 g3 hB
            go_wp2_with (at_builtin; refine app_wp _ rfl _ _ _ rfl w.heap.size 64 i0 _ 2 32 Tryz.underlying60 hi hz0 hz1 hz2 rfl (by omega) _ L.length _ rfl ((unhide HT).2.1.alloc _) _ 1 [.string ⟨#[97, 112, 112]⟩, .string B] rfl (lies_new rfl rfl hmx) (by simp [Value.oneCell']) (by unfold maxLen; omega) (by omega) (by have := (unhide HT).2.2.2.2.1; simp; omega) ?_; intro vn w9 on gn an)
            have HU := hide ((unhide HT).app (x := (⟨#[97, 112, 112]⟩, B)) ⟨by simp [names4, names3], unhide B0⟩ rfl rfl on gn an)
            clear on gn an HT
            go_wp2_with fail
            go_roundw
            case rel => exact ⟨1, L ++ [(⟨#[97, 112, 112]⟩, B)], p' + 1 + 1 + 1, by go_num, by omega, by rw [List.length_append]; exact Nat.add_le_add_right hL 1, sub_app (unhide HSub) rfl, by omega, unhide HU⟩
            case measure => simp [intOf]
          · have hyf : decide (0 < y) = false := by simpa using hy
            go_wp2_with fail
            go_roundw
            case rel => exact ⟨1, L, p' + 1 + 1, by go_num, by omega, by omega, sub_skip (unhide HSub) rfl, by omega, unhide HS2⟩
            case measure => simp [intOf]
      · have hc : wr.cell? ⟨w.heap.size + 1, 1, none⟩ = some (.string ⟨#[104, 111, 115, 116]⟩) := hS.2.2.2.1 1 (by decide)
        have HS := hide hS
        clear hS
        go_wp2_with fail
        refine (pick_any rb p' _ _ (unhide HS).2.2.2.2.2.1 (by omega) (by omega)).mono ?_
        rintro e w1 ⟨x, rfl, x0, x1, -, r1, g1⟩
        have HS1 := hide ((unhide HS).pick r1 g1)
        clear HS hc r1 g1 x1
        by_cases hx : x = 0
        · subst hx
          go_wp2_with fail
          have hof := of_new rb (p' + 1) [⟨#[97]⟩, ⟨#[97, 98]⟩, ⟨#[98]⟩, ⟨#[97]⟩, ⟨#[97]⟩] _ (unhide HS1).2.2.2.2.2.1 (by omega) (by simp) (by simp)
          simp only [List.map_cons, List.map_nil, List.length_cons, List.length_nil, Nat.zero_add, Nat.reduceAdd] at hof
          refine hof.mono ?_
          clear hof
          rintro e w3 ⟨B, rfl, hB, r3, g3⟩
          have B0 := hide (show B ∈ words4 by
            simp only [List.mem_cons, List.not_mem_nil, or_false] at hB
            rcases hB with rfl | rfl | rfl | rfl | rfl <;> simp [words4])
          have HT := hide ((unhide HS1).pick r3 g3)
          clear HS1 r3 g3 hB
          go_wp2_with (at_builtin; refine app_wp _ rfl _ _ _ rfl w.heap.size 64 i0 _ 2 32 Tryz.underlying60 hi hz0 hz1 hz2 rfl (by omega) _ L.length _ rfl ((unhide HT).2.1.alloc _) _ 1 [.string ⟨#[104, 111, 115, 116]⟩, .string B] rfl (lies_new rfl rfl hmx) (by simp [Value.oneCell']) (by unfold maxLen; omega) (by omega) (by have := (unhide HT).2.2.2.2.1; simp; omega) ?_; intro vn w9 on gn an)
          have HU := hide ((unhide HT).app (x := (⟨#[104, 111, 115, 116]⟩, B)) ⟨by simp [names4, names3], unhide B0⟩ rfl rfl on gn an)
          clear on gn an HT
          go_wp2_with fail
          go_roundw
          case rel => exact ⟨2, L ++ [(⟨#[104, 111, 115, 116]⟩, B)], p' + 1 + 1, by go_num, by omega, by rw [List.length_append]; exact Nat.add_le_add_right hL 1, sub_app (unhide HSub) rfl, by omega, unhide HU⟩
          case measure => simp [intOf]
        · have hxf : (x == 0) = false := by simpa using hx
          go_wp2_with fail
          go_roundw
          case rel => exact ⟨2, L, p' + 1, by go_num, by omega, by omega, sub_skip (unhide HSub) rfl, by omega, unhide HS1⟩
          case measure => simp [intOf]
      · have hc : wr.cell? ⟨w.heap.size + 1, 2, none⟩ = some (.string ⟨#[122, 111, 110, 101]⟩) := hS.2.2.2.1 2 (by decide)
        have HS := hide hS
        clear hS
        go_wp2_with fail
        refine (pick_any rb p' _ _ (unhide HS).2.2.2.2.2.1 (by omega) (by omega)).mono ?_
        rintro e w1 ⟨x, rfl, x0, x1, -, r1, g1⟩
        have HS1 := hide ((unhide HS).pick r1 g1)
        clear HS hc r1 g1 x1
        by_cases hx : x = 0
        · subst hx
          go_wp2_with fail
          have hof := of_new rb (p' + 1) [⟨#[97]⟩, ⟨#[97, 98]⟩, ⟨#[98]⟩, ⟨#[97]⟩, ⟨#[97]⟩] _ (unhide HS1).2.2.2.2.2.1 (by omega) (by simp) (by simp)
          simp only [List.map_cons, List.map_nil, List.length_cons, List.length_nil, Nat.zero_add, Nat.reduceAdd] at hof
          refine hof.mono ?_
          clear hof
          rintro e w3 ⟨B, rfl, hB, r3, g3⟩
          have B0 := hide (show B ∈ words4 by
            simp only [List.mem_cons, List.not_mem_nil, or_false] at hB
            rcases hB with rfl | rfl | rfl | rfl | rfl <;> simp [words4])
          have HT := hide ((unhide HS1).pick r3 g3)
          clear HS1 r3 g3 hB
          go_wp2_with (at_builtin; refine app_wp _ rfl _ _ _ rfl w.heap.size 64 i0 _ 2 32 Tryz.underlying60 hi hz0 hz1 hz2 rfl (by omega) _ L.length _ rfl ((unhide HT).2.1.alloc _) _ 1 [.string ⟨#[122, 111, 110, 101]⟩, .string B] rfl (lies_new rfl rfl hmx) (by simp [Value.oneCell']) (by unfold maxLen; omega) (by omega) (by have := (unhide HT).2.2.2.2.1; simp; omega) ?_; intro vn w9 on gn an)
          have HU := hide ((unhide HT).app (x := (⟨#[122, 111, 110, 101]⟩, B)) ⟨by simp [names4, names3], unhide B0⟩ rfl rfl on gn an)
          clear on gn an HT
          go_wp2_with fail
          go_roundw
          case rel => exact ⟨3, L ++ [(⟨#[122, 111, 110, 101]⟩, B)], p' + 1 + 1, by go_num, by omega, by rw [List.length_append]; exact Nat.add_le_add_right hL 1, sub_app (unhide HSub) rfl, by omega, unhide HU⟩
          case measure => simp [intOf]
        · have hxf : (x == 0) = false := by simpa using hx
          go_wp2_with fail
          go_roundw
          case rel => exact ⟨3, L, p' + 1, by go_num, by omega, by omega, sub_skip (unhide HSub) rfl, by omega, unhide HS1⟩
          case measure => simp [intOf]
    · obtain rfl : i = 3 := by omega
      obtain ⟨-, am, cm, rfl, -⟩ := lies_of_own hS.2.1
      have HS := hide hS
      clear hS
      by_cases hl0 : L.length = 0
      · have hz : ((L.length : Int) == 0) = true := by simp [hl0]
        go_wp2_with (at_builtin; refine app_wp _ rfl _ _ _ rfl w.heap.size 64 i0 _ 2 32 Tryz.underlying60 hi hz0 hz1 hz2 rfl (by omega) _ L.length _ rfl ((unhide HS).2.1.alloc _) _ 1 [.string ⟨#[106, 111, 98]⟩, .string ⟨#[120]⟩] rfl (lies_new rfl rfl hmx) (by simp [Value.oneCell']) (by unfold maxLen; omega) (by omega) (by have := (unhide HS).2.2.2.2.1; simp; omega) ?_; intro vn w9 on gn an)
        have HU := hide ((unhide HS).app (x := (⟨#[106, 111, 98]⟩, ⟨#[120]⟩)) ⟨by simp [names4, names3], by simp [words4]⟩ rfl rfl on gn an)
        clear on gn an HS
        go_wp2_with fail
        go_ret
        obtain ⟨h1, h2, -, -, -, h7, h8, -⟩ := unhide HU
        exact ⟨_, _, rfl, by rw [List.length_append]; exact Nat.succ_pos _, by rw [List.length_append, hl0]; decide, ok_job L hl0, h2, ⟨p', by omega, h7⟩, h8⟩
      · have hz : ((L.length : Int) == 0) = false := beq_false_of_ne (by omega)
        go_wp2_with fail
        go_ret
        obtain ⟨h1, h2, -, -, -, h7, h8, -⟩ := unhide HS
        exact ⟨_, _, rfl, by omega, by omega, ok_names (unhide HSub) h1 (by omega), h2, ⟨p', by omega, h7⟩, h8⟩
end Go.Proofs.YtlboekimnhgfdaaGreat.Draw

/- Slices of slices of labels, as the laws' helpers meet them. -/
namespace Go.Proofs.YtlboekimnhgfdaaGreat.Lss
open Go.RowKit Rw
set_option linter.unusedVariables false
attribute [local go_sem ↓] Go.wp_at_zero Go.wp_at_succ
abbrev E := List Lab.E
abbrev C := Value
def cl (c : C) : List Value := [c]
theorem clk (c : C) : (cl c).length = 1 := rfl
def at' (zs : List E) (i : Nat) : E := zs.getD i default
def cat (cs : List C) (i : Nat) : C := cs.getD i default
theorem at_get (zs : List E) (i : Nat) (h : i < zs.length) : at' zs i = zs[i] := by simp [at', List.getD, h]
theorem at_snoc (zs : List E) (i : Nat) (h : i < zs.length) : zs.take (i + 1) = zs.take i ++ [at' zs i] := by rw [List.take_succ_eq_append_getElem h, at_get zs i h]
theorem at_mem (zs : List E) (i : Nat) (h : i < zs.length) : at' zs i ∈ zs := by rw [at_get zs i h]; exact List.getElem_mem _
theorem cat_get (zs : List C) (i : Nat) (h : i < zs.length) : cat zs i = zs[i] := by simp [cat, List.getD, h]
theorem cat_lt (zs : List C) (c : C) (i : Nat) (h : i < zs.length) : cat (zs ++ [c]) i = cat zs i := by simp [cat, List.getD, List.getElem?_append_left h]
theorem cat_last (zs : List C) (c : C) : cat (zs ++ [c]) zs.length = c := by simp [cat, List.getD]
abbrev Elem (w : World) (c : C) (x : E) : Prop := Lab.Is w c x
def Is (w : World) (v : Value) (zs : List E) : Prop := ∃ cs : List C, cs.length = zs.length ∧ Lies w v zs.length 1 (flatOf cl cs) ∧ ∀ i, i < zs.length → Elem w (cat cs i) (at' zs i)
theorem Is.below {w w' : World} {v : Value} {zs : List E} (h : Is w v zs) (hb : Below w.heap.size w w') : Is w' v zs := by
  obtain ⟨cs, h1, h2, h3⟩ := h
  exact ⟨cs, h1, h2.below hb, fun i hi => (h3 i hi).below hb⟩
/-- the same, each slice of labels a row of its own, all of it in blocks from lo on, ahead of hi -/
def Own (lo hi : Nat) (w : World) (v : Value) (zs : List E) : Prop := ∃ cs : List C, cs.length = zs.length ∧ w.ownsRow lo 60 1 v zs.length (flatOf cl cs) ∧ (∀ k, v.ownBlock = some k → k < hi) ∧ hi ≤ w.heap.size ∧ Apart cs ∧
  ∀ i, i < zs.length → w.ownsRow lo 64 2 (cat cs i) (at' zs i).length (Lab.flat (at' zs i)) ∧ ∀ k, (cat cs i).ownBlock = some k → lo ≤ k ∧ k < hi
theorem Own.is {lo hi : Nat} {w : World} {v : Value} {zs : List E} (h : Own lo hi w v zs) : Is w v zs := by
  obtain ⟨cs, h1, h2, h3, h4, h6, h5⟩ := h
  exact ⟨cs, h1, lies_of_own h2, fun i hi => Lab.is_of_own (h5 i hi).1⟩
theorem Own.below {lo hi : Nat} {w w' : World} {v : Value} {zs : List E} (h : Own lo hi w v zs) (hb : Below w.heap.size w w') : Own lo hi w' v zs := by
  obtain ⟨cs, h1, h2, h3, h4, h6, h5⟩ := h
  exact ⟨cs, h1, own_below h2 hb, h3, Nat.le_trans h4 hb.size, h6, fun i hi => ⟨own_below (h5 i hi).1 hb, (h5 i hi).2⟩⟩
theorem Own.zone {lo hi a b : Nat} {w w' : World} {v : Value} {zs : List E} (h : Own lo hi w v zs) (hz : Zone a b w w') (ho : hi ≤ a ∨ b ≤ lo) : Own lo hi w' v zs := by
  obtain ⟨cs, h1, h2, h3, h4, h6, h5⟩ := h
  exact ⟨cs, h1, hz.own h2 (fun k hk => by have := h3 k hk; have := own_ge h2 k hk; omega), h3, Nat.le_trans h4 hz.size, h6, fun i hi => ⟨hz.own (h5 i hi).1 (fun k hk => by have := (h5 i hi).2 k hk; omega), (h5 i hi).2⟩⟩
theorem flat_at (cs : List C) (i : Nat) (h : i < cs.length) : (flatOf cl cs)[i]? = some (cat cs i) := by
  rw [cat_get cs i h]
  have := flatOf_get clk cs i 0 h (by omega)
  rw [Nat.mul_one, Nat.add_zero] at this
  exact this
def good (x : E) : Prop := x.length ≤ maxLen ∧ ∀ y ∈ x, Lab.good y
theorem info_e : (Tryz.prog.info? 60).map (fun i => (i.zero, i.size, i.bytes)) = some (some (.slice none 0 0), 1, 24) := by kernel_rfl
theorem set_e (A : List Value) (u0 x0 : Value) (L : List Value) (k : Nat) (h : A.length = k) : (A ++ u0 :: L).set k x0 = A ++ [x0] ++ L := by
  subst h
  simp [List.set_append_right]
theorem split_e (r : List Value) (n : Nat) (h : r.length = n + 1) : ∃ u0 L, r = u0 :: L ∧ L.length = n := by
  match r, h with
  | u0 :: L, h => exact ⟨u0, L, rfl, by simpa using h⟩
  | [], h => simp at h
def tiny (x : E) : Prop := x.length ≤ 4194304
end Go.Proofs.YtlboekimnhgfdaaGreat.Lss

/- Slices of slices of labels are drawn. -/
namespace Go.Proofs.YtlboekimnhgfdaaGreat.Draw
open Go.RowKit Rw
set_option linter.unusedVariables false
attribute [local go_sem ↓] Go.wp_at_zero Go.wp_at_succ
def smallLL (x : Lss.E) : Prop := x.length ≤ 20 ∧ ∀ y ∈ x, smallL y
theorem good_smallLL {x : Lss.E} (h : smallLL x) : Lss.good x := ⟨by have := h.1; unfold maxLen; omega, fun y hy => good_smallL (h.2 y hy)⟩
theorem small_snocLL {L : List Lss.E} {x : Lss.E} (h : ∀ y ∈ L, smallLL y) (hx : smallLL x) : ∀ y ∈ L ++ [x], smallLL y := by
  intro y hy
  rw [List.mem_append, List.mem_singleton] at hy
  rcases hy with hy | rfl
  · exact h y hy
  · exact hx
theorem own_grown {w w' : World} {base n size : Nat} {e : TypeId} {v : Value} {xs : List Value} {row : Option Nat} (h : w.ownsRow base e size v n xs) (hg : w.grownBy w' row) (hne : ∀ k, v.ownBlock = some k → row ≠ some k) : w'.ownsRow base e size v n xs := by
  refine ⟨h.1, ?_⟩
  rcases h.2 with h1 | ⟨c, cap, cur, h1, h2, h3, h4⟩
  · exact .inl h1
  · refine .inr ⟨c, cap, cur, h1, h2, ?_, h4⟩
    have hl := own_block_lt h c (by rw [h1]; rfl)
    rw [hg.block c hl (fun e => hne c (by rw [h1]; rfl) e.symm)]
    exact h3
/-- a slice of slices, all of them rows of the call's own, from a block on -/
def ManyOwn (base : Nat) (w : World) (v : Value) (L : List Lss.E) : Prop := ∃ cs : List Value, cs.length = L.length ∧ w.ownsRow base 60 1 v L.length (flatOf Lss.cl cs) ∧ ∀ i, i < L.length → w.ownsRow base 64 2 (Lss.cat cs i) (Lss.at' L i).length (Lab.flat (Lss.at' L i))
theorem ManyOwn.is {base : Nat} {w : World} {v : Value} {L : List Lss.E} (h : ManyOwn base w v L) : Lss.Is w v L := by
  obtain ⟨cs, h1, h2, h3⟩ := h
  exact ⟨cs, h1, lies_of_own h2, fun i hi => Lab.is_of_own (h3 i hi)⟩
theorem ManyOwn.kept {base rb : Nat} {w w' : World} {v : Value} {L : List Lss.E} (h : ManyOwn base w v L) (hg : w.grownBy w' (some rb)) (hr : rb < base) : ManyOwn base w' v L := by
  obtain ⟨cs, h1, h2, h3⟩ := h
  exact ⟨cs, h1, own_kept h2 hg hr, fun i hi => own_kept (h3 i hi) hg hr⟩
theorem ManyOwn.below {base : Nat} {w w' : World} {v : Value} {L : List Lss.E} (h : ManyOwn base w v L) (hb : Below w.heap.size w w') : ManyOwn base w' v L := by
  obtain ⟨cs, h1, h2, h3⟩ := h
  exact ⟨cs, h1, own_below h2 hb, fun i hi => own_below (h3 i hi) hb⟩
theorem many_nil {w : World} {base : Nat} (hb : base ≤ w.heap.size) : ManyOwn base (w.alloc (.cells #[] 60)) (.slice (some ⟨w.heap.size, 0, none⟩) 0 0) [] := ⟨[], rfl, own_empty hb, fun i h => by cases h⟩
theorem many_app {base : Nat} {w1 w2 w9 : World} {ov vn v : Value} {L : List Lss.E} {x : Lss.E} {n : Nat} {xs : List Value} {cs : List Value} (hcs : cs.length = L.length) (ho : w1.ownsRow base 60 1 ov L.length (flatOf Lss.cl cs))
    (hi : ∀ i, i < L.length → w1.ownsRow base 64 2 (Lss.cat cs i) (Lss.at' L i).length (Lab.flat (Lss.at' L i))) (hx : w1.ownsRow base 64 2 v x.length (Lab.flat x)) (hb : Below w1.heap.size w1 w2)
    (hn : n = L.length + 1) (hxs : xs = flatOf Lss.cl cs ++ [v]) (on : w9.ownsRow base 60 1 vn n xs) (gn : w2.grownBy w9 ov.ownBlock) : ManyOwn base w9 vn (L ++ [x]) := by
  subst hn hxs
  have key : ∀ {u : Value} {m : Nat} {ys : List Value}, w1.ownsRow base 64 2 u m ys → w9.ownsRow base 64 2 u m ys := fun h => own_grown (own_below h hb) gn (fun k hk e => own_ne_type h ho (by decide) k hk e)
  refine ⟨cs ++ [v], by simp [hcs], ?_, fun i hi' => ?_⟩
  · rw [List.length_append, flatOf_append, flatOf_one]; exact on
  · rw [List.length_append] at hi'
    simp only [List.length_cons, List.length_nil] at hi'
    by_cases hl : i < L.length
    · rw [Lss.cat_lt _ _ _ (by omega), show Lss.at' (L ++ [x]) i = Lss.at' L i by simp [Lss.at', List.getD, List.getElem?_append_left hl]]
      exact key (hi i hl)
    · obtain rfl : i = L.length := by omega
      rw [show Lss.cat (cs ++ [v]) L.length = v by rw [← hcs]; exact Lss.cat_last cs v, show Lss.at' (L ++ [x]) L.length = x by simp [Lss.at', List.getD]]
      exact key hx
end Go.Proofs.YtlboekimnhgfdaaGreat.Draw

/- What the laws' own helpers do with slices of impl.Entry, whose elements hold slices: they are copied, held against each other, and counted. -/
namespace Go.Proofs.YtlboekimnhgfdaaGreat.Ent
open Go.RowKit Rw
set_option linter.unusedVariables false
attribute [local go_sem ↓] Go.wp_at_zero Go.wp_at_succ
abbrev E := List Lab.E × Int × Int
abbrev C := Value × Value × Value
def cl (c : C) : List Value := [c.1, c.2.1, c.2.2]
theorem clk (c : C) : (cl c).length = 3 := rfl
def at' (zs : List E) (i : Nat) : E := zs.getD i default
def cat (cs : List C) (i : Nat) : C := cs.getD i default
theorem at_get (zs : List E) (i : Nat) (h : i < zs.length) : at' zs i = zs[i] := by simp [at', List.getD, h]
theorem at_snoc (zs : List E) (i : Nat) (h : i < zs.length) : zs.take (i + 1) = zs.take i ++ [at' zs i] := by rw [List.take_succ_eq_append_getElem h, at_get zs i h]
theorem at_mem (zs : List E) (i : Nat) (h : i < zs.length) : at' zs i ∈ zs := by rw [at_get zs i h]; exact List.getElem_mem _
theorem cat_get (zs : List C) (i : Nat) (h : i < zs.length) : cat zs i = zs[i] := by simp [cat, List.getD, h]
theorem cat_lt (zs : List C) (c : C) (i : Nat) (h : i < zs.length) : cat (zs ++ [c]) i = cat zs i := by simp [cat, List.getD, List.getElem?_append_left h]
theorem cat_last (zs : List C) (c : C) : cat (zs ++ [c]) zs.length = c := by simp [cat, List.getD]
def Elem (w : World) (c : C) (x : E) : Prop := Lab.Is w (c.1) (x.1) ∧ c.2.1 = .int .i64 (x.2.1) ∧ c.2.2 = .int .i64 (x.2.2)
theorem Elem.below {w w' : World} {c : C} {x : E} (h : Elem w c x) (hb : Below w.heap.size w w') : Elem w' c x := ⟨(h.1).below hb, h.2.1, h.2.2⟩
def far (B : Nat) (c : C) : Prop := (∀ k, (c.1).ownBlock = some k → B ≤ k)
theorem far.mono {A B : Nat} {c : C} (hf : far B c) (h : A ≤ B) : far A c := fun k hk => Nat.le_trans h (hf k hk)
theorem Elem.only {g : Nat} {w w' : World} {c : C} {x : E} (h : Elem w c x) (ho : OnlyAt g w w') (hf : far (g + 1) c) : Elem w' c x := ⟨ho.lies (h.1) (fun k hk => by have := hf k hk; omega), h.2.1, h.2.2⟩
def Is (w : World) (v : Value) (zs : List E) : Prop := ∃ cs : List C, cs.length = zs.length ∧ Lies w v zs.length 3 (flatOf cl cs) ∧ ∀ i, i < zs.length → Elem w (cat cs i) (at' zs i)
theorem Is.below {w w' : World} {v : Value} {zs : List E} (h : Is w v zs) (hb : Below w.heap.size w w') : Is w' v zs := by
  obtain ⟨cs, h1, h2, h3⟩ := h
  exact ⟨cs, h1, h2.below hb, fun i hi => (h3 i hi).below hb⟩
/-- the same, all of it in blocks from B on -/
def IsF (B : Nat) (w : World) (v : Value) (zs : List E) : Prop := ∃ cs : List C, cs.length = zs.length ∧ Lies w v zs.length 3 (flatOf cl cs) ∧ (∀ k, v.ownBlock = some k → B ≤ k) ∧ ∀ i, i < zs.length → Elem w (cat cs i) (at' zs i) ∧ far B (cat cs i)
theorem IsF.is {B : Nat} {w : World} {v : Value} {zs : List E} (h : IsF B w v zs) : Is w v zs := by
  obtain ⟨cs, h1, h2, h3, h4⟩ := h
  exact ⟨cs, h1, h2, fun i hi => (h4 i hi).1⟩
theorem IsF.below {B : Nat} {w w' : World} {v : Value} {zs : List E} (h : IsF B w v zs) (hb : Below w.heap.size w w') : IsF B w' v zs := by
  obtain ⟨cs, h1, h2, h3, h4⟩ := h
  exact ⟨cs, h1, h2.below hb, h3, fun i hi => ⟨(h4 i hi).1.below hb, (h4 i hi).2⟩⟩
theorem IsF.only {B g : Nat} {w w' : World} {v : Value} {zs : List E} (h : IsF B w v zs) (ho : OnlyAt g w w') (hg : g < B) : IsF B w' v zs := by
  obtain ⟨cs, h1, h2, h3, h4⟩ := h
  exact ⟨cs, h1, ho.lies h2 (fun k hk => by have := h3 k hk; omega), h3, fun i hi => ⟨(h4 i hi).1.only ho ((h4 i hi).2.mono hg), (h4 i hi).2⟩⟩
theorem IsF.mono {A B : Nat} {w : World} {v : Value} {zs : List E} (h : IsF B w v zs) (hA : A ≤ B) : IsF A w v zs := by
  obtain ⟨cs, h1, h2, h3, h4⟩ := h
  exact ⟨cs, h1, h2, fun k hk => Nat.le_trans hA (h3 k hk), fun i hi => ⟨(h4 i hi).1, (h4 i hi).2.mono hA⟩⟩
theorem flat_at (cs : List C) (i : Nat) (h : i < cs.length) : (flatOf cl cs)[i * 3]? = some ((cat cs i).1) ∧ (flatOf cl cs)[i * 3 + 1]? = some ((cat cs i).2.1) ∧ (flatOf cl cs)[i * 3 + 2]? = some ((cat cs i).2.2) := by
  rw [cat_get cs i h]
  exact ⟨flatOf_get clk cs i 0 h (by omega), flatOf_get clk cs i 1 h (by omega), flatOf_get clk cs i 2 h (by omega)⟩
def good (x : E) : Prop := ((x.1).length ≤ maxLen ∧ ∀ y ∈ x.1, Lab.good y) ∧ (Lit.int .i64 (x.2.1)).wf = true ∧ (Lit.int .i64 (x.2.2)).wf = true
set_option maxRecDepth 100000 in
theorem open_arg {H : Type} {enc : TypeId × Value → H} {W : World} {a : Option Addr} {len cap : Nat} {d : DataW H} {p : List MemPlace}
    (h : DataW.Trod enc Tryz.prog W 0 (fun _ => true) true 25 (.slice a len cap) d p) : ∃ zs : List E, zs.length = len ∧ len ≤ maxLen ∧ Is W (.slice a len cap) zs ∧ ∀ x ∈ zs, good x := by
  have ck : Tryz.prog.cellsOf 69 = 3 := by kernel_rfl
  obtain ⟨cs, h1, h2, h3, h4⟩ := open_flat (e := 69) (good := fun c => ∃ x : E, Elem W c x ∧ good x) clk Tryz.underlying25 ck (by
    intro n cs y hl ht
    obtain ⟨xs, m, -, -, -, hxl, hf⟩ := DataW.trod_struct Tryz.underlying69 ht
    match cs, hl, xs, hxl with
    | [c0, c1, c2], _, [y0, y1, y2], _ =>
      have g0 := hf 0 _ rfl
      have g1 := hf 1 _ rfl
      have g2 := hf 2 _ rfl
      have ce0 : Tryz.prog.cellsOf 67 = 1 := by kernel_rfl
      have ce1 : Tryz.prog.cellsOf 3 = 1 := by kernel_rfl
      simp [ce0, ce1] at g0 g1 g2
      obtain ⟨a0, l0, k0, e0, t0⟩ := slice_cell Tryz.underlying67 g0
      obtain ⟨s0, n0, m0, i0, w0⟩ := Lab.open_arg t0
      rw [← n0] at i0
      obtain ⟨s1, e1, -, w1⟩ := DataW.trod_int Tryz.underlying3 g1
      simp only [List.cons.injEq, and_true] at e1
      obtain ⟨s2, e2, -, w2⟩ := DataW.trod_int Tryz.underlying3 g2
      simp only [List.cons.injEq, and_true] at e2
      subst e0 e1 e2
      subst n0
      exact ⟨(.slice a0 s0.length k0, .int .i64 s1, .int .i64 s2), rfl, (s0, s1, s2), ⟨i0, rfl, rfl⟩, ⟨⟨m0, w0⟩, w1, w2⟩⟩) (by omega) h
  obtain ⟨zs, hz, hP⟩ := choose_list cs h4
  refine ⟨zs, by omega, h2, ⟨cs, hz.symm, by rw [hz, h1]; exact h3, fun i hi => (hP i (by omega)).1⟩, fun x hx => ?_⟩
  obtain ⟨i, hi, rfl⟩ := List.getElem_of_mem hx
  have := (hP i (by omega)).2
  rwa [show zs.getD i default = zs[i] from at_get zs i hi] at this
theorem info_e : (Tryz.prog.info? 62).map (fun i => (i.zero, i.size, i.bytes)) = some (some (.agg #[.slice none 0 0, .int .i64 0, .int .i64 0]), 3, 40) := by kernel_rfl
def tiny (x : E) : Prop := (x.1).length ≤ 4194304
end Go.Proofs.YtlboekimnhgfdaaGreat.Ent
