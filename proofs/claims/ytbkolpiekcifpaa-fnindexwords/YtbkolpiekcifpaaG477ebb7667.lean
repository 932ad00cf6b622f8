/- My own texts of one claim, laid together by program: DrawLab, Many. -/
import Derived.Test.YtbkolpiekcifpaaG5f2156d931
import Derived.Test.YtbkolpiekcifpaaGa373133481
import Derived.Test.YtbkolpiekcifpaaG95a324441e
/- Labels are drawn. -/
namespace Go.Proofs.Ytbkolpiekcifpaa.Draw
open Go.RowKit Rw Lab
set_option linter.unusedVariables false
attribute [local go_sem ↓] Go.wp_at_zero Go.wp_at_succ
/-- what is drawn is small -/
def nobody : ByteArray := ⟨#[110, 111, 98, 111, 100, 121]⟩
def smallL (x : Lab.E) : Prop := x.1.size ≤ 100 ∧ x.2.size ≤ 100 ∧ x.1 ≠ nobody
theorem good_smallL {x : Lab.E} (h : smallL x) : Lab.good x := by
  obtain ⟨h1, h2, -⟩ := h
  exact ⟨by unfold maxLen; omega, by unfold maxLen; omega⟩
theorem flat_snocL (L : List Lab.E) (x : Lab.E) : Lab.flat (L ++ [x]) = Lab.flat L ++ Lab.fl x := by unfold Lab.flat; rw [flatOf_append, flatOf_one]
theorem small_snocL {L : List Lab.E} {x : Lab.E} (h : ∀ y ∈ L, smallL y) (hx : smallL x) : ∀ y ∈ L ++ [x], smallL y := by
  intro y hy
  rw [List.mem_append, List.mem_singleton] at hy
  rcases hy with hy | rfl
  · exact h y hy
  · exact hx
theorem strs_grown {w w' : World} {g : Nat} {l : List ByteArray} {row : Option Nat} (h : Strs w g l) (hg : w.grownBy w' row) (hl : g < w.heap.size) (hr : ∀ k, row = some k → k ≠ g) : Strs w' g l := fun i hi =>
  (World.cell?_of_block (a := ⟨g, i, none⟩) (hg.block g hl (fun e => hr g e.symm rfl))).trans (h i hi)
def names3 : List ByteArray := [⟨#[97, 112, 112]⟩, ⟨#[104, 111, 115, 116]⟩, ⟨#[122, 111, 110, 101]⟩]
/-- labels drawn so far; the names lie beside them, in block nb -/
def LS (w wr : World) (rb nb p : Nat) (ov : Value) (L : List Lab.E) : Prop :=
  (∀ x ∈ L, smallL x) ∧ wr.ownsRow w.heap.size 56 2 ov L.length (Lab.flat L) ∧ (∀ k, ov.ownBlock = some k → k ≠ nb) ∧ Strs wr nb names3 ∧ (nb < wr.heap.size ∧ w.heap.size ≤ nb) ∧ Rd wr rb p ∧ w.grownBy wr (some rb) ∧ rb < w.heap.size
theorem LS.pick {w wr w' : World} {rb nb p p' : Nat} {ov : Value} {L : List Lab.E} (h : LS w wr rb nb p ov L) (hr : Rd w' rb p') (hg : wr.grownBy w' (some rb)) : LS w w' rb nb p' ov L := by
  obtain ⟨h1, h2, h3, h4, ⟨h5, h6⟩, h7, h8, h9⟩ := h
  exact ⟨h1, own_kept h2 hg h9, h3, strs_grown h4 hg h5 (fun k hk => by have := Option.some.inj hk; omega), ⟨Nat.lt_of_lt_of_le h5 hg.size, h6⟩, hr, grown_trans h8 hg, h9⟩
theorem LS.app {w wr w9 : World} {rb nb p : Nat} {ov vn : Value} {L : List Lab.E} {x : Lab.E} {c : Array Value} {n : Nat} {xs : List Value} (h : LS w wr rb nb p ov L) (hx : smallL x) (hn : n = L.length + 1) (hxs : xs = Lab.flat L ++ Lab.fl x)
    (on : w9.ownsRow w.heap.size 56 2 vn n xs) (gn : (wr.alloc (.cells c 56)).grownBy w9 ov.ownBlock) (an : vn.ownBlock = ov.ownBlock ∨ vn.ownBlock = some (wr.alloc (.cells c 56)).heap.size) : LS w w9 rb nb p vn (L ++ [x]) := by
  obtain ⟨h1, h2, h3, h4, ⟨h5, h6⟩, h7, h8, h9⟩ := h
  have ge := own_ge h2
  have hb : Below wr.heap.size wr (wr.alloc (.cells c 56)) := (Below.refl _ _).alloc (Nat.le_refl _) _
  have hs : (wr.alloc (.cells c 56)).heap.size = wr.heap.size + 1 := by simp
  refine ⟨small_snocL h1 hx, ?_, ?_, ?_, ⟨?_, h6⟩, ?_, ?_, h9⟩
  · rw [List.length_append, flat_snocL, ← hxs]; rw [hn] at on; exact on
  · intro k hk e
    rcases an with an | an
    · exact h3 k (an.symm.trans hk) e
    · rw [hk] at an
      have := Option.some.inj an
      omega
  · exact strs_grown (strs_grown (row := some rb) h4 (grown_below hb) h5 (fun k hk => by have := Option.some.inj hk; omega)) gn (by rw [hs]; omega) h3
  · have := gn.size; omega
  · exact (h7.below hb).grown gn (fun k hk => by have := ge k hk; omega)
  · exact grown_other (grown_trans h8 (grown_below hb)) gn ge
set_option maxRecDepth 100000 in
set_option maxHeartbeats 4000000 in
theorem labels_any (rb p : Nat) (w : World) (h : Rd w rb p) (hp : p ≤ 700000) :
    Calls Try.prog 64 #[.pointer (some ⟨rb, 0, none⟩)] w fun e w' => ∃ (zs : List Lab.E) (v : Value), e = .returned v ∧ 0 < zs.length ∧ zs.length ≤ 3 ∧ (∀ x ∈ zs, smallL x) ∧ w'.ownsRow w.heap.size 56 2 v zs.length (Lab.flat zs) ∧ (∃ p', p' ≤ p + 10 ∧ Rd w' rb p') ∧ w.grownBy w' (some rb) := by
  obtain ⟨i0, hi, hz0, hz1, hz2⟩ := info_parts Lab.info_e
  have hrl := h.lt
  have hmx : 1 ≤ maxLen := by unfold maxLen; omega
  have hb1 : Below w.heap.size w (w.alloc (.cells #[] 56)) := (Below.refl _ _).alloc (Nat.le_refl _) _
  have hb2 : Below (w.alloc (.cells #[] 56)).heap.size (w.alloc (.cells #[] 56)) ((w.alloc (.cells #[] 56)).alloc (.cells (names3.map Value.string).toArray 9)) := (Below.refl _ _).alloc (Nat.le_refl _) _
  have S0 := hide (show LS w ((w.alloc (.cells #[] 56)).alloc (.cells (names3.map Value.string).toArray 9)) rb (w.alloc (.cells #[] 56)).heap.size p (.slice (some ⟨w.heap.size, 0, none⟩) 0 0) [] from
    ⟨by simp, (own_empty (w := w) (base := w.heap.size) (e := 56) (size := 2) (Nat.le_refl _)).alloc _, fun k hk => by have := Option.some.inj hk; simp at this ⊢; omega, strs_block (heap_alloc_new _ _), ⟨by simp, by simp⟩, (h.below hb1).below hb2, grown_trans (grown_below hb1) (grown_below hb2), hrl⟩)
  clear h hb1 hb2
  go_enter Try.func64, Try.ntmps64
  go_wp2_with fail
  go_loopw [3, 9] (fun ov iv wr => ∃ (i : Nat) (L : List Lab.E) (p' : Nat), iv = .int .i64 (i : Int) ∧ i ≤ 3 ∧ L.length ≤ i ∧ p' ≤ p + 3 * i ∧ LS w wr rb (w.heap.size + 1) p' ov L) (fun _ iv _ => 3 - (intOf iv).toNat)
  case atStart => exact ⟨0, [], p, rfl, by omega, by simp, by omega, by simpa [names3] using unhide S0⟩
  case round =>
    clear S0
    obtain ⟨i, L, p', rfl, hi3, hL, hp', hS⟩ := hrel
    by_cases h3 : i < 3
    · rcases (show i = 0 ∨ i = 1 ∨ i = 2 from by omega) with rfl | rfl | rfl
      · have hc : wr.cell? ⟨w.heap.size + 1, 0, none⟩ = some (.string ⟨#[97, 112, 112]⟩) := hS.2.2.2.1 0 (by decide)
        have HS := hide hS
        clear hS
        go_wp2_with fail
        refine (pick_any rb p' _ _ (unhide HS).2.2.2.2.2.1 (by omega) (by omega)).mono ?_
        rintro e w1 ⟨x, rfl, x0, x1, -, r1, g1⟩
        have HS1 := hide ((unhide HS).pick r1 g1)
        clear HS hc r1 g1 x1
        by_cases hx : x = 0
        · subst hx
          go_wp2_with fail
          have hof := of_new rb (p' + 1) [⟨#[97]⟩, ⟨#[97, 98]⟩, ⟨#[98]⟩, ⟨#[97]⟩, ⟨#[97]⟩] _ (unhide HS1).2.2.2.2.2.1 (by omega) (by simp) (by simp)
          simp only [List.map_cons, List.map_nil, List.length_cons, List.length_nil, Nat.zero_add, Nat.reduceAdd] at hof
          refine hof.mono ?_
          clear hof
          rintro e w3 ⟨B, rfl, hB, r3, g3⟩
          have B0 := hide (show B.size ≤ 100 by
            simp only [List.mem_cons, List.not_mem_nil, or_false] at hB
            rcases hB with rfl | rfl | rfl | rfl | rfl <;> decide)
          have HT := hide ((unhide HS1).pick r3 g3)
          clear HS1 r3 g3 hB
          go_wp2_with (at_builtin; refine app_wp _ rfl _ _ _ rfl w.heap.size 56 i0 _ 2 32 Try.underlying44 hi hz0 hz1 hz2 rfl (by omega) _ L.length _ rfl ((unhide HT).2.1.alloc _) _ 1 [.string ⟨#[97, 112, 112]⟩, .string B] rfl (lies_new rfl rfl hmx) (by simp [Value.oneCell']) (by unfold maxLen; omega) (by omega) (by have := (unhide HT).2.2.2.2.1; simp; omega) ?_; intro vn w9 on gn an)
          have HU := hide ((unhide HT).app (x := (⟨#[97, 112, 112]⟩, B)) ⟨by show ByteArray.size ⟨#[97, 112, 112]⟩ ≤ 100; decide, unhide B0, by show (⟨#[97, 112, 112]⟩ : ByteArray) ≠ nobody; decide⟩ rfl rfl on gn an)
          clear on gn an HT
          go_wp2_with fail
          go_roundw
          case rel => exact ⟨1, L ++ [(⟨#[97, 112, 112]⟩, B)], p' + 1 + 1, by go_num, by omega, by rw [List.length_append]; exact Nat.add_le_add_right hL 1, by omega, unhide HU⟩
          case measure => simp [intOf]
        · have hxf : (x == 0) = false := by simpa using hx
          go_wp2_with fail
          refine (pick_any rb (p' + 1) _ _ (unhide HS1).2.2.2.2.2.1 (by omega) (by omega)).mono ?_
          rintro e w2 ⟨y, rfl, y0, y1, -, r2, g2⟩
          have HS2 := hide ((unhide HS1).pick r2 g2)
          clear HS1 r2 g2 y1
          by_cases hy : 0 < y
          · go_wp2_with fail
            have hof := of_new rb (p' + 1 + 1) [⟨#[97]⟩, ⟨#[97, 98]⟩, ⟨#[98]⟩, ⟨#[97]⟩, ⟨#[97]⟩] _ (unhide HS2).2.2.2.2.2.1 (by omega) (by simp) (by simp)
            simp only [List.map_cons, List.map_nil, List.length_cons, List.length_nil, Nat.zero_add, Nat.reduceAdd] at hof
            refine hof.mono ?_
            clear hof
            rintro e w3 ⟨B, rfl, hB, r3, g3⟩
            have B0 := hide (show B.size ≤ 100 by
              simp only [List.mem_cons, List.not_mem_nil, or_false] at hB
              rcases hB with rfl | rfl | rfl | rfl | rfl <;> decide)
            have HT := hide ((unhide HS2).pick r3 g3)
            clear HS2 r3 g3 hB
            go_wp2_with (at_builtin; refine app_wp _ rfl _ _ _ rfl w.heap.size 56 i0 _ 2 32 Try.underlying44 hi hz0 hz1 hz2 rfl (by omega) _ L.length _ rfl ((unhide HT).2.1.alloc _) _ 1 [.string ⟨#[97, 112, 112]⟩, .string B] rfl (lies_new rfl rfl hmx) (by simp [Value.oneCell']) (by unfold maxLen; omega) (by omega) (by have := (unhide HT).2.2.2.2.1; simp; omega) ?_; intro vn w9 on gn an)
            have HU := hide ((unhide HT).app (x := (⟨#[97, 112, 112]⟩, B)) ⟨by show ByteArray.size ⟨#[97, 112, 112]⟩ ≤ 100; decide, unhide B0, by show (⟨#[97, 112, 112]⟩ : ByteArray) ≠ nobody; decide⟩ rfl rfl on gn an)
            clear on gn an HT
            go_wp2_with fail
            go_roundw
            case rel => exact ⟨1, L ++ [(⟨#[97, 112, 112]⟩, B)], p' + 1 + 1 + 1, by go_num, by omega, by rw [List.length_append]; exact Nat.add_le_add_right hL 1, by omega, unhide HU⟩
            case measure => simp [intOf]
          · have hyf : decide (0 < y) = false := by simpa using hy
            go_wp2_with fail
            go_roundw
            case rel => exact ⟨1, L, p' + 1 + 1, by go_num, by omega, by omega, by omega, unhide HS2⟩
            case measure => simp [intOf]
      · have hc : wr.cell? ⟨w.heap.size + 1, 1, none⟩ = some (.string ⟨#[104, 111, 115, 116]⟩) := hS.2.2.2.1 1 (by decide)
        have HS := hide hS
        clear hS
        go_wp2_with fail
        refine (pick_any rb p' _ _ (unhide HS).2.2.2.2.2.1 (by omega) (by omega)).mono ?_
        rintro e w1 ⟨x, rfl, x0, x1, -, r1, g1⟩
        have HS1 := hide ((unhide HS).pick r1 g1)
        clear HS hc r1 g1 x1
        by_cases hx : x = 0
        · subst hx
          go_wp2_with fail
          have hof := of_new rb (p' + 1) [⟨#[97]⟩, ⟨#[97, 98]⟩, ⟨#[98]⟩, ⟨#[97]⟩, ⟨#[97]⟩] _ (unhide HS1).2.2.2.2.2.1 (by omega) (by simp) (by simp)
          simp only [List.map_cons, List.map_nil, List.length_cons, List.length_nil, Nat.zero_add, Nat.reduceAdd] at hof
          refine hof.mono ?_
          clear hof
          rintro e w3 ⟨B, rfl, hB, r3, g3⟩
          have B0 := hide (show B.size ≤ 100 by
            simp only [List.mem_cons, List.not_mem_nil, or_false] at hB
            rcases hB with rfl | rfl | rfl | rfl | rfl <;> decide)
          have HT := hide ((unhide HS1).pick r3 g3)
          clear HS1 r3 g3 hB
          go_wp2_with (at_builtin; refine app_wp _ rfl _ _ _ rfl w.heap.size 56 i0 _ 2 32 Try.underlying44 hi hz0 hz1 hz2 rfl (by omega) _ L.length _ rfl ((unhide HT).2.1.alloc _) _ 1 [.string ⟨#[104, 111, 115, 116]⟩, .string B] rfl (lies_new rfl rfl hmx) (by simp [Value.oneCell']) (by unfold maxLen; omega) (by omega) (by have := (unhide HT).2.2.2.2.1; simp; omega) ?_; intro vn w9 on gn an)
          have HU := hide ((unhide HT).app (x := (⟨#[104, 111, 115, 116]⟩, B)) ⟨by show ByteArray.size ⟨#[104, 111, 115, 116]⟩ ≤ 100; decide, unhide B0, by show (⟨#[104, 111, 115, 116]⟩ : ByteArray) ≠ nobody; decide⟩ rfl rfl on gn an)
          clear on gn an HT
          go_wp2_with fail
          go_roundw
          case rel => exact ⟨2, L ++ [(⟨#[104, 111, 115, 116]⟩, B)], p' + 1 + 1, by go_num, by omega, by rw [List.length_append]; exact Nat.add_le_add_right hL 1, by omega, unhide HU⟩
          case measure => simp [intOf]
        · have hxf : (x == 0) = false := by simpa using hx
          go_wp2_with fail
          go_roundw
          case rel => exact ⟨2, L, p' + 1, by go_num, by omega, by omega, by omega, unhide HS1⟩
          case measure => simp [intOf]
      · have hc : wr.cell? ⟨w.heap.size + 1, 2, none⟩ = some (.string ⟨#[122, 111, 110, 101]⟩) := hS.2.2.2.1 2 (by decide)
        have HS := hide hS
        clear hS
        go_wp2_with fail
        refine (pick_any rb p' _ _ (unhide HS).2.2.2.2.2.1 (by omega) (by omega)).mono ?_
        rintro e w1 ⟨x, rfl, x0, x1, -, r1, g1⟩
        have HS1 := hide ((unhide HS).pick r1 g1)
        clear HS hc r1 g1 x1
        by_cases hx : x = 0
        · subst hx
          go_wp2_with fail
          have hof := of_new rb (p' + 1) [⟨#[97]⟩, ⟨#[97, 98]⟩, ⟨#[98]⟩, ⟨#[97]⟩, ⟨#[97]⟩] _ (unhide HS1).2.2.2.2.2.1 (by omega) (by simp) (by simp)
          simp only [List.map_cons, List.map_nil, List.length_cons, List.length_nil, Nat.zero_add, Nat.reduceAdd] at hof
          refine hof.mono ?_
          clear hof
          rintro e w3 ⟨B, rfl, hB, r3, g3⟩
          have B0 := hide (show B.size ≤ 100 by
            simp only [List.mem_cons, List.not_mem_nil, or_false] at hB
            rcases hB with rfl | rfl | rfl | rfl | rfl <;> decide)
          have HT := hide ((unhide HS1).pick r3 g3)
          clear HS1 r3 g3 hB
          go_wp2_with (at_builtin; refine app_wp _ rfl _ _ _ rfl w.heap.size 56 i0 _ 2 32 Try.underlying44 hi hz0 hz1 hz2 rfl (by omega) _ L.length _ rfl ((unhide HT).2.1.alloc _) _ 1 [.string ⟨#[122, 111, 110, 101]⟩, .string B] rfl (lies_new rfl rfl hmx) (by simp [Value.oneCell']) (by unfold maxLen; omega) (by omega) (by have := (unhide HT).2.2.2.2.1; simp; omega) ?_; intro vn w9 on gn an)
          have HU := hide ((unhide HT).app (x := (⟨#[122, 111, 110, 101]⟩, B)) ⟨by show ByteArray.size ⟨#[122, 111, 110, 101]⟩ ≤ 100; decide, unhide B0, by show (⟨#[122, 111, 110, 101]⟩ : ByteArray) ≠ nobody; decide⟩ rfl rfl on gn an)
          clear on gn an HT
          go_wp2_with fail
          go_roundw
          case rel => exact ⟨3, L ++ [(⟨#[122, 111, 110, 101]⟩, B)], p' + 1 + 1, by go_num, by omega, by rw [List.length_append]; exact Nat.add_le_add_right hL 1, by omega, unhide HU⟩
          case measure => simp [intOf]
        · have hxf : (x == 0) = false := by simpa using hx
          go_wp2_with fail
          go_roundw
          case rel => exact ⟨3, L, p' + 1, by go_num, by omega, by omega, by omega, unhide HS1⟩
          case measure => simp [intOf]
    · obtain rfl : i = 3 := by omega
      obtain ⟨-, am, cm, rfl, -⟩ := lies_of_own hS.2.1
      have HS := hide hS
      clear hS
      by_cases hl0 : L.length = 0
      · have hz : ((L.length : Int) == 0) = true := by simp [hl0]
        go_wp2_with (at_builtin; refine app_wp _ rfl _ _ _ rfl w.heap.size 56 i0 _ 2 32 Try.underlying44 hi hz0 hz1 hz2 rfl (by omega) _ L.length _ rfl ((unhide HS).2.1.alloc _) _ 1 [.string ⟨#[106, 111, 98]⟩, .string ⟨#[120]⟩] rfl (lies_new rfl rfl hmx) (by simp [Value.oneCell']) (by unfold maxLen; omega) (by omega) (by have := (unhide HS).2.2.2.2.1; simp; omega) ?_; intro vn w9 on gn an)
        have HU := hide ((unhide HS).app (x := (⟨#[106, 111, 98]⟩, ⟨#[120]⟩)) ⟨by show ByteArray.size ⟨#[106, 111, 98]⟩ ≤ 100; decide, by show ByteArray.size ⟨#[120]⟩ ≤ 100; decide, by show (⟨#[106, 111, 98]⟩ : ByteArray) ≠ nobody; decide⟩ rfl rfl on gn an)
        clear on gn an HS
        go_wp2_with fail
        go_ret
        obtain ⟨h1, h2, -, -, -, h7, h8, -⟩ := unhide HU
        exact ⟨_, _, rfl, by rw [List.length_append]; exact Nat.succ_pos _, by rw [List.length_append, hl0]; decide, h1, h2, ⟨p', by omega, h7⟩, h8⟩
      · have hz : ((L.length : Int) == 0) = false := beq_false_of_ne (by omega)
        go_wp2_with fail
        go_ret
        obtain ⟨h1, h2, -, -, -, h7, h8, -⟩ := unhide HS
        exact ⟨_, _, rfl, by omega, by omega, h1, h2, ⟨p', by omega, h7⟩, h8⟩
end Go.Proofs.Ytbkolpiekcifpaa.Draw

/- A letter, some times over. -/
namespace Go.Proofs.Ytbkolpiekcifpaa.Draw
open Go.RowKit Rw
set_option linter.unusedVariables false
attribute [local go_sem ↓] Go.wp_at_zero Go.wp_at_succ
set_option maxRecDepth 100000 in
set_option maxHeartbeats 1000000 in
theorem many_any (n : Nat) (w : World) (hn : n ≤ 4) : Calls Try.prog 80 #[.string ⟨#[122]⟩, .int .i64 (n : Int)] w fun e w' => ∃ B : ByteArray, e = .returned (.string B) ∧ B.size ≤ 50 ∧ w' = w := by
  go_enter Try.func80, Try.ntmps80
  go_wp2
  go_loop [0, 1, 5] (fun sv nv ov => ∃ (s o : ByteArray) (k : Nat), sv = .string s ∧ ov = .string o ∧ nv = .int .i64 (k : Int) ∧ k ≤ 4 ∧ (k = 4 → s.size ≤ 2 ∧ o.size ≤ 2) ∧ (2 ≤ k → s.size ≤ 4 ∧ o.size ≤ 4) ∧ (1 ≤ k → s.size ≤ 8 ∧ o.size ≤ 8) ∧ s.size ≤ 16 ∧ o.size ≤ 16) (fun _ nv _ => (intOf nv).toNat)
  case atStart => exact ⟨⟨#[122]⟩, ⟨#[]⟩, n, rfl, rfl, rfl, hn, fun _ => by decide, fun _ => by decide, fun _ => by decide, by decide, by decide⟩
  case round =>
    obtain ⟨s, o, k, rfl, rfl, rfl, hk, h4, h2, h1, hs, ho⟩ := hrel
    rcases (show k = 0 ∨ k = 1 ∨ k = 2 ∨ k = 3 ∨ k = 4 from by omega) with rfl | rfl | rfl | rfl | rfl
    · clear h4 h2 h1
      go_wp2
      go_ret
      exact ⟨o, rfl, by omega, rfl⟩
    · have e1 := ByteArray.size_append (a := s) (b := s)
      have e2 := ByteArray.size_append (a := o) (b := s)
      have E := hide (And.intro e1 (And.intro e2 (And.intro h4 (And.intro h2 h1))))
      clear e1 e2 h4 h2 h1
      go_wp2
      obtain ⟨e1, e2, h4, h2, h1⟩ := unhide E
      exact ⟨⟨s ++ s, o ++ s, 0, rfl, rfl, rfl, by omega, fun _ => by omega, fun _ => by omega, fun _ => by omega, by omega, by omega⟩, by simp [intOf]⟩
    · have e1 := ByteArray.size_append (a := s) (b := s)
      have e2 := ByteArray.size_append (a := o) (b := s)
      have E := hide (And.intro e1 (And.intro e2 (And.intro h4 (And.intro h2 h1))))
      clear e1 e2 h4 h2 h1
      go_wp2
      obtain ⟨e1, e2, h4, h2, h1⟩ := unhide E
      exact ⟨⟨s ++ s, o, 1, rfl, rfl, rfl, by omega, fun _ => by omega, fun _ => by omega, fun _ => by omega, by omega, by omega⟩, by simp [intOf]⟩
    · have e1 := ByteArray.size_append (a := s) (b := s)
      have e2 := ByteArray.size_append (a := o) (b := s)
      have E := hide (And.intro e1 (And.intro e2 (And.intro h4 (And.intro h2 h1))))
      clear e1 e2 h4 h2 h1
      go_wp2
      obtain ⟨e1, e2, h4, h2, h1⟩ := unhide E
      exact ⟨⟨s ++ s, o ++ s, 1, rfl, rfl, rfl, by omega, fun _ => by omega, fun _ => by omega, fun _ => by omega, by omega, by omega⟩, by simp [intOf]⟩
    · have e1 := ByteArray.size_append (a := s) (b := s)
      have e2 := ByteArray.size_append (a := o) (b := s)
      have E := hide (And.intro e1 (And.intro e2 (And.intro h4 (And.intro h2 h1))))
      clear e1 e2 h4 h2 h1
      go_wp2
      obtain ⟨e1, e2, h4, h2, h1⟩ := unhide E
      exact ⟨⟨s ++ s, o, 2, rfl, rfl, rfl, by omega, fun _ => by omega, fun _ => by omega, fun _ => by omega, by omega, by omega⟩, by simp [intOf]⟩
end Go.Proofs.Ytbkolpiekcifpaa.Draw
