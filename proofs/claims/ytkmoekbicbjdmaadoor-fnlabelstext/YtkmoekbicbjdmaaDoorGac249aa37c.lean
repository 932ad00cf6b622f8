/- My own texts of one claim, laid together by program: RdOf, DrawLab, Many, DrawLab2. -/
import Derived.Test.YtkmoekbicbjdmaaDoorGdec50b3f2c
/- A word of some is drawn. -/
namespace Go.Proofs.YtkmoekbicbjdmaaDoor.Draw
open Go.RowKit Rw
set_option linter.unusedVariables false
attribute [local go_sem ↓] Go.wp_at_zero Go.wp_at_succ
/-- words that lie in a block of their own -/
def Strs (w : World) (g : Nat) (l : List ByteArray) : Prop := ∀ i, i < l.length → w.cell? ⟨g, i, none⟩ = some (.string (l.getD i ByteArray.empty))
set_option maxHeartbeats 1000000 in
theorem of_any (rb p g : Nat) (l : List ByteArray) (w : World) (h : Rd w rb p) (hp : p ≤ 1000000) (hl : 0 < l.length) (hl2 : l.length ≤ 1000) (hg : Strs w g l) (hgs : g < w.heap.size) (hne : g ≠ rb) :
    Calls Tryd.prog 45 #[.pointer (some ⟨rb, 0, none⟩), .slice (some ⟨g, 0, none⟩) l.length l.length] w fun e w' => ∃ x : ByteArray, e = .returned (.string x) ∧ x ∈ l ∧ Rd w' rb (p + 1) ∧ w.grownBy w' (some rb) := by
  obtain ⟨n, hn⟩ : ∃ n, n = l.length := ⟨_, rfl⟩
  rw [← hn]
  have HN := hide hn
  have n1 : 0 < n := by omega
  have n2 : n ≤ 1000 := by omega
  have HP := hide (fun k (hk : k ≤ (4294967296 : Int)) => pick_any rb p k w h hp hk)
  clear h hn hl hl2
  go_enter Tryd.func45, Tryd.ntmps45
  go_wp2_with fail
  refine (unhide HP _ (by omega)).mono ?_
  rintro e w1 ⟨x, rfl, x0, x1, -, r1, g1⟩
  have x2 : x < (n : Int) := x1 (by omega)
  obtain ⟨k, rfl⟩ := Int.eq_ofNat_of_zero_le x0
  have hk : k < n := by omega
  have hc : w1.cell? ⟨g, k, none⟩ = some (.string (l.getD k ByteArray.empty)) := (grown_cell g1 hgs hne).trans (hg k (by have := unhide HN; omega))
  have hm := hide (show l.getD k ByteArray.empty ∈ l by
    have hk' : k < l.length := by have := unhide HN; omega
    simp [List.getD, hk'])
  generalize l.getD k ByteArray.empty = X at hc hm
  clear x1
  go_wp2
  go_ret
  exact ⟨X, rfl, unhide hm, r1, g1⟩
theorem strs_block {w : World} {g : Nat} {l : List ByteArray} {t : TypeId} (h : w.heap[g]? = some (.cells (l.map Value.string).toArray t (0, 0))) : Strs w g l := fun i hi => by
  rw [cell_of_row w g i _ _ _ h]
  simp [List.getD, hi]
theorem of_new (rb p : Nat) (l : List ByteArray) (w : World) (h : Rd w rb p) (hp : p ≤ 1000000) (hl : 0 < l.length) (hl2 : l.length ≤ 1000) :
    Calls Tryd.prog 45 #[.pointer (some ⟨rb, 0, none⟩), .slice (some ⟨w.heap.size, 0, none⟩) l.length l.length] (w.alloc (.cells (l.map Value.string).toArray 9)) fun e w' => ∃ x : ByteArray, e = .returned (.string x) ∧ x ∈ l ∧ Rd w' rb (p + 1) ∧ w.grownBy w' (some rb) := by
  have hb : Below w.heap.size w (w.alloc (.cells (l.map Value.string).toArray 9)) := (Below.refl _ _).alloc (Nat.le_refl _) _
  refine (of_any rb p w.heap.size l _ (h.below hb) hp hl hl2 (strs_block (heap_alloc_new w _)) (by simp) (by have := h.lt; omega)).mono ?_
  rintro e w' ⟨x, rfl, hx, hr, hg⟩
  exact ⟨x, rfl, hx, hr, grown_trans (grown_below hb) hg⟩
end Go.Proofs.YtkmoekbicbjdmaaDoor.Draw

/- Labels are drawn. -/
namespace Go.Proofs.YtkmoekbicbjdmaaDoor.Draw
open Go.RowKit Rw Lab
set_option linter.unusedVariables false
attribute [local go_sem ↓] Go.wp_at_zero Go.wp_at_succ
/-- what is drawn is small -/
def nobody : ByteArray := ⟨#[110, 111, 98, 111, 100, 121]⟩
def smallL (x : Lab.E) : Prop := x.1.size ≤ 100 ∧ x.2.size ≤ 100 ∧ x.1 ≠ nobody
theorem good_smallL {x : Lab.E} (h : smallL x) : Lab.good x := by
  obtain ⟨h1, h2, -⟩ := h
  exact ⟨by unfold maxLen; omega, by unfold maxLen; omega⟩
theorem flat_snocL (L : List Lab.E) (x : Lab.E) : Lab.flat (L ++ [x]) = Lab.flat L ++ Lab.fl x := by unfold Lab.flat; rw [flatOf_append, flatOf_one]
theorem small_snocL {L : List Lab.E} {x : Lab.E} (h : ∀ y ∈ L, smallL y) (hx : smallL x) : ∀ y ∈ L ++ [x], smallL y := by
  intro y hy
  rw [List.mem_append, List.mem_singleton] at hy
  rcases hy with hy | rfl
  · exact h y hy
  · exact hx
theorem strs_grown {w w' : World} {g : Nat} {l : List ByteArray} {row : Option Nat} (h : Strs w g l) (hg : w.grownBy w' row) (hl : g < w.heap.size) (hr : ∀ k, row = some k → k ≠ g) : Strs w' g l := fun i hi =>
  (World.cell?_of_block (a := ⟨g, i, none⟩) (hg.block g hl (fun e => hr g e.symm rfl))).trans (h i hi)
def names3 : List ByteArray := [⟨#[97, 112, 112]⟩, ⟨#[104, 111, 115, 116]⟩, ⟨#[122, 111, 110, 101]⟩]
/-- labels drawn so far; the names lie beside them, in block nb -/
def LS (w wr : World) (rb nb p : Nat) (ov : Value) (L : List Lab.E) : Prop :=
  (∀ x ∈ L, smallL x) ∧ wr.ownsRow w.heap.size 47 2 ov L.length (Lab.flat L) ∧ (∀ k, ov.ownBlock = some k → k ≠ nb) ∧ Strs wr nb names3 ∧ (nb < wr.heap.size ∧ w.heap.size ≤ nb) ∧ Rd wr rb p ∧ w.grownBy wr (some rb) ∧ rb < w.heap.size
theorem LS.pick {w wr w' : World} {rb nb p p' : Nat} {ov : Value} {L : List Lab.E} (h : LS w wr rb nb p ov L) (hr : Rd w' rb p') (hg : wr.grownBy w' (some rb)) : LS w w' rb nb p' ov L := by
  obtain ⟨h1, h2, h3, h4, ⟨h5, h6⟩, h7, h8, h9⟩ := h
  exact ⟨h1, own_kept h2 hg h9, h3, strs_grown h4 hg h5 (fun k hk => by have := Option.some.inj hk; omega), ⟨Nat.lt_of_lt_of_le h5 hg.size, h6⟩, hr, grown_trans h8 hg, h9⟩
theorem LS.app {w wr w9 : World} {rb nb p : Nat} {ov vn : Value} {L : List Lab.E} {x : Lab.E} {c : Array Value} {n : Nat} {xs : List Value} (h : LS w wr rb nb p ov L) (hx : smallL x) (hn : n = L.length + 1) (hxs : xs = Lab.flat L ++ Lab.fl x)
    (on : w9.ownsRow w.heap.size 47 2 vn n xs) (gn : (wr.alloc (.cells c 47)).grownBy w9 ov.ownBlock) (an : vn.ownBlock = ov.ownBlock ∨ vn.ownBlock = some (wr.alloc (.cells c 47)).heap.size) : LS w w9 rb nb p vn (L ++ [x]) := by
  obtain ⟨h1, h2, h3, h4, ⟨h5, h6⟩, h7, h8, h9⟩ := h
  have ge := own_ge h2
  have hb : Below wr.heap.size wr (wr.alloc (.cells c 47)) := (Below.refl _ _).alloc (Nat.le_refl _) _
  have hs : (wr.alloc (.cells c 47)).heap.size = wr.heap.size + 1 := by simp
  refine ⟨small_snocL h1 hx, ?_, ?_, ?_, ⟨?_, h6⟩, ?_, ?_, h9⟩
  · rw [List.length_append, flat_snocL, ← hxs]; rw [hn] at on; exact on
  · intro k hk e
    rcases an with an | an
    · exact h3 k (an.symm.trans hk) e
    · rw [hk] at an
      have := Option.some.inj an
      omega
  · exact strs_grown (strs_grown (row := some rb) h4 (grown_below hb) h5 (fun k hk => by have := Option.some.inj hk; omega)) gn (by rw [hs]; omega) h3
  · have := gn.size; omega
  · exact (h7.below hb).grown gn (fun k hk => by have := ge k hk; omega)
  · exact grown_other (grown_trans h8 (grown_below hb)) gn ge
set_option maxRecDepth 100000 in
set_option maxHeartbeats 4000000 in
theorem labels_any (rb p : Nat) (w : World) (h : Rd w rb p) (hp : p ≤ 700000) :
    Calls Tryd.prog 43 #[.pointer (some ⟨rb, 0, none⟩)] w fun e w' => ∃ (zs : List Lab.E) (v : Value), e = .returned v ∧ 0 < zs.length ∧ zs.length ≤ 3 ∧ (∀ x ∈ zs, smallL x) ∧ w'.ownsRow w.heap.size 47 2 v zs.length (Lab.flat zs) ∧ (∃ p', p' ≤ p + 10 ∧ Rd w' rb p') ∧ w.grownBy w' (some rb) := by
  obtain ⟨i0, hi, hz0, hz1, hz2⟩ := info_parts Lab.info_e
  have hrl := h.lt
  have hmx : 1 ≤ maxLen := by unfold maxLen; omega
  have hb1 : Below w.heap.size w (w.alloc (.cells #[] 47)) := (Below.refl _ _).alloc (Nat.le_refl _) _
  have hb2 : Below (w.alloc (.cells #[] 47)).heap.size (w.alloc (.cells #[] 47)) ((w.alloc (.cells #[] 47)).alloc (.cells (names3.map Value.string).toArray 9)) := (Below.refl _ _).alloc (Nat.le_refl _) _
  have S0 := hide (show LS w ((w.alloc (.cells #[] 47)).alloc (.cells (names3.map Value.string).toArray 9)) rb (w.alloc (.cells #[] 47)).heap.size p (.slice (some ⟨w.heap.size, 0, none⟩) 0 0) [] from
    ⟨by simp, (own_empty (w := w) (base := w.heap.size) (e := 47) (size := 2) (Nat.le_refl _)).alloc _, fun k hk => by have := Option.some.inj hk; simp at this ⊢; omega, strs_block (heap_alloc_new _ _), ⟨by simp, by simp⟩, (h.below hb1).below hb2, grown_trans (grown_below hb1) (grown_below hb2), hrl⟩)
  clear h hb1 hb2
  go_enter Tryd.func43, Tryd.ntmps43
  go_wp2_with fail
  go_loopw [3, 9] (fun ov iv wr => ∃ (i : Nat) (L : List Lab.E) (p' : Nat), iv = .int .i64 (i : Int) ∧ i ≤ 3 ∧ L.length ≤ i ∧ p' ≤ p + 3 * i ∧ LS w wr rb (w.heap.size + 1) p' ov L) (fun _ iv _ => 3 - (intOf iv).toNat)
  case atStart => exact ⟨0, [], p, rfl, by omega, by simp, by omega, by simpa [names3] using unhide S0⟩
  case round =>
    clear S0
    obtain ⟨i, L, p', rfl, hi3, hL, hp', hS⟩ := hrel
    by_cases h3 : i < 3
    · rcases (show i = 0 ∨ i = 1 ∨ i = 2 from by omega) with rfl | rfl | rfl
      · have hc : wr.cell? ⟨w.heap.size + 1, 0, none⟩ = some (.string ⟨#[97, 112, 112]⟩) := hS.2.2.2.1 0 (by decide)
        have HS := hide hS
        clear hS
        go_wp2_with fail
        refine (pick_any rb p' _ _ (unhide HS).2.2.2.2.2.1 (by omega) (by omega)).mono ?_
        rintro e w1 ⟨x, rfl, x0, x1, -, r1, g1⟩
        have HS1 := hide ((unhide HS).pick r1 g1)
        clear HS hc r1 g1 x1
        by_cases hx : x = 0
        · subst hx
          go_wp2_with fail
          have hof := of_new rb (p' + 1) [⟨#[97]⟩, ⟨#[97, 98]⟩, ⟨#[98]⟩, ⟨#[97]⟩, ⟨#[97]⟩] _ (unhide HS1).2.2.2.2.2.1 (by omega) (by simp) (by simp)
          simp only [List.map_cons, List.map_nil, List.length_cons, List.length_nil, Nat.zero_add, Nat.reduceAdd] at hof
          refine hof.mono ?_
          clear hof
          rintro e w3 ⟨B, rfl, hB, r3, g3⟩
          have B0 := hide (show B.size ≤ 100 by
            simp only [List.mem_cons, List.not_mem_nil, or_false] at hB
            rcases hB with rfl | rfl | rfl | rfl | rfl <;> decide)
          have HT := hide ((unhide HS1).pick r3 g3)
          clear HS1 r3 g3 hB
          go_wp2_with (at_builtin; refine app_wp _ rfl _ _ _ rfl w.heap.size 47 i0 _ 2 32 Tryd.underlying23 hi hz0 hz1 hz2 rfl (by omega) _ L.length _ rfl ((unhide HT).2.1.alloc _) _ 1 [.string ⟨#[97, 112, 112]⟩, .string B] rfl (lies_new rfl rfl hmx) (by simp [Value.oneCell']) (by unfold maxLen; omega) (by omega) (by have := (unhide HT).2.2.2.2.1; simp; omega) ?_; intro vn w9 on gn an)
          have HU := hide ((unhide HT).app (x := (⟨#[97, 112, 112]⟩, B)) ⟨by show ByteArray.size ⟨#[97, 112, 112]⟩ ≤ 100; decide, unhide B0, by show (⟨#[97, 112, 112]⟩ : ByteArray) ≠ nobody; decide⟩ rfl rfl on gn an)
          clear on gn an HT
          go_wp2_with fail
          go_roundw
          case rel => exact ⟨1, L ++ [(⟨#[97, 112, 112]⟩, B)], p' + 1 + 1, by go_num, by omega, by rw [List.length_append]; exact Nat.add_le_add_right hL 1, by omega, unhide HU⟩
          case measure => simp [intOf]
        · have hxf : (x == 0) = false := by simpa using hx
          go_wp2_with fail
          refine (pick_any rb (p' + 1) _ _ (unhide HS1).2.2.2.2.2.1 (by omega) (by omega)).mono ?_
          rintro e w2 ⟨y, rfl, y0, y1, -, r2, g2⟩
          have HS2 := hide ((unhide HS1).pick r2 g2)
          clear HS1 r2 g2 y1
          by_cases hy : 0 < y
          · go_wp2_with fail
            have hof := of_new rb (p' + 1 + 1) [⟨#[97]⟩, ⟨#[97, 98]⟩, ⟨#[98]⟩, ⟨#[97]⟩, ⟨#[97]⟩] _ (unhide HS2).2.2.2.2.2.1 (by omega) (by simp) (by simp)
            simp only [List.map_cons, List.map_nil, List.length_cons, List.length_nil, Nat.zero_add, Nat.reduceAdd] at hof
            refine hof.mono ?_
            clear hof
            rintro e w3 ⟨B, rfl, hB, r3, g3⟩
            have B0 := hide (show B.size ≤ 100 by
              simp only [List.mem_cons, List.not_mem_nil, or_false] at hB
              rcases hB with rfl | rfl | rfl | rfl | rfl <;> decide)
            have HT := hide ((unhide HS2).pick r3 g3)
            clear HS2 r3 g3 hB
            go_wp2_with (at_builtin; refine app_wp _ rfl _ _ _ rfl w.heap.size 47 i0 _ 2 32 Tryd.underlying23 hi hz0 hz1 hz2 rfl (by omega) _ L.length _ rfl ((unhide HT).2.1.alloc _) _ 1 [.string ⟨#[97, 112, 112]⟩, .string B] rfl (lies_new rfl rfl hmx) (by simp [Value.oneCell']) (by unfold maxLen; omega) (by omega) (by have := (unhide HT).2.2.2.2.1; simp; omega) ?_; intro vn w9 on gn an)
            have HU := hide ((unhide HT).app (x := (⟨#[97, 112, 112]⟩, B)) ⟨by show ByteArray.size ⟨#[97, 112, 112]⟩ ≤ 100; decide, unhide B0, by show (⟨#[97, 112, 112]⟩ : ByteArray) ≠ nobody; decide⟩ rfl rfl on gn an)
            clear on gn an HT
            go_wp2_with fail
            go_roundw
            case rel => exact ⟨1, L ++ [(⟨#[97, 112, 112]⟩, B)], p' + 1 + 1 + 1, by go_num, by omega, by rw [List.length_append]; exact Nat.add_le_add_right hL 1, by omega, unhide HU⟩
            case measure => simp [intOf]
          · have hyf : decide (0 < y) = false := by simpa using hy
            go_wp2_with fail
            go_roundw
            case rel => exact ⟨1, L, p' + 1 + 1, by go_num, by omega, by omega, by omega, unhide HS2⟩
            case measure => simp [intOf]
      · have hc : wr.cell? ⟨w.heap.size + 1, 1, none⟩ = some (.string ⟨#[104, 111, 115, 116]⟩) := hS.2.2.2.1 1 (by decide)
        have HS := hide hS
        clear hS
        go_wp2_with fail
        refine (pick_any rb p' _ _ (unhide HS).2.2.2.2.2.1 (by omega) (by omega)).mono ?_
        rintro e w1 ⟨x, rfl, x0, x1, -, r1, g1⟩
        have HS1 := hide ((unhide HS).pick r1 g1)
        clear HS hc r1 g1 x1
        by_cases hx : x = 0
        · subst hx
          go_wp2_with fail
          have hof := of_new rb (p' + 1) [⟨#[97]⟩, ⟨#[97, 98]⟩, ⟨#[98]⟩, ⟨#[97]⟩, ⟨#[97]⟩] _ (unhide HS1).2.2.2.2.2.1 (by omega) (by simp) (by simp)
          simp only [List.map_cons, List.map_nil, List.length_cons, List.length_nil, Nat.zero_add, Nat.reduceAdd] at hof
          refine hof.mono ?_
          clear hof
          rintro e w3 ⟨B, rfl, hB, r3, g3⟩
          have B0 := hide (show B.size ≤ 100 by
            simp only [List.mem_cons, List.not_mem_nil, or_false] at hB
            rcases hB with rfl | rfl | rfl | rfl | rfl <;> decide)
          have HT := hide ((unhide HS1).pick r3 g3)
          clear HS1 r3 g3 hB
          go_wp2_with (at_builtin; refine app_wp _ rfl _ _ _ rfl w.heap.size 47 i0 _ 2 32 Tryd.underlying23 hi hz0 hz1 hz2 rfl (by omega) _ L.length _ rfl ((unhide HT).2.1.alloc _) _ 1 [.string ⟨#[104, 111, 115, 116]⟩, .string B] rfl (lies_new rfl rfl hmx) (by simp [Value.oneCell']) (by unfold maxLen; omega) (by omega) (by have := (unhide HT).2.2.2.2.1; simp; omega) ?_; intro vn w9 on gn an)
          have HU := hide ((unhide HT).app (x := (⟨#[104, 111, 115, 116]⟩, B)) ⟨by show ByteArray.size ⟨#[104, 111, 115, 116]⟩ ≤ 100; decide, unhide B0, by show (⟨#[104, 111, 115, 116]⟩ : ByteArray) ≠ nobody; decide⟩ rfl rfl on gn an)
          clear on gn an HT
          go_wp2_with fail
          go_roundw
          case rel => exact ⟨2, L ++ [(⟨#[104, 111, 115, 116]⟩, B)], p' + 1 + 1, by go_num, by omega, by rw [List.length_append]; exact Nat.add_le_add_right hL 1, by omega, unhide HU⟩
          case measure => simp [intOf]
        · have hxf : (x == 0) = false := by simpa using hx
          go_wp2_with fail
          go_roundw
          case rel => exact ⟨2, L, p' + 1, by go_num, by omega, by omega, by omega, unhide HS1⟩
          case measure => simp [intOf]
      · have hc : wr.cell? ⟨w.heap.size + 1, 2, none⟩ = some (.string ⟨#[122, 111, 110, 101]⟩) := hS.2.2.2.1 2 (by decide)
        have HS := hide hS
        clear hS
        go_wp2_with fail
        refine (pick_any rb p' _ _ (unhide HS).2.2.2.2.2.1 (by omega) (by omega)).mono ?_
        rintro e w1 ⟨x, rfl, x0, x1, -, r1, g1⟩
        have HS1 := hide ((unhide HS).pick r1 g1)
        clear HS hc r1 g1 x1
        by_cases hx : x = 0
        · subst hx
          go_wp2_with fail
          have hof := of_new rb (p' + 1) [⟨#[97]⟩, ⟨#[97, 98]⟩, ⟨#[98]⟩, ⟨#[97]⟩, ⟨#[97]⟩] _ (unhide HS1).2.2.2.2.2.1 (by omega) (by simp) (by simp)
          simp only [List.map_cons, List.map_nil, List.length_cons, List.length_nil, Nat.zero_add, Nat.reduceAdd] at hof
          refine hof.mono ?_
          clear hof
          rintro e w3 ⟨B, rfl, hB, r3, g3⟩
          have B0 := hide (show B.size ≤ 100 by
            simp only [List.mem_cons, List.not_mem_nil, or_false] at hB
            rcases hB with rfl | rfl | rfl | rfl | rfl <;> decide)
          have HT := hide ((unhide HS1).pick r3 g3)
          clear HS1 r3 g3 hB
          go_wp2_with (at_builtin; refine app_wp _ rfl _ _ _ rfl w.heap.size 47 i0 _ 2 32 Tryd.underlying23 hi hz0 hz1 hz2 rfl (by omega) _ L.length _ rfl ((unhide HT).2.1.alloc _) _ 1 [.string ⟨#[122, 111, 110, 101]⟩, .string B] rfl (lies_new rfl rfl hmx) (by simp [Value.oneCell']) (by unfold maxLen; omega) (by omega) (by have := (unhide HT).2.2.2.2.1; simp; omega) ?_; intro vn w9 on gn an)
          have HU := hide ((unhide HT).app (x := (⟨#[122, 111, 110, 101]⟩, B)) ⟨by show ByteArray.size ⟨#[122, 111, 110, 101]⟩ ≤ 100; decide, unhide B0, by show (⟨#[122, 111, 110, 101]⟩ : ByteArray) ≠ nobody; decide⟩ rfl rfl on gn an)
          clear on gn an HT
          go_wp2_with fail
          go_roundw
          case rel => exact ⟨3, L ++ [(⟨#[122, 111, 110, 101]⟩, B)], p' + 1 + 1, by go_num, by omega, by rw [List.length_append]; exact Nat.add_le_add_right hL 1, by omega, unhide HU⟩
          case measure => simp [intOf]
        · have hxf : (x == 0) = false := by simpa using hx
          go_wp2_with fail
          go_roundw
          case rel => exact ⟨3, L, p' + 1, by go_num, by omega, by omega, by omega, unhide HS1⟩
          case measure => simp [intOf]
    · obtain rfl : i = 3 := by omega
      obtain ⟨-, am, cm, rfl, -⟩ := lies_of_own hS.2.1
      have HS := hide hS
      clear hS
      by_cases hl0 : L.length = 0
      · have hz : ((L.length : Int) == 0) = true := by simp [hl0]
        go_wp2_with (at_builtin; refine app_wp _ rfl _ _ _ rfl w.heap.size 47 i0 _ 2 32 Tryd.underlying23 hi hz0 hz1 hz2 rfl (by omega) _ L.length _ rfl ((unhide HS).2.1.alloc _) _ 1 [.string ⟨#[106, 111, 98]⟩, .string ⟨#[120]⟩] rfl (lies_new rfl rfl hmx) (by simp [Value.oneCell']) (by unfold maxLen; omega) (by omega) (by have := (unhide HS).2.2.2.2.1; simp; omega) ?_; intro vn w9 on gn an)
        have HU := hide ((unhide HS).app (x := (⟨#[106, 111, 98]⟩, ⟨#[120]⟩)) ⟨by show ByteArray.size ⟨#[106, 111, 98]⟩ ≤ 100; decide, by show ByteArray.size ⟨#[120]⟩ ≤ 100; decide, by show (⟨#[106, 111, 98]⟩ : ByteArray) ≠ nobody; decide⟩ rfl rfl on gn an)
        clear on gn an HS
        go_wp2_with fail
        go_ret
        obtain ⟨h1, h2, -, -, -, h7, h8, -⟩ := unhide HU
        exact ⟨_, _, rfl, by rw [List.length_append]; exact Nat.succ_pos _, by rw [List.length_append, hl0]; decide, h1, h2, ⟨p', by omega, h7⟩, h8⟩
      · have hz : ((L.length : Int) == 0) = false := beq_false_of_ne (by omega)
        go_wp2_with fail
        go_ret
        obtain ⟨h1, h2, -, -, -, h7, h8, -⟩ := unhide HS
        exact ⟨_, _, rfl, by omega, by omega, h1, h2, ⟨p', by omega, h7⟩, h8⟩
end Go.Proofs.YtkmoekbicbjdmaaDoor.Draw

/- A letter, some times over. -/
namespace Go.Proofs.YtkmoekbicbjdmaaDoor.Draw
open Go.RowKit Rw
set_option linter.unusedVariables false
attribute [local go_sem ↓] Go.wp_at_zero Go.wp_at_succ
set_option maxRecDepth 100000 in
set_option maxHeartbeats 1000000 in
theorem many_any (n : Nat) (w : World) (hn : n ≤ 4) : Calls Tryd.prog 57 #[.string ⟨#[122]⟩, .int .i64 (n : Int)] w fun e w' => ∃ B : ByteArray, e = .returned (.string B) ∧ B.size ≤ 50 ∧ w' = w := by
  go_enter Tryd.func57, Tryd.ntmps57
  go_wp2
  go_loop [0, 1, 5] (fun sv nv ov => ∃ (s o : ByteArray) (k : Nat), sv = .string s ∧ ov = .string o ∧ nv = .int .i64 (k : Int) ∧ k ≤ 4 ∧ (k = 4 → s.size ≤ 2 ∧ o.size ≤ 2) ∧ (2 ≤ k → s.size ≤ 4 ∧ o.size ≤ 4) ∧ (1 ≤ k → s.size ≤ 8 ∧ o.size ≤ 8) ∧ s.size ≤ 16 ∧ o.size ≤ 16) (fun _ nv _ => (intOf nv).toNat)
  case atStart => exact ⟨⟨#[122]⟩, ⟨#[]⟩, n, rfl, rfl, rfl, hn, fun _ => by decide, fun _ => by decide, fun _ => by decide, by decide, by decide⟩
  case round =>
    obtain ⟨s, o, k, rfl, rfl, rfl, hk, h4, h2, h1, hs, ho⟩ := hrel
    rcases (show k = 0 ∨ k = 1 ∨ k = 2 ∨ k = 3 ∨ k = 4 from by omega) with rfl | rfl | rfl | rfl | rfl
    · clear h4 h2 h1
      go_wp2
      go_ret
      exact ⟨o, rfl, by omega, rfl⟩
    · have e1 := ByteArray.size_append (a := s) (b := s)
      have e2 := ByteArray.size_append (a := o) (b := s)
      have E := hide (And.intro e1 (And.intro e2 (And.intro h4 (And.intro h2 h1))))
      clear e1 e2 h4 h2 h1
      go_wp2
      obtain ⟨e1, e2, h4, h2, h1⟩ := unhide E
      exact ⟨⟨s ++ s, o ++ s, 0, rfl, rfl, rfl, by omega, fun _ => by omega, fun _ => by omega, fun _ => by omega, by omega, by omega⟩, by simp [intOf]⟩
    · have e1 := ByteArray.size_append (a := s) (b := s)
      have e2 := ByteArray.size_append (a := o) (b := s)
      have E := hide (And.intro e1 (And.intro e2 (And.intro h4 (And.intro h2 h1))))
      clear e1 e2 h4 h2 h1
      go_wp2
      obtain ⟨e1, e2, h4, h2, h1⟩ := unhide E
      exact ⟨⟨s ++ s, o, 1, rfl, rfl, rfl, by omega, fun _ => by omega, fun _ => by omega, fun _ => by omega, by omega, by omega⟩, by simp [intOf]⟩
    · have e1 := ByteArray.size_append (a := s) (b := s)
      have e2 := ByteArray.size_append (a := o) (b := s)
      have E := hide (And.intro e1 (And.intro e2 (And.intro h4 (And.intro h2 h1))))
      clear e1 e2 h4 h2 h1
      go_wp2
      obtain ⟨e1, e2, h4, h2, h1⟩ := unhide E
      exact ⟨⟨s ++ s, o ++ s, 1, rfl, rfl, rfl, by omega, fun _ => by omega, fun _ => by omega, fun _ => by omega, by omega, by omega⟩, by simp [intOf]⟩
    · have e1 := ByteArray.size_append (a := s) (b := s)
      have e2 := ByteArray.size_append (a := o) (b := s)
      have E := hide (And.intro e1 (And.intro e2 (And.intro h4 (And.intro h2 h1))))
      clear e1 e2 h4 h2 h1
      go_wp2
      obtain ⟨e1, e2, h4, h2, h1⟩ := unhide E
      exact ⟨⟨s ++ s, o, 2, rfl, rfl, rfl, by omega, fun _ => by omega, fun _ => by omega, fun _ => by omega, by omega, by omega⟩, by simp [intOf]⟩
end Go.Proofs.YtkmoekbicbjdmaaDoor.Draw

/- Labels are drawn, also such as are none. -/
namespace Go.Proofs.YtkmoekbicbjdmaaDoor.Draw
open Go.RowKit Rw Lab
set_option linter.unusedVariables false
attribute [local go_sem ↓] Go.wp_at_zero Go.wp_at_succ
def slenL : Value → Nat
  | .slice _ n _ => n
  | _ => 0
theorem flat_setA (zs : List Lab.E) (k : Nat) (h : k < zs.length) (A : ByteArray) : Lab.flat (zs.set k (A, (at' zs k).2)) = (Lab.flat zs).set (k * 2) (.string A) := by
  induction zs generalizing k with
  | nil => simp at h
  | cons z zs ih =>
    rcases k with _ | k
    · simp [flatOf, fl, at']
    · have := ih k (by simpa using h)
      have e : (k + 1) * 2 = k * 2 + 1 + 1 := by omega
      have e2 : at' (z :: zs) (k + 1) = at' zs k := by simp [at']
      simp only [Lab.flat, flatOf, fl, List.set_cons_succ, List.flatMap_cons, List.cons_append, List.nil_append, e, e2] at this ⊢
      rw [this]
theorem flat_setB (zs : List Lab.E) (k : Nat) (h : k < zs.length) (B : ByteArray) : Lab.flat (zs.set k ((at' zs k).1, B)) = (Lab.flat zs).set (k * 2 + 1) (.string B) := by
  induction zs generalizing k with
  | nil => simp at h
  | cons z zs ih =>
    rcases k with _ | k
    · simp [flatOf, fl, at']
    · have := ih k (by simpa using h)
      have e : (k + 1) * 2 + 1 = k * 2 + 1 + 1 + 1 := by omega
      have e2 : at' (z :: zs) (k + 1) = at' zs k := by simp [at']
      simp only [Lab.flat, flatOf, fl, List.set_cons_succ, List.flatMap_cons, List.cons_append, List.nil_append, e, e2] at this ⊢
      rw [this]
theorem z_nobody (B : ByteArray) : (⟨#[122]⟩ : ByteArray) ++ B ≠ nobody := by
  intro e
  have := congrArg (fun x : ByteArray => x.data.toList.head?) e
  simp [nobody, ByteArray.data_append] at this
theorem small_set {L : List Lab.E} {k : Nat} {x : Lab.E} (h : ∀ y ∈ L, smallL y) (hx : smallL x) : ∀ y ∈ L.set k x, smallL y := by
  intro y hy
  rcases List.mem_or_eq_of_mem_set hy with hy | rfl
  · exact h y hy
  · exact hx
theorem small_at {L : List Lab.E} {k : Nat} (h : ∀ y ∈ L, smallL y) (hk : k < L.length) : smallL (at' L k) := by
  rw [at_get L k hk]; exact h _ (List.getElem_mem _)
set_option maxRecDepth 100000 in
set_option maxHeartbeats 4000000 in
theorem anylabels_any (rb p : Nat) (w : World) (h : Rd w rb p) (hp : p ≤ 700000) :
    Calls Tryd.prog 31 #[.pointer (some ⟨rb, 0, none⟩)] w fun e w' => ∃ (zs : List Lab.E) (v : Value), e = .returned v ∧ zs.length ≤ 20 ∧ (∀ x ∈ zs, smallL x) ∧ w'.ownsRow w.heap.size 47 2 v zs.length (Lab.flat zs) ∧ (∃ p', p' ≤ p + 100 ∧ Rd w' rb p') ∧ w.grownBy w' (some rb) := by
  obtain ⟨i0, hi, hz0, hz1, hz2⟩ := info_parts Lab.info_e
  have hrl := h.lt
  have hmx : 1 ≤ maxLen := by unfold maxLen; omega
  have HR := hide h
  clear h
  go_enter Tryd.func31, Tryd.ntmps31
  go_wp2_with fail
  refine (labels_any rb p _ (unhide HR) (by omega)).mono ?_
  rintro e w1 ⟨L, v, rfl, hL0, hL, hsm, o1, ⟨p1, hp1, r1⟩, q1⟩
  obtain ⟨g, cp, rfl⟩ : ∃ g cp, v = .slice (some ⟨g, 0, none⟩) L.length cp := by
    rcases o1.2 with ⟨-, h0⟩ | ⟨g, cp, cur, hv, -⟩
    · omega
    · exact ⟨g, cp, hv⟩
  obtain ⟨n, hn⟩ : ∃ n, n = L.length := ⟨_, rfl⟩
  rw [← hn] at hL hL0 o1 ⊢
  have HN := hide hn
  have HM := hide hsm
  clear HR hsm hn
  go_wp2_with fail
  refine (pick_any rb p1 _ _ r1 (by omega) (by omega)).mono ?_
  rintro e w2 ⟨kk, rfl, k0, k1, -, r2, g2⟩
  have k2 : kk < (n : Int) := k1 (by omega)
  obtain ⟨k, rfl⟩ := Int.eq_ofNat_of_zero_le k0
  have o2 := own_kept o1 g2 hrl
  have q2 := grown_trans q1 g2
  clear o1 q1 r1 g2 k1
  go_wp2_with fail
  refine (pick_any rb (p1 + 1) _ _ r2 (by omega) (by omega)).mono ?_
  rintro e w4 ⟨c, rfl, c0, -, -, r4, g4⟩
  have o4 := own_kept o2 g4 hrl
  have q4 := grown_trans q2 g4
  have hsz4 := q4.size
  clear o2 q2 r2 g4
  have hkl : k < L.length := by have := unhide HN; omega
  have hk0 : (0 : Int) ≤ (k : Int) := Int.natCast_nonneg _
  have hk1 : (k : Int) < (n : Int) := by omega
  rcases (show c = 0 ∨ c = 1 ∨ c = 2 ∨ c = 3 ∨ (c ≠ 0 ∧ c ≠ 1 ∧ c ≠ 2 ∧ c ≠ 3) from by omega) with rfl | rfl | rfl | rfl | ⟨e0, e1, e2, e3⟩
  · go_wp2_with fail
    have hof := of_new rb (p1 + 1 + 1) [⟨#[]⟩, ⟨#[65]⟩, ⟨#[116, 111, 111, 108, 111, 110, 103]⟩, ⟨#[122, 122]⟩] _ r4 (by omega) (by simp) (by simp)
    simp only [List.map_cons, List.map_nil, List.length_cons, List.length_nil, Nat.zero_add, Nat.reduceAdd] at hof
    refine hof.mono ?_
    clear hof
    rintro e w5 ⟨x, rfl, hx, r5, g5⟩
    have X0 := hide (show x.size ≤ 100 ∧ x ≠ nobody by
      simp only [List.mem_cons, List.not_mem_nil, or_false] at hx
      rcases hx with rfl | rfl | rfl | rfl <;> decide)
    have o5 := own_kept o4 g5 hrl
    have q5 := grown_trans q4 g5
    have u0 := o5.cellAt (k * 2) (by omega)
    have u1 := o5.cellAt (k * 2 + 1) (by omega)
    rw [(flat_at L k hkl).1] at u0
    rw [(flat_at L k hkl).2] at u1
    have f0 := o5.frozenAt (k * 2)
    have f1 := o5.frozenAt (k * 2 + 1)
    clear o4 q4 r4 g5 hx
    have hge : w.heap.size ≤ g := own_ge o5 g rfl
    have O := hide (show (w5.setCell ⟨g, k * 2, none⟩ (.string x)).ownsRow w.heap.size 47 2 (.slice (some ⟨g, 0, none⟩) n cp) n (Lab.flat (L.set k (x, (at' L k).2))) by
      rw [flat_setA L k hkl x]
      exact (o5.stored (k * 2) (.string x)).1)
    have gS := grown_only ((OnlyAt.refl g w5).setCell (k * 2) (.string x))
    have Q := grown_other q5 gS (fun j hj => by cases hj; exact hge)
    have R := r5.grown gS (fun j hj => by cases hj; omega)
    have HL := hide (show (L.set k (x, (at' L k).2)).length = n by rw [List.length_set, ← unhide HN])
    have HW := hide (show ∀ y ∈ L.set k (x, (at' L k).2), smallL y from small_set (unhide HM) ⟨(unhide X0).1, (small_at (unhide HM) hkl).2.1, (unhide X0).2⟩)
    clear o5 gS
    generalize L.set k (x, (at' L k).2) = M at O HL HW
    go_wp2_with fail
    go_ret
    exact ⟨M, _, rfl, by rw [unhide HL]; omega, unhide HW, by rw [unhide HL]; exact unhide O, ⟨p1 + 1 + 1 + 1, by omega, R⟩, Q⟩
  · go_wp2_with fail
    have hof := of_new rb (p1 + 1 + 1) [⟨#[]⟩, ⟨#[120, 49]⟩, ⟨#[110, 105, 110, 101, 99, 104, 97, 114, 115]⟩, ⟨#[101, 105, 103, 104, 116, 99, 104, 114]⟩] _ r4 (by omega) (by simp) (by simp)
    simp only [List.map_cons, List.map_nil, List.length_cons, List.length_nil, Nat.zero_add, Nat.reduceAdd] at hof
    refine hof.mono ?_
    clear hof
    rintro e w5 ⟨x, rfl, hx, r5, g5⟩
    have X0 := hide (show x.size ≤ 100 ∧ x ≠ nobody by
      simp only [List.mem_cons, List.not_mem_nil, or_false] at hx
      rcases hx with rfl | rfl | rfl | rfl <;> decide)
    have o5 := own_kept o4 g5 hrl
    have q5 := grown_trans q4 g5
    have u0 := o5.cellAt (k * 2) (by omega)
    have u1 := o5.cellAt (k * 2 + 1) (by omega)
    rw [(flat_at L k hkl).1] at u0
    rw [(flat_at L k hkl).2] at u1
    have f0 := o5.frozenAt (k * 2)
    have f1 := o5.frozenAt (k * 2 + 1)
    clear o4 q4 r4 g5 hx
    have hge : w.heap.size ≤ g := own_ge o5 g rfl
    have O := hide (show (w5.setCell ⟨g, k * 2 + 1, none⟩ (.string x)).ownsRow w.heap.size 47 2 (.slice (some ⟨g, 0, none⟩) n cp) n (Lab.flat (L.set k ((at' L k).1, x))) by
      rw [flat_setB L k hkl x]
      exact (o5.stored (k * 2 + 1) (.string x)).1)
    have gS := grown_only ((OnlyAt.refl g w5).setCell (k * 2 + 1) (.string x))
    have Q := grown_other q5 gS (fun j hj => by cases hj; exact hge)
    have R := r5.grown gS (fun j hj => by cases hj; omega)
    have HL := hide (show (L.set k ((at' L k).1, x)).length = n by rw [List.length_set, ← unhide HN])
    have HW := hide (show ∀ y ∈ L.set k ((at' L k).1, x), smallL y from small_set (unhide HM) ⟨(small_at (unhide HM) hkl).1, (unhide X0).1, (small_at (unhide HM) hkl).2.2⟩)
    clear o5 gS
    generalize L.set k ((at' L k).1, x) = M at O HL HW
    go_wp2_with fail
    go_ret
    exact ⟨M, _, rfl, by rw [unhide HL]; omega, unhide HW, by rw [unhide HL]; exact unhide O, ⟨p1 + 1 + 1 + 1, by omega, R⟩, Q⟩
  · clear o4
    have hb : Below w4.heap.size w4 (w4.alloc (.cells #[] 47)) := (Below.refl _ _).alloc (Nat.le_refl _) _
    go_wp2_with fail
    go_ret
    exact ⟨[], _, rfl, by simp, by simp, own_empty hsz4, ⟨p1 + 1 + 1, by omega, r4.below hb⟩, grown_trans q4 (grown_below hb)⟩
  · go_wp2_with fail
    go_loopw [3] (fun ov wr => ∃ (M : List Lab.E) (p2 : Nat) (am : Option Addr) (cm : Nat), ov = .slice am M.length cm ∧ M.length ≤ 10 ∧ p2 ≤ p + 20 + M.length ∧ (∀ x ∈ M, smallL x) ∧ wr.ownsRow w.heap.size 47 2 ov M.length (Lab.flat M) ∧ Rd wr rb p2 ∧ w.grownBy wr (some rb)) (fun ov _ => 100 - slenL ov)
    case atStart => exact ⟨L, p1 + 1 + 1, _, cp, by rw [← unhide HN], by rw [← unhide HN]; omega, by omega, unhide HM, by rw [← unhide HN]; exact o4, r4, q4⟩
    case round =>
      clear o4 r4 q4 hsz4 HM HN hkl
      obtain ⟨M, p2, am, cm, rfl, hM, hp2, hsm, hown, hrd, hg⟩ := hrel
      have HM := hide hsm
      clear hsm
      go_wp2_with fail
      refine (pick_any rb p2 _ _ hrd (by omega) (by omega)).mono ?_
      rintro e w6 ⟨d, rfl, d0, d1, -, r6, g6⟩
      have d2 : d < 2 := d1 (by omega)
      have o6 := own_kept hown g6 hrl
      have q6 := grown_trans hg g6
      have hsz6 := q6.size
      clear hown hg hrd g6 d1
      by_cases hlt : (M.length : Int) < 4 + d
      · have hM2 : M.length ≤ 4 := by omega
        go_wp2_with fail
        refine (many_any M.length w6 hM2).mono ?_
        rintro e w7 ⟨B, rfl, hB, rfl⟩
        have e7 : (⟨#[122]⟩ : ByteArray).size = 1 := rfl
        have B0 := hide (show ((⟨#[122]⟩ : ByteArray) ++ B).size ≤ 100 by rw [ByteArray.size_append, e7]; omega)
        go_wp2_with (at_builtin; refine app_wp _ rfl _ _ _ rfl w.heap.size 47 i0 _ 2 32 Tryd.underlying23 hi hz0 hz1 hz2 rfl (by omega) _ M.length _ rfl (o6.alloc _) _ 1 [.string (⟨#[122]⟩ ++ B), .string ⟨#[119]⟩] rfl (lies_new rfl rfl hmx) (by simp [Value.oneCell']) (by unfold maxLen; omega) (by omega) (by simp; omega) ?_; intro vn w9 on gn an)
        have ge := own_ge o6
        have R : w.grownBy w9 (some rb) := grown_other (grown_trans q6 (grown_below ((Below.refl _ _).alloc (Nat.le_refl _) _))) gn ge
        have R1 : Rd w9 rb (p2 + 1) := (r6.below ((Below.refl _ _).alloc (Nat.le_refl _) _)).grown gn (fun k hk => by have := ge k hk; omega)
        have R2 := hide (show w9.ownsRow w.heap.size 47 2 vn (M ++ [((⟨#[122]⟩ ++ B, ⟨#[119]⟩) : Lab.E)]).length (Lab.flat (M ++ [((⟨#[122]⟩ ++ B, ⟨#[119]⟩) : Lab.E)])) by rw [List.length_append, flat_snocL]; exact on)
        obtain ⟨an', cn, hvn⟩ : ∃ a c, vn = .slice a (M.length + 1) c := by obtain ⟨-, a, c, e, -⟩ := lies_of_own on; exact ⟨a, c, e⟩
        have HS := hide (show slenL vn = M.length + 1 by rw [hvn]; rfl)
        have HV := hide hvn
        clear on gn ge o6 q6 r6 an hvn
        go_wp2_with fail
        go_roundw
        case rel => exact ⟨M ++ [((⟨#[122]⟩ ++ B, ⟨#[119]⟩) : Lab.E)], p2 + 1, an', cn, by rw [unhide HV]; simp, by simp; omega, by simp; omega, small_snocL (x := ((⟨#[122]⟩ ++ B, ⟨#[119]⟩) : Lab.E)) (unhide HM) ⟨unhide B0, by show ByteArray.size ⟨#[119]⟩ ≤ 100; decide, z_nobody B⟩, unhide R2, R1, R⟩
        case measure => show 100 - slenL vn < 100 - M.length; rw [unhide HS]; omega
      · have hlf : decide ((M.length : Int) < 4 + d) = false := by simpa using hlt
        go_wp2_with fail
        go_ret
        exact ⟨M, _, rfl, by omega, unhide HM, o6, ⟨p2 + 1, by omega, r6⟩, q6⟩
  · have f0 : (c == 0) = false := by simpa using e0
    have f1 : (c == 1) = false := by simpa using e1
    have f2 : (c == 2) = false := by simpa using e2
    have f3 : (c == 3) = false := by simpa using e3
    go_wp2_with fail
    go_ret
    exact ⟨L, _, rfl, by rw [← unhide HN]; omega, unhide HM, by rw [← unhide HN]; exact o4, ⟨p1 + 1 + 1, by omega, r4⟩, q4⟩
end Go.Proofs.YtkmoekbicbjdmaaDoor.Draw
