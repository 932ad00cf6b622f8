/- My own texts of one claim, laid together by program: RdOf, DrawLab, LabMath, DrawLabOk. -/
import Derived.Test.YtncjagdnebpaaaaGffb30f2161
import Derived.Shelf.GgClosure.StringsIndexFunc
import Derived.Laws.RangeAny
import Derived.Laws.RangeString
/- A word of some is drawn. -/
namespace Go.Proofs.Ytncjagdnebpaaaa.Draw
open Go.RowKit Rw
set_option linter.unusedVariables false
attribute [local go_sem ↓] Go.wp_at_zero Go.wp_at_succ
/-- words that lie in a block of their own -/
def Strs (w : World) (g : Nat) (l : List ByteArray) : Prop := ∀ i, i < l.length → w.cell? ⟨g, i, none⟩ = some (.string (l.getD i ByteArray.empty))
set_option maxHeartbeats 1000000 in
theorem of_any (rb p g : Nat) (l : List ByteArray) (w : World) (h : Rd w rb p) (hp : p ≤ 1000000) (hl : 0 < l.length) (hl2 : l.length ≤ 1000) (hg : Strs w g l) (hgs : g < w.heap.size) (hne : g ≠ rb) :
    Calls Try.prog 38 #[.pointer (some ⟨rb, 0, none⟩), .slice (some ⟨g, 0, none⟩) l.length l.length] w fun e w' => ∃ x : ByteArray, e = .returned (.string x) ∧ x ∈ l ∧ Rd w' rb (p + 1) ∧ w.grownBy w' (some rb) := by
  obtain ⟨n, hn⟩ : ∃ n, n = l.length := ⟨_, rfl⟩
  rw [← hn]
  have HN := hide hn
  have n1 : 0 < n := by omega
  have n2 : n ≤ 1000 := by omega
  have HP := hide (fun k (hk : k ≤ (4294967296 : Int)) => pick_any rb p k w h hp hk)
  clear h hn hl hl2
  go_enter Try.func38, Try.ntmps38
  go_wp2_with fail
  refine (unhide HP _ (by omega)).mono ?_
  rintro e w1 ⟨x, rfl, x0, x1, -, r1, g1⟩
  have x2 : x < (n : Int) := x1 (by omega)
  obtain ⟨k, rfl⟩ := Int.eq_ofNat_of_zero_le x0
  have hk : k < n := by omega
  have hc : w1.cell? ⟨g, k, none⟩ = some (.string (l.getD k ByteArray.empty)) := (grown_cell g1 hgs hne).trans (hg k (by have := unhide HN; omega))
  have hm := hide (show l.getD k ByteArray.empty ∈ l by
    have hk' : k < l.length := by have := unhide HN; omega
    simp [List.getD, hk'])
  generalize l.getD k ByteArray.empty = X at hc hm
  clear x1
  go_wp2
  go_ret
  exact ⟨X, rfl, unhide hm, r1, g1⟩
theorem strs_block {w : World} {g : Nat} {l : List ByteArray} {t : TypeId} (h : w.heap[g]? = some (.cells (l.map Value.string).toArray t (0, 0))) : Strs w g l := fun i hi => by
  rw [cell_of_row w g i _ _ _ h]
  simp [List.getD, hi]
theorem of_new (rb p : Nat) (l : List ByteArray) (w : World) (h : Rd w rb p) (hp : p ≤ 1000000) (hl : 0 < l.length) (hl2 : l.length ≤ 1000) :
    Calls Try.prog 38 #[.pointer (some ⟨rb, 0, none⟩), .slice (some ⟨w.heap.size, 0, none⟩) l.length l.length] (w.alloc (.cells (l.map Value.string).toArray 9)) fun e w' => ∃ x : ByteArray, e = .returned (.string x) ∧ x ∈ l ∧ Rd w' rb (p + 1) ∧ w.grownBy w' (some rb) := by
  have hb : Below w.heap.size w (w.alloc (.cells (l.map Value.string).toArray 9)) := (Below.refl _ _).alloc (Nat.le_refl _) _
  refine (of_any rb p w.heap.size l _ (h.below hb) hp hl hl2 (strs_block (heap_alloc_new w _)) (by simp) (by have := h.lt; omega)).mono ?_
  rintro e w' ⟨x, rfl, hx, hr, hg⟩
  exact ⟨x, rfl, hx, hr, grown_trans (grown_below hb) hg⟩
end Go.Proofs.Ytncjagdnebpaaaa.Draw

/- Labels are drawn. -/
namespace Go.Proofs.Ytncjagdnebpaaaa.Draw
open Go.RowKit Rw Lab
set_option linter.unusedVariables false
attribute [local go_sem ↓] Go.wp_at_zero Go.wp_at_succ
/-- what is drawn is small -/
def nobody : ByteArray := ⟨#[110, 111, 98, 111, 100, 121]⟩
def smallL (x : Lab.E) : Prop := x.1.size ≤ 100 ∧ x.2.size ≤ 100 ∧ x.1 ≠ nobody
theorem good_smallL {x : Lab.E} (h : smallL x) : Lab.good x := by
  obtain ⟨h1, h2, -⟩ := h
  exact ⟨by unfold maxLen; omega, by unfold maxLen; omega⟩
theorem flat_snocL (L : List Lab.E) (x : Lab.E) : Lab.flat (L ++ [x]) = Lab.flat L ++ Lab.fl x := by unfold Lab.flat; rw [flatOf_append, flatOf_one]
theorem small_snocL {L : List Lab.E} {x : Lab.E} (h : ∀ y ∈ L, smallL y) (hx : smallL x) : ∀ y ∈ L ++ [x], smallL y := by
  intro y hy
  rw [List.mem_append, List.mem_singleton] at hy
  rcases hy with hy | rfl
  · exact h y hy
  · exact hx
theorem strs_grown {w w' : World} {g : Nat} {l : List ByteArray} {row : Option Nat} (h : Strs w g l) (hg : w.grownBy w' row) (hl : g < w.heap.size) (hr : ∀ k, row = some k → k ≠ g) : Strs w' g l := fun i hi =>
  (World.cell?_of_block (a := ⟨g, i, none⟩) (hg.block g hl (fun e => hr g e.symm rfl))).trans (h i hi)
def names3 : List ByteArray := [⟨#[97, 112, 112]⟩, ⟨#[104, 111, 115, 116]⟩, ⟨#[122, 111, 110, 101]⟩]
/-- labels drawn so far; the names lie beside them, in block nb -/
def LS (w wr : World) (rb nb p : Nat) (ov : Value) (L : List Lab.E) : Prop :=
  (∀ x ∈ L, smallL x) ∧ wr.ownsRow w.heap.size 47 2 ov L.length (Lab.flat L) ∧ (∀ k, ov.ownBlock = some k → k ≠ nb) ∧ Strs wr nb names3 ∧ (nb < wr.heap.size ∧ w.heap.size ≤ nb) ∧ Rd wr rb p ∧ w.grownBy wr (some rb) ∧ rb < w.heap.size
theorem LS.pick {w wr w' : World} {rb nb p p' : Nat} {ov : Value} {L : List Lab.E} (h : LS w wr rb nb p ov L) (hr : Rd w' rb p') (hg : wr.grownBy w' (some rb)) : LS w w' rb nb p' ov L := by
  obtain ⟨h1, h2, h3, h4, ⟨h5, h6⟩, h7, h8, h9⟩ := h
  exact ⟨h1, own_kept h2 hg h9, h3, strs_grown h4 hg h5 (fun k hk => by have := Option.some.inj hk; omega), ⟨Nat.lt_of_lt_of_le h5 hg.size, h6⟩, hr, grown_trans h8 hg, h9⟩
theorem LS.app {w wr w9 : World} {rb nb p : Nat} {ov vn : Value} {L : List Lab.E} {x : Lab.E} {c : Array Value} {n : Nat} {xs : List Value} (h : LS w wr rb nb p ov L) (hx : smallL x) (hn : n = L.length + 1) (hxs : xs = Lab.flat L ++ Lab.fl x)
    (on : w9.ownsRow w.heap.size 47 2 vn n xs) (gn : (wr.alloc (.cells c 47)).grownBy w9 ov.ownBlock) (an : vn.ownBlock = ov.ownBlock ∨ vn.ownBlock = some (wr.alloc (.cells c 47)).heap.size) : LS w w9 rb nb p vn (L ++ [x]) := by
  obtain ⟨h1, h2, h3, h4, ⟨h5, h6⟩, h7, h8, h9⟩ := h
  have ge := own_ge h2
  have hb : Below wr.heap.size wr (wr.alloc (.cells c 47)) := (Below.refl _ _).alloc (Nat.le_refl _) _
  have hs : (wr.alloc (.cells c 47)).heap.size = wr.heap.size + 1 := by simp
  refine ⟨small_snocL h1 hx, ?_, ?_, ?_, ⟨?_, h6⟩, ?_, ?_, h9⟩
  · rw [List.length_append, flat_snocL, ← hxs]; rw [hn] at on; exact on
  · intro k hk e
    rcases an with an | an
    · exact h3 k (an.symm.trans hk) e
    · rw [hk] at an
      have := Option.some.inj an
      omega
  · exact strs_grown (strs_grown (row := some rb) h4 (grown_below hb) h5 (fun k hk => by have := Option.some.inj hk; omega)) gn (by rw [hs]; omega) h3
  · have := gn.size; omega
  · exact (h7.below hb).grown gn (fun k hk => by have := ge k hk; omega)
  · exact grown_other (grown_trans h8 (grown_below hb)) gn ge
set_option maxRecDepth 100000 in
set_option maxHeartbeats 4000000 in
theorem labels_any (rb p : Nat) (w : World) (h : Rd w rb p) (hp : p ≤ 700000) :
    Calls Try.prog 37 #[.pointer (some ⟨rb, 0, none⟩)] w fun e w' => ∃ (zs : List Lab.E) (v : Value), e = .returned v ∧ 0 < zs.length ∧ zs.length ≤ 3 ∧ (∀ x ∈ zs, smallL x) ∧ w'.ownsRow w.heap.size 47 2 v zs.length (Lab.flat zs) ∧ (∃ p', p' ≤ p + 10 ∧ Rd w' rb p') ∧ w.grownBy w' (some rb) := by
  obtain ⟨i0, hi, hz0, hz1, hz2⟩ := info_parts Lab.info_e
  have hrl := h.lt
  have hmx : 1 ≤ maxLen := by unfold maxLen; omega
  have hb1 : Below w.heap.size w (w.alloc (.cells #[] 47)) := (Below.refl _ _).alloc (Nat.le_refl _) _
  have hb2 : Below (w.alloc (.cells #[] 47)).heap.size (w.alloc (.cells #[] 47)) ((w.alloc (.cells #[] 47)).alloc (.cells (names3.map Value.string).toArray 9)) := (Below.refl _ _).alloc (Nat.le_refl _) _
  have S0 := hide (show LS w ((w.alloc (.cells #[] 47)).alloc (.cells (names3.map Value.string).toArray 9)) rb (w.alloc (.cells #[] 47)).heap.size p (.slice (some ⟨w.heap.size, 0, none⟩) 0 0) [] from
    ⟨by simp, (own_empty (w := w) (base := w.heap.size) (e := 47) (size := 2) (Nat.le_refl _)).alloc _, fun k hk => by have := Option.some.inj hk; simp at this ⊢; omega, strs_block (heap_alloc_new _ _), ⟨by simp, by simp⟩, (h.below hb1).below hb2, grown_trans (grown_below hb1) (grown_below hb2), hrl⟩)
  clear h hb1 hb2
  go_enter Try.func37, Try.ntmps37
  go_wp2_with fail
  go_loopw [3, 9] (fun ov iv wr => ∃ (i : Nat) (L : List Lab.E) (p' : Nat), iv = .int .i64 (i : Int) ∧ i ≤ 3 ∧ L.length ≤ i ∧ p' ≤ p + 3 * i ∧ LS w wr rb (w.heap.size + 1) p' ov L) (fun _ iv _ => 3 - (intOf iv).toNat)
  case atStart => exact ⟨0, [], p, rfl, by omega, by simp, by omega, by simpa [names3] using unhide S0⟩
  case round =>
    clear S0
    obtain ⟨i, L, p', rfl, hi3, hL, hp', hS⟩ := hrel
    by_cases h3 : i < 3
    · rcases (show i = 0 ∨ i = 1 ∨ i = 2 from by omega) with rfl | rfl | rfl
      · have hc : wr.cell? ⟨w.heap.size + 1, 0, none⟩ = some (.string ⟨#[97, 112, 112]⟩) := hS.2.2.2.1 0 (by decide)
        have HS := hide hS
        clear hS
        go_wp2_with fail
        refine (pick_any rb p' _ _ (unhide HS).2.2.2.2.2.1 (by omega) (by omega)).mono ?_
        rintro e w1 ⟨x, rfl, x0, x1, -, r1, g1⟩
        have HS1 := hide ((unhide HS).pick r1 g1)
        clear HS hc r1 g1 x1
        by_cases hx : x = 0
        · subst hx
          go_wp2_with fail
          have hof := of_new rb (p' + 1) [⟨#[97]⟩, ⟨#[97, 98]⟩, ⟨#[98]⟩, ⟨#[97]⟩, ⟨#[97]⟩] _ (unhide HS1).2.2.2.2.2.1 (by omega) (by simp) (by simp)
          simp only [List.map_cons, List.map_nil, List.length_cons, List.length_nil, Nat.zero_add, Nat.reduceAdd] at hof
          refine hof.mono ?_
          clear hof
          rintro e w3 ⟨B, rfl, hB, r3, g3⟩
          have B0 := hide (show B.size ≤ 100 by
            simp only [List.mem_cons, List.not_mem_nil, or_false] at hB
            rcases hB with rfl | rfl | rfl | rfl | rfl <;> decide)
          have HT := hide ((unhide HS1).pick r3 g3)
          clear HS1 r3 g3 hB
          go_wp2_with (at_builtin; refine app_wp _ rfl _ _ _ rfl w.heap.size 47 i0 _ 2 32 Try.underlying24 hi hz0 hz1 hz2 rfl (by omega) _ L.length _ rfl ((unhide HT).2.1.alloc _) _ 1 [.string ⟨#[97, 112, 112]⟩, .string B] rfl (lies_new rfl rfl hmx) (by simp [Value.oneCell']) (by unfold maxLen; omega) (by omega) (by have := (unhide HT).2.2.2.2.1; simp; omega) ?_; intro vn w9 on gn an)
          have HU := hide ((unhide HT).app (x := (⟨#[97, 112, 112]⟩, B)) ⟨by show ByteArray.size ⟨#[97, 112, 112]⟩ ≤ 100; decide, unhide B0, by show (⟨#[97, 112, 112]⟩ : ByteArray) ≠ nobody; decide⟩ rfl rfl on gn an)
          clear on gn an HT
          go_wp2_with fail
          go_roundw
          case rel => exact ⟨1, L ++ [(⟨#[97, 112, 112]⟩, B)], p' + 1 + 1, by go_num, by omega, by rw [List.length_append]; exact Nat.add_le_add_right hL 1, by omega, unhide HU⟩
          case measure => simp [intOf]
        · have hxf : (x == 0) = false := by simpa using hx
          go_wp2_with fail
          refine (pick_any rb (p' + 1) _ _ (unhide HS1).2.2.2.2.2.1 (by omega) (by omega)).mono ?_
          rintro e w2 ⟨y, rfl, y0, y1, -, r2, g2⟩
          have HS2 := hide ((unhide HS1).pick r2 g2)
          clear HS1 r2 g2 y1
          by_cases hy : 0 < y
          · go_wp2_with fail
            have hof := of_new rb (p' + 1 + 1) [⟨#[97]⟩, ⟨#[97, 98]⟩, ⟨#[98]⟩, ⟨#[97]⟩, ⟨#[97]⟩] _ (unhide HS2).2.2.2.2.2.1 (by omega) (by simp) (by simp)
            simp only [List.map_cons, List.map_nil, List.length_cons, List.length_nil, Nat.zero_add, Nat.reduceAdd] at hof
            refine hof.mono ?_
            clear hof
            rintro e w3 ⟨B, rfl, hB, r3, g3⟩
            have B0 := hide (show B.size ≤ 100 by
              simp only [List.mem_cons, List.not_mem_nil, or_false] at hB
              rcases hB with rfl | rfl | rfl | rfl | rfl <;> decide)
            have HT := hide ((unhide HS2).pick r3 g3)
            clear HS2 r3 g3 hB
            go_wp2_with (at_builtin; refine app_wp _ rfl _ _ _ rfl w.heap.size 47 i0 _ 2 32 Try.underlying24 hi hz0 hz1 hz2 rfl (by omega) _ L.length _ rfl ((unhide HT).2.1.alloc _) _ 1 [.string ⟨#[97, 112, 112]⟩, .string B] rfl (lies_new rfl rfl hmx) (by simp [Value.oneCell']) (by unfold maxLen; omega) (by omega) (by have := (unhide HT).2.2.2.2.1; simp; omega) ?_; intro vn w9 on gn an)
            have HU := hide ((unhide HT).app (x := (⟨#[97, 112, 112]⟩, B)) ⟨by show ByteArray.size ⟨#[97, 112, 112]⟩ ≤ 100; decide, unhide B0, by show (⟨#[97, 112, 112]⟩ : ByteArray) ≠ nobody; decide⟩ rfl rfl on gn an)
            clear on gn an HT
            go_wp2_with fail
            go_roundw
            case rel => exact ⟨1, L ++ [(⟨#[97, 112, 112]⟩, B)], p' + 1 + 1 + 1, by go_num, by omega, by rw [List.length_append]; exact Nat.add_le_add_right hL 1, by omega, unhide HU⟩
            case measure => simp [intOf]
          · have hyf : decide (0 < y) = false := by simpa using hy
            go_wp2_with fail
            go_roundw
            case rel => exact ⟨1, L, p' + 1 + 1, by go_num, by omega, by omega, by omega, unhide HS2⟩
            case measure => simp [intOf]
      · have hc : wr.cell? ⟨w.heap.size + 1, 1, none⟩ = some (.string ⟨#[104, 111, 115, 116]⟩) := hS.2.2.2.1 1 (by decide)
        have HS := hide hS
        clear hS
        go_wp2_with fail
        refine (pick_any rb p' _ _ (unhide HS).2.2.2.2.2.1 (by omega) (by omega)).mono ?_
        rintro e w1 ⟨x, rfl, x0, x1, -, r1, g1⟩
        have HS1 := hide ((unhide HS).pick r1 g1)
        clear HS hc r1 g1 x1
        by_cases hx : x = 0
        · subst hx
          go_wp2_with fail
          have hof := of_new rb (p' + 1) [⟨#[97]⟩, ⟨#[97, 98]⟩, ⟨#[98]⟩, ⟨#[97]⟩, ⟨#[97]⟩] _ (unhide HS1).2.2.2.2.2.1 (by omega) (by simp) (by simp)
          simp only [List.map_cons, List.map_nil, List.length_cons, List.length_nil, Nat.zero_add, Nat.reduceAdd] at hof
          refine hof.mono ?_
          clear hof
          rintro e w3 ⟨B, rfl, hB, r3, g3⟩
          have B0 := hide (show B.size ≤ 100 by
            simp only [List.mem_cons, List.not_mem_nil, or_false] at hB
            rcases hB with rfl | rfl | rfl | rfl | rfl <;> decide)
          have HT := hide ((unhide HS1).pick r3 g3)
          clear HS1 r3 g3 hB
          go_wp2_with (at_builtin; refine app_wp _ rfl _ _ _ rfl w.heap.size 47 i0 _ 2 32 Try.underlying24 hi hz0 hz1 hz2 rfl (by omega) _ L.length _ rfl ((unhide HT).2.1.alloc _) _ 1 [.string ⟨#[104, 111, 115, 116]⟩, .string B] rfl (lies_new rfl rfl hmx) (by simp [Value.oneCell']) (by unfold maxLen; omega) (by omega) (by have := (unhide HT).2.2.2.2.1; simp; omega) ?_; intro vn w9 on gn an)
          have HU := hide ((unhide HT).app (x := (⟨#[104, 111, 115, 116]⟩, B)) ⟨by show ByteArray.size ⟨#[104, 111, 115, 116]⟩ ≤ 100; decide, unhide B0, by show (⟨#[104, 111, 115, 116]⟩ : ByteArray) ≠ nobody; decide⟩ rfl rfl on gn an)
          clear on gn an HT
          go_wp2_with fail
          go_roundw
          case rel => exact ⟨2, L ++ [(⟨#[104, 111, 115, 116]⟩, B)], p' + 1 + 1, by go_num, by omega, by rw [List.length_append]; exact Nat.add_le_add_right hL 1, by omega, unhide HU⟩
          case measure => simp [intOf]
        · have hxf : (x == 0) = false := by simpa using hx
          go_wp2_with fail
          go_roundw
          case rel => exact ⟨2, L, p' + 1, by go_num, by omega, by omega, by omega, unhide HS1⟩
          case measure => simp [intOf]
      · have hc : wr.cell? ⟨w.heap.size + 1, 2, none⟩ = some (.string ⟨#[122, 111, 110, 101]⟩) := hS.2.2.2.1 2 (by decide)
        have HS := hide hS
        clear hS
        go_wp2_with fail
        refine (pick_any rb p' _ _ (unhide HS).2.2.2.2.2.1 (by omega) (by omega)).mono ?_
        rintro e w1 ⟨x, rfl, x0, x1, -, r1, g1⟩
        have HS1 := hide ((unhide HS).pick r1 g1)
        clear HS hc r1 g1 x1
        by_cases hx : x = 0
        · subst hx
          go_wp2_with fail
          have hof := of_new rb (p' + 1) [⟨#[97]⟩, ⟨#[97, 98]⟩, ⟨#[98]⟩, ⟨#[97]⟩, ⟨#[97]⟩] _ (unhide HS1).2.2.2.2.2.1 (by omega) (by simp) (by simp)
          simp only [List.map_cons, List.map_nil, List.length_cons, List.length_nil, Nat.zero_add, Nat.reduceAdd] at hof
          refine hof.mono ?_
          clear hof
          rintro e w3 ⟨B, rfl, hB, r3, g3⟩
          have B0 := hide (show B.size ≤ 100 by
            simp only [List.mem_cons, List.not_mem_nil, or_false] at hB
            rcases hB with rfl | rfl | rfl | rfl | rfl <;> decide)
          have HT := hide ((unhide HS1).pick r3 g3)
          clear HS1 r3 g3 hB
          go_wp2_with (at_builtin; refine app_wp _ rfl _ _ _ rfl w.heap.size 47 i0 _ 2 32 Try.underlying24 hi hz0 hz1 hz2 rfl (by omega) _ L.length _ rfl ((unhide HT).2.1.alloc _) _ 1 [.string ⟨#[122, 111, 110, 101]⟩, .string B] rfl (lies_new rfl rfl hmx) (by simp [Value.oneCell']) (by unfold maxLen; omega) (by omega) (by have := (unhide HT).2.2.2.2.1; simp; omega) ?_; intro vn w9 on gn an)
          have HU := hide ((unhide HT).app (x := (⟨#[122, 111, 110, 101]⟩, B)) ⟨by show ByteArray.size ⟨#[122, 111, 110, 101]⟩ ≤ 100; decide, unhide B0, by show (⟨#[122, 111, 110, 101]⟩ : ByteArray) ≠ nobody; decide⟩ rfl rfl on gn an)
          clear on gn an HT
          go_wp2_with fail
          go_roundw
          case rel => exact ⟨3, L ++ [(⟨#[122, 111, 110, 101]⟩, B)], p' + 1 + 1, by go_num, by omega, by rw [List.length_append]; exact Nat.add_le_add_right hL 1, by omega, unhide HU⟩
          case measure => simp [intOf]
        · have hxf : (x == 0) = false := by simpa using hx
          go_wp2_with fail
          go_roundw
          case rel => exact ⟨3, L, p' + 1, by go_num, by omega, by omega, by omega, unhide HS1⟩
          case measure => simp [intOf]
    · obtain rfl : i = 3 := by omega
      obtain ⟨-, am, cm, rfl, -⟩ := lies_of_own hS.2.1
      have HS := hide hS
      clear hS
      by_cases hl0 : L.length = 0
      · have hz : ((L.length : Int) == 0) = true := by simp [hl0]
        go_wp2_with (at_builtin; refine app_wp _ rfl _ _ _ rfl w.heap.size 47 i0 _ 2 32 Try.underlying24 hi hz0 hz1 hz2 rfl (by omega) _ L.length _ rfl ((unhide HS).2.1.alloc _) _ 1 [.string ⟨#[106, 111, 98]⟩, .string ⟨#[120]⟩] rfl (lies_new rfl rfl hmx) (by simp [Value.oneCell']) (by unfold maxLen; omega) (by omega) (by have := (unhide HS).2.2.2.2.1; simp; omega) ?_; intro vn w9 on gn an)
        have HU := hide ((unhide HS).app (x := (⟨#[106, 111, 98]⟩, ⟨#[120]⟩)) ⟨by show ByteArray.size ⟨#[106, 111, 98]⟩ ≤ 100; decide, by show ByteArray.size ⟨#[120]⟩ ≤ 100; decide, by show (⟨#[106, 111, 98]⟩ : ByteArray) ≠ nobody; decide⟩ rfl rfl on gn an)
        clear on gn an HS
        go_wp2_with fail
        go_ret
        obtain ⟨h1, h2, -, -, -, h7, h8, -⟩ := unhide HU
        exact ⟨_, _, rfl, by rw [List.length_append]; exact Nat.succ_pos _, by rw [List.length_append, hl0]; decide, h1, h2, ⟨p', by omega, h7⟩, h8⟩
      · have hz : ((L.length : Int) == 0) = false := beq_false_of_ne (by omega)
        go_wp2_with fail
        go_ret
        obtain ⟨h1, h2, -, -, -, h7, h8, -⟩ := unhide HS
        exact ⟨_, _, rfl, by omega, by omega, h1, h2, ⟨p', by omega, h7⟩, h8⟩
end Go.Proofs.Ytncjagdnebpaaaa.Draw

/- Letters, names, words and labels, as plain mathematics. No condition. -/
namespace Go.Proofs.Ytncjagdnebpaaaa.Lab
open Go.RowKit Rw
def letter (b : UInt8) : Bool := decide (97 ≤ b.toNat) && decide (b.toNat ≤ 122)
def letters (s : ByteArray) : Bool := s.data.toList.all letter
def notL (r : Nat) : Bool := decide (r < 97) || decide (122 < r)
theorem notL_of {b : UInt8} : notL b.toNat = !letter b := by
  unfold notL letter
  by_cases h1 : 97 ≤ b.toNat <;> by_cases h2 : b.toNat ≤ 122
  · have a1 : ¬ b.toNat < 97 := by omega
    have a2 : ¬ 122 < b.toNat := by omega
    simp [h1, h2, a1, a2]
  · have a1 : ¬ b.toNat < 97 := by omega
    have a2 : 122 < b.toNat := by omega
    simp [h2, a2]
  · have a1 : b.toNat < 97 := by omega
    simp [h1, a1]
  · omega
theorem idx_from (s : ByteArray) : ∀ (f pos : Nat), s.size ≤ pos + f → decide (Lib.idxFuncFrom notL true s f pos < 0) = (s.data.toList.drop pos).all letter
  | 0, pos, h => by
    have hl : s.data.toList.length = s.size := Array.length_toList
    have e : s.data.toList.drop pos = [] := List.drop_eq_nil_of_le (by omega)
    rw [e]
    rfl
  | f + 1, pos, h => by
    have hl : s.data.toList.length = s.size := Array.length_toList
    unfold Lib.idxFuncFrom
    by_cases hp : pos < s.size
    · rw [if_pos hp, List.drop_eq_getElem_cons (by omega), List.all_cons]
      have eb : s.data.toList[pos]'(by omega) = s[pos]'hp := rfl
      rw [eb]
      by_cases ha : (s[pos]'hp).toNat < 128
      · rw [decode_ascii s pos hp ha]
        have hn := notL_of (b := s[pos]'hp)
        rw [hn]
        cases hc : letter (s[pos]'hp)
        · have : ¬ (pos : Int) < 0 := by omega
          simp [this]
        · simp only [Bool.not_true, Bool.false_eq_true, if_false, Bool.true_and]
          exact idx_from s f (pos + 1) (by omega)
      · have hd := decode_high s pos hp (by omega)
        have hn : notL (Utf8.decode s pos).1 = true := by
          have : 122 < (Utf8.decode s pos).1 := by omega
          simp [notL, this]
        rw [if_pos hn]
        have hc : letter (s[pos]'hp) = false := by
          have : ¬ (s[pos]'hp).toNat ≤ 122 := by omega
          simp [letter, this]
        have : ¬ (pos : Int) < 0 := by omega
        simp [this, hc]
    · rw [if_neg hp, List.drop_eq_nil_of_le (by omega)]
      rfl
theorem idx_letters (s : ByteArray) : decide (Lib.idxFunc notL true s < 0) = letters s := by
  have := idx_from s s.size 0 (by omega)
  rw [List.drop_zero] at this
  exact this
def nameB (s : ByteArray) : Bool := decide (1 ≤ s.size) && decide (s.size ≤ 6) && letters s
def wordB (s : ByteArray) : Bool := decide (s.size ≤ 8) && letters s
def ltS (a b : ByteArray) : Bool := Op.bytesLess a.toList b.toList
def stepOk (zs : List E) (i : Nat) : Bool := nameB (at' zs i).1 && wordB (at' zs i).2 && decide (0 < (at' zs i).2.size) && (i == 0 || ltS (at' zs (i - 1)).1 (at' zs i).1)
def okTo (zs : List E) (k : Nat) : Bool := (List.range k).all (stepOk zs)
def ok (zs : List E) : Bool := decide (1 ≤ zs.length) && decide (zs.length ≤ 4) && okTo zs zs.length
theorem okTo_succ (zs : List E) (k : Nat) : okTo zs (k + 1) = (okTo zs k && stepOk zs k) := by simp [okTo, List.range_succ]
theorem ok_of_bad {zs : List E} {k : Nat} (hk : k < zs.length) (h : stepOk zs k = false) : ok zs = false := by
  have : okTo zs zs.length = false := by unfold okTo; rw [List.all_eq_false]; exact ⟨k, List.mem_range.2 hk, by simp [h]⟩
  unfold ok; rw [this, Bool.and_false]
theorem ok_of_len {zs : List E} (h : zs.length < 1 ∨ 4 < zs.length) : ok zs = false := by
  unfold ok
  rcases h with h | h
  · have : decide (1 ≤ zs.length) = false := decide_eq_false (by omega)
    rw [this]; rfl
  · have : decide (zs.length ≤ 4) = false := decide_eq_false (by omega)
    rw [this, Bool.and_false]; rfl
theorem ok_all {zs : List E} (h1 : 1 ≤ zs.length) (h4 : zs.length ≤ 4) (h : okTo zs zs.length = true) : ok zs = true := by
  unfold ok; rw [decide_eq_true h1, decide_eq_true h4, h]; rfl
theorem step_yes {zs : List E} {k : Nat} (h1 : nameB (at' zs k).1 = true) (h2 : wordB (at' zs k).2 = true) (h3 : 0 < (at' zs k).2.size) (h4 : k = 0 ∨ ltS (at' zs (k - 1)).1 (at' zs k).1 = true) : stepOk zs k = true := by
  unfold stepOk
  rw [h1, h2, decide_eq_true h3]
  rcases h4 with rfl | h4
  · rfl
  · rw [h4, Bool.or_true]; rfl
theorem step_name {zs : List E} {k : Nat} (h : nameB (at' zs k).1 = false) : stepOk zs k = false := by unfold stepOk; rw [h]; rfl
theorem step_word {zs : List E} {k : Nat} (h : wordB (at' zs k).2 = false) : stepOk zs k = false := by unfold stepOk; rw [h, Bool.and_false]; rfl
theorem step_empty {zs : List E} {k : Nat} (h : (at' zs k).2.size = 0) : stepOk zs k = false := by unfold stepOk; rw [h, show decide (0 < 0) = false from rfl, Bool.and_false]; rfl
theorem step_late {zs : List E} {k : Nat} (hk : 0 < k) (h : ltS (at' zs (k - 1)).1 (at' zs k).1 = false) : stepOk zs k = false := by
  have h0 : (k == 0) = false := by simp; omega
  unfold stepOk; rw [h, h0, Bool.false_or, Bool.and_false]
end Go.Proofs.Ytncjagdnebpaaaa.Lab

/- Labels that are drawn are ok. -/
namespace Go.Proofs.Ytncjagdnebpaaaa.Draw
open Go.RowKit Rw Lab
set_option linter.unusedVariables false
attribute [local go_sem ↓] Go.wp_at_zero Go.wp_at_succ
def names4 : List ByteArray := names3 ++ [⟨#[106, 111, 98]⟩]
def words4 : List ByteArray := [⟨#[97]⟩, ⟨#[97, 98]⟩, ⟨#[98]⟩, ⟨#[120]⟩]
def okL (x : Lab.E) : Prop := x.1 ∈ names4 ∧ x.2 ∈ words4
theorem ok_snocL {L : List Lab.E} {x : Lab.E} (h : ∀ y ∈ L, okL y) (hx : okL x) : ∀ y ∈ L ++ [x], okL y := by
  intro y hy
  rcases List.mem_append.1 hy with hy | hy
  · exact h y hy
  · rw [List.mem_singleton.1 hy]; exact hx
theorem sub_app {L : List Lab.E} {i : Nat} {nm B : ByteArray} (h : (L.map (·.1)).Sublist (names3.take i)) (e : names3.take (i + 1) = names3.take i ++ [nm]) : ((L ++ [(nm, B)]).map (·.1)).Sublist (names3.take (i + 1)) := by
  rw [e, List.map_append]
  exact h.append (List.Sublist.refl _)
theorem sub_skip {L : List Lab.E} {i : Nat} {nm : ByteArray} (h : (L.map (·.1)).Sublist (names3.take i)) (e : names3.take (i + 1) = names3.take i ++ [nm]) : (L.map (·.1)).Sublist (names3.take (i + 1)) := by
  rw [e]
  exact h.trans (List.sublist_append_left _ _)
theorem name_ok {b : ByteArray} (h : b ∈ names4) : nameB b = true := by
  simp only [names4, names3, List.cons_append, List.nil_append, List.mem_cons, List.not_mem_nil, or_false] at h
  rcases h with rfl | rfl | rfl | rfl <;> decide
theorem word_ok {b : ByteArray} (h : b ∈ words4) : wordB b = true ∧ 0 < b.size := by
  simp only [words4, List.mem_cons, List.not_mem_nil, or_false] at h
  rcases h with rfl | rfl | rfl | rfl <;> decide
theorem names_up : names3.Pairwise (fun a b => ltS a b = true) := by
  unfold names3
  decide +kernel
theorem ok_names {L : List Lab.E} (h : (L.map (·.1)).Sublist (names3.take 3)) (ho : ∀ x ∈ L, okL x) (h0 : 0 < L.length) : Lab.ok L = true := by
  have hp : (L.map (·.1)).Pairwise (fun a b => ltS a b = true) := names_up.sublist h
  have hl : L.length ≤ 3 := by have := h.length_le; simpa [names3] using this
  refine ok_all (by omega) (by omega) ?_
  unfold okTo
  refine List.all_eq_true.2 fun i hi => ?_
  have hi := List.mem_range.1 hi
  have e : Lab.at' L i = L[i] := by simp [Lab.at', List.getD, hi]
  have hx := ho L[i] (List.getElem_mem hi)
  refine step_yes (by rw [e]; exact name_ok hx.1) (by rw [e]; exact (word_ok hx.2).1) (by rw [e]; exact (word_ok hx.2).2) ?_
  rcases Nat.eq_zero_or_pos i with h | h
  · exact .inl h
  · right
    have e' : Lab.at' L (i - 1) = L[i - 1] := by simp [Lab.at', List.getD, show i - 1 < L.length by omega]
    rw [e, e']
    rw [List.pairwise_map, List.pairwise_iff_getElem] at hp
    exact hp (i - 1) i (by omega) hi (by omega)
theorem ok_job (L : List Lab.E) (h : L.length = 0) : Lab.ok (L ++ [(⟨#[106, 111, 98]⟩, ⟨#[120]⟩)]) = true := by
  rw [List.eq_nil_of_length_eq_zero h]
  decide
/-- labels drawn so far; the names lie beside them, in block nb -/
def LSo (w wr : World) (rb nb p : Nat) (ov : Value) (L : List Lab.E) : Prop :=
  (∀ x ∈ L, okL x) ∧ wr.ownsRow w.heap.size 47 2 ov L.length (Lab.flat L) ∧ (∀ k, ov.ownBlock = some k → k ≠ nb) ∧ Strs wr nb names3 ∧ (nb < wr.heap.size ∧ w.heap.size ≤ nb) ∧ Rd wr rb p ∧ w.grownBy wr (some rb) ∧ rb < w.heap.size
theorem LSo.pick {w wr w' : World} {rb nb p p' : Nat} {ov : Value} {L : List Lab.E} (h : LSo w wr rb nb p ov L) (hr : Rd w' rb p') (hg : wr.grownBy w' (some rb)) : LSo w w' rb nb p' ov L := by
  obtain ⟨h1, h2, h3, h4, ⟨h5, h6⟩, h7, h8, h9⟩ := h
  exact ⟨h1, own_kept h2 hg h9, h3, strs_grown h4 hg h5 (fun k hk => by have := Option.some.inj hk; omega), ⟨Nat.lt_of_lt_of_le h5 hg.size, h6⟩, hr, grown_trans h8 hg, h9⟩
theorem LSo.app {w wr w9 : World} {rb nb p : Nat} {ov vn : Value} {L : List Lab.E} {x : Lab.E} {c : Array Value} {n : Nat} {xs : List Value} (h : LSo w wr rb nb p ov L) (hx : okL x) (hn : n = L.length + 1) (hxs : xs = Lab.flat L ++ Lab.fl x)
    (on : w9.ownsRow w.heap.size 47 2 vn n xs) (gn : (wr.alloc (.cells c 47)).grownBy w9 ov.ownBlock) (an : vn.ownBlock = ov.ownBlock ∨ vn.ownBlock = some (wr.alloc (.cells c 47)).heap.size) : LSo w w9 rb nb p vn (L ++ [x]) := by
  obtain ⟨h1, h2, h3, h4, ⟨h5, h6⟩, h7, h8, h9⟩ := h
  have ge := own_ge h2
  have hb : Below wr.heap.size wr (wr.alloc (.cells c 47)) := (Below.refl _ _).alloc (Nat.le_refl _) _
  have hs : (wr.alloc (.cells c 47)).heap.size = wr.heap.size + 1 := by simp
  refine ⟨ok_snocL h1 hx, ?_, ?_, ?_, ⟨?_, h6⟩, ?_, ?_, h9⟩
  · rw [List.length_append, flat_snocL, ← hxs]; rw [hn] at on; exact on
  · intro k hk e
    rcases an with an | an
    · exact h3 k (an.symm.trans hk) e
    · rw [hk] at an
      have := Option.some.inj an
      omega
  · exact strs_grown (strs_grown (row := some rb) h4 (grown_below hb) h5 (fun k hk => by have := Option.some.inj hk; omega)) gn (by rw [hs]; omega) h3
  · have := gn.size; omega
  · exact (h7.below hb).grown gn (fun k hk => by have := ge k hk; omega)
  · exact grown_other (grown_trans h8 (grown_below hb)) gn ge
set_option maxRecDepth 100000 in
set_option maxHeartbeats 4000000 in
theorem labels_ok (rb p : Nat) (w : World) (h : Rd w rb p) (hp : p ≤ 700000) :
    Calls Try.prog 37 #[.pointer (some ⟨rb, 0, none⟩)] w fun e w' => ∃ (zs : List Lab.E) (v : Value), e = .returned v ∧ 0 < zs.length ∧ zs.length ≤ 3 ∧ Lab.ok zs = true ∧ w'.ownsRow w.heap.size 47 2 v zs.length (Lab.flat zs) ∧ (∃ p', p' ≤ p + 10 ∧ Rd w' rb p') ∧ w.grownBy w' (some rb) := by
  obtain ⟨i0, hi, hz0, hz1, hz2⟩ := info_parts Lab.info_e
  have hrl := h.lt
  have hmx : 1 ≤ maxLen := by unfold maxLen; omega
  have hb1 : Below w.heap.size w (w.alloc (.cells #[] 47)) := (Below.refl _ _).alloc (Nat.le_refl _) _
  have hb2 : Below (w.alloc (.cells #[] 47)).heap.size (w.alloc (.cells #[] 47)) ((w.alloc (.cells #[] 47)).alloc (.cells (names3.map Value.string).toArray 9)) := (Below.refl _ _).alloc (Nat.le_refl _) _
  have S0 := hide (show LSo w ((w.alloc (.cells #[] 47)).alloc (.cells (names3.map Value.string).toArray 9)) rb (w.alloc (.cells #[] 47)).heap.size p (.slice (some ⟨w.heap.size, 0, none⟩) 0 0) [] from
    ⟨by simp, (own_empty (w := w) (base := w.heap.size) (e := 47) (size := 2) (Nat.le_refl _)).alloc _, fun k hk => by have := Option.some.inj hk; simp at this ⊢; omega, strs_block (heap_alloc_new _ _), ⟨by simp, by simp⟩, (h.below hb1).below hb2, grown_trans (grown_below hb1) (grown_below hb2), hrl⟩)
  clear h hb1 hb2
  go_enter Try.func37, Try.ntmps37
  go_wp2_with fail
  go_loopw [3, 9] (fun ov iv wr => ∃ (i : Nat) (L : List Lab.E) (p' : Nat), iv = .int .i64 (i : Int) ∧ i ≤ 3 ∧ L.length ≤ i ∧ Hid ((L.map (·.1)).Sublist (names3.take i)) ∧ p' ≤ p + 3 * i ∧ LSo w wr rb (w.heap.size + 1) p' ov L) (fun _ iv _ => 3 - (intOf iv).toNat)
  case atStart => exact ⟨0, [], p, rfl, by omega, by simp, List.nil_sublist _, by omega, by simpa [names3] using unhide S0⟩
  case round =>
    clear S0
    obtain ⟨i, L, p', rfl, hi3, hL, HSub, hp', hS⟩ := hrel
    by_cases h3 : i < 3
    · rcases (show i = 0 ∨ i = 1 ∨ i = 2 from by omega) with rfl | rfl | rfl
      · have hc : wr.cell? ⟨w.heap.size + 1, 0, none⟩ = some (.string ⟨#[97, 112, 112]⟩) := hS.2.2.2.1 0 (by decide)
        have HS := hide hS
        clear hS
        go_wp2_with fail
        refine (pick_any rb p' _ _ (unhide HS).2.2.2.2.2.1 (by omega) (by omega)).mono ?_
        rintro e w1 ⟨x, rfl, x0, x1, -, r1, g1⟩
        have HS1 := hide ((unhide HS).pick r1 g1)
        clear HS hc r1 g1 x1
        by_cases hx : x = 0
        · subst hx
          go_wp2_with fail
          have hof := of_new rb (p' + 1) [⟨#[97]⟩, ⟨#[97, 98]⟩, ⟨#[98]⟩, ⟨#[97]⟩, ⟨#[97]⟩] _ (unhide HS1).2.2.2.2.2.1 (by omega) (by simp) (by simp)
          simp only [List.map_cons, List.map_nil, List.length_cons, List.length_nil, Nat.zero_add, Nat.reduceAdd] at hof
          refine hof.mono ?_
          clear hof
          rintro e w3 ⟨B, rfl, hB, r3, g3⟩
          have B0 := hide (show B ∈ words4 by
            simp only [List.mem_cons, List.not_mem_nil, or_false] at hB
            rcases hB with rfl | rfl | rfl | rfl | rfl <;> simp [words4])
          have HT := hide ((unhide HS1).pick r3 g3)
          clear HS1 r3 g3 hB
          go_wp2_with (at_builtin; refine app_wp _ rfl _ _ _ rfl w.heap.size 47 i0 _ 2 32 Try.underlying24 hi hz0 hz1 hz2 rfl (by omega) _ L.length _ rfl ((unhide HT).2.1.alloc _) _ 1 [.string ⟨#[97, 112, 112]⟩, .string B] rfl (lies_new rfl rfl hmx) (by simp [Value.oneCell']) (by unfold maxLen; omega) (by omega) (by have := (unhide HT).2.2.2.2.1; simp; omega) ?_; intro vn w9 on gn an)
          have HU := hide ((unhide HT).app (x := (⟨#[97, 112, 112]⟩, B)) ⟨by simp [names4, names3], unhide B0⟩ rfl rfl on gn an)
          clear on gn an HT
          go_wp2_with fail
          go_roundw
          case rel => exact ⟨1, L ++ [(⟨#[97, 112, 112]⟩, B)], p' + 1 + 1, by go_num, by omega, by rw [List.length_append]; exact Nat.add_le_add_right hL 1, sub_app (unhide HSub) rfl, by omega, unhide HU⟩
          case measure => simp [intOf]
        · have hxf : (x == 0) = false := by simpa using hx
          go_wp2_with fail
          refine (pick_any rb (p' + 1) _ _ (unhide HS1).2.2.2.2.2.1 (by omega) (by omega)).mono ?_
          rintro e w2 ⟨y, rfl, y0, y1, -, r2, g2⟩
          have HS2 := hide ((unhide HS1).pick r2 g2)
          clear HS1 r2 g2 y1
          by_cases hy : 0 < y
          · go_wp2_with fail
            have hof := of_new rb (p' + 1 + 1) [⟨#[97]⟩, ⟨#[97, 98]⟩, ⟨#[98]⟩, ⟨#[97]⟩, ⟨#[97]⟩] _ (unhide HS2).2.2.2.2.2.1 (by omega) (by simp) (by simp)
            simp only [List.map_cons, List.map_nil, List.length_cons, List.length_nil, Nat.zero_add, Nat.reduceAdd] at hof
            refine hof.mono ?_
            clear hof
            rintro e w3 ⟨B, rfl, hB, r3, g3⟩
            have B0 := hide (show B ∈ words4 by
              simp only [List.mem_cons, List.not_mem_nil, or_false] at hB
              rcases hB with rfl | rfl | rfl | rfl | rfl <;> simp [words4])
            have HT := hide ((unhide HS2).pick r3 g3)
            clear HS2 r3 g3 hB
            go_wp2_with (at_builtin; refine app_wp _ rfl _ _ _ rfl w.heap.size 47 i0 _ 2 32 Try.underlying24 hi hz0 hz1 hz2 rfl (by omega) _ L.length _ rfl ((unhide HT).2.1.alloc _) _ 1 [.string ⟨#[97, 112, 112]⟩, .string B] rfl (lies_new rfl rfl hmx) (by simp [Value.oneCell']) (by unfold maxLen; omega) (by omega) (by have := (unhide HT).2.2.2.2.1; simp; omega) ?_; intro vn w9 on gn an)
            have HU := hide ((unhide HT).app (x := (⟨#[97, 112, 112]⟩, B)) ⟨by simp [names4, names3], unhide B0⟩ rfl rfl on gn an)
            clear on gn an HT
            go_wp2_with fail
            go_roundw
            case rel => exact ⟨1, L ++ [(⟨#[97, 112, 112]⟩, B)], p' + 1 + 1 + 1, by go_num, by omega, by rw [List.length_append]; exact Nat.add_le_add_right hL 1, sub_app (unhide HSub) rfl, by omega, unhide HU⟩
            case measure => simp [intOf]
          · have hyf : decide (0 < y) = false := by simpa using hy
            go_wp2_with fail
            go_roundw
            case rel => exact ⟨1, L, p' + 1 + 1, by go_num, by omega, by omega, sub_skip (unhide HSub) rfl, by omega, unhide HS2⟩
            case measure => simp [intOf]
      · have hc : wr.cell? ⟨w.heap.size + 1, 1, none⟩ = some (.string ⟨#[104, 111, 115, 116]⟩) := hS.2.2.2.1 1 (by decide)
        have HS := hide hS
        clear hS
        go_wp2_with fail
        refine (pick_any rb p' _ _ (unhide HS).2.2.2.2.2.1 (by omega) (by omega)).mono ?_
        rintro e w1 ⟨x, rfl, x0, x1, -, r1, g1⟩
        have HS1 := hide ((unhide HS).pick r1 g1)
        clear HS hc r1 g1 x1
        by_cases hx : x = 0
        · subst hx
          go_wp2_with fail
          have hof := of_new rb (p' + 1) [⟨#[97]⟩, ⟨#[97, 98]⟩, ⟨#[98]⟩, ⟨#[97]⟩, ⟨#[97]⟩] _ (unhide HS1).2.2.2.2.2.1 (by omega) (by simp) (by simp)
          simp only [List.map_cons, List.map_nil, List.length_cons, List.length_nil, Nat.zero_add, Nat.reduceAdd] at hof
          refine hof.mono ?_
          clear hof
          rintro e w3 ⟨B, rfl, hB, r3, g3⟩
          have B0 := hide (show B ∈ words4 by
            simp only [List.mem_cons, List.not_mem_nil, or_false] at hB
            rcases hB with rfl | rfl | rfl | rfl | rfl <;> simp [words4])
          have HT := hide ((unhide HS1).pick r3 g3)
          clear HS1 r3 g3 hB
          go_wp2_with (at_builtin; refine app_wp _ rfl _ _ _ rfl w.heap.size 47 i0 _ 2 32 Try.underlying24 hi hz0 hz1 hz2 rfl (by omega) _ L.length _ rfl ((unhide HT).2.1.alloc _) _ 1 [.string ⟨#[104, 111, 115, 116]⟩, .string B] rfl (lies_new rfl rfl hmx) (by simp [Value.oneCell']) (by unfold maxLen; omega) (by omega) (by have := (unhide HT).2.2.2.2.1; simp; omega) ?_; intro vn w9 on gn an)
          have HU := hide ((unhide HT).app (x := (⟨#[104, 111, 115, 116]⟩, B)) ⟨by simp [names4, names3], unhide B0⟩ rfl rfl on gn an)
          clear on gn an HT
          go_wp2_with fail
          go_roundw
          case rel => exact ⟨2, L ++ [(⟨#[104, 111, 115, 116]⟩, B)], p' + 1 + 1, by go_num, by omega, by rw [List.length_append]; exact Nat.add_le_add_right hL 1, sub_app (unhide HSub) rfl, by omega, unhide HU⟩
          case measure => simp [intOf]
        · have hxf : (x == 0) = false := by simpa using hx
          go_wp2_with fail
          go_roundw
          case rel => exact ⟨2, L, p' + 1, by go_num, by omega, by omega, sub_skip (unhide HSub) rfl, by omega, unhide HS1⟩
          case measure => simp [intOf]
      · have hc : wr.cell? ⟨w.heap.size + 1, 2, none⟩ = some (.string ⟨#[122, 111, 110, 101]⟩) := hS.2.2.2.1 2 (by decide)
        have HS := hide hS
        clear hS
        go_wp2_with fail
        refine (pick_any rb p' _ _ (unhide HS).2.2.2.2.2.1 (by omega) (by omega)).mono ?_
        rintro e w1 ⟨x, rfl, x0, x1, -, r1, g1⟩
        have HS1 := hide ((unhide HS).pick r1 g1)
        clear HS hc r1 g1 x1
        by_cases hx : x = 0
        · subst hx
          go_wp2_with fail
          have hof := of_new rb (p' + 1) [⟨#[97]⟩, ⟨#[97, 98]⟩, ⟨#[98]⟩, ⟨#[97]⟩, ⟨#[97]⟩] _ (unhide HS1).2.2.2.2.2.1 (by omega) (by simp) (by simp)
          simp only [List.map_cons, List.map_nil, List.length_cons, List.length_nil, Nat.zero_add, Nat.reduceAdd] at hof
          refine hof.mono ?_
          clear hof
          rintro e w3 ⟨B, rfl, hB, r3, g3⟩
          have B0 := hide (show B ∈ words4 by
            simp only [List.mem_cons, List.not_mem_nil, or_false] at hB
            rcases hB with rfl | rfl | rfl | rfl | rfl <;> simp [words4])
          have HT := hide ((unhide HS1).pick r3 g3)
          clear HS1 r3 g3 hB
          go_wp2_with (at_builtin; refine app_wp _ rfl _ _ _ rfl w.heap.size 47 i0 _ 2 32 Try.underlying24 hi hz0 hz1 hz2 rfl (by omega) _ L.length _ rfl ((unhide HT).2.1.alloc _) _ 1 [.string ⟨#[122, 111, 110, 101]⟩, .string B] rfl (lies_new rfl rfl hmx) (by simp [Value.oneCell']) (by unfold maxLen; omega) (by omega) (by have := (unhide HT).2.2.2.2.1; simp; omega) ?_; intro vn w9 on gn an)
          have HU := hide ((unhide HT).app (x := (⟨#[122, 111, 110, 101]⟩, B)) ⟨by simp [names4, names3], unhide B0⟩ rfl rfl on gn an)
          clear on gn an HT
          go_wp2_with fail
          go_roundw
          case rel => exact ⟨3, L ++ [(⟨#[122, 111, 110, 101]⟩, B)], p' + 1 + 1, by go_num, by omega, by rw [List.length_append]; exact Nat.add_le_add_right hL 1, sub_app (unhide HSub) rfl, by omega, unhide HU⟩
          case measure => simp [intOf]
        · have hxf : (x == 0) = false := by simpa using hx
          go_wp2_with fail
          go_roundw
          case rel => exact ⟨3, L, p' + 1, by go_num, by omega, by omega, sub_skip (unhide HSub) rfl, by omega, unhide HS1⟩
          case measure => simp [intOf]
    · obtain rfl : i = 3 := by omega
      obtain ⟨-, am, cm, rfl, -⟩ := lies_of_own hS.2.1
      have HS := hide hS
      clear hS
      by_cases hl0 : L.length = 0
      · have hz : ((L.length : Int) == 0) = true := by simp [hl0]
        go_wp2_with (at_builtin; refine app_wp _ rfl _ _ _ rfl w.heap.size 47 i0 _ 2 32 Try.underlying24 hi hz0 hz1 hz2 rfl (by omega) _ L.length _ rfl ((unhide HS).2.1.alloc _) _ 1 [.string ⟨#[106, 111, 98]⟩, .string ⟨#[120]⟩] rfl (lies_new rfl rfl hmx) (by simp [Value.oneCell']) (by unfold maxLen; omega) (by omega) (by have := (unhide HS).2.2.2.2.1; simp; omega) ?_; intro vn w9 on gn an)
        have HU := hide ((unhide HS).app (x := (⟨#[106, 111, 98]⟩, ⟨#[120]⟩)) ⟨by simp [names4, names3], by simp [words4]⟩ rfl rfl on gn an)
        clear on gn an HS
        go_wp2_with fail
        go_ret
        obtain ⟨h1, h2, -, -, -, h7, h8, -⟩ := unhide HU
        exact ⟨_, _, rfl, by rw [List.length_append]; exact Nat.succ_pos _, by rw [List.length_append, hl0]; decide, ok_job L hl0, h2, ⟨p', by omega, h7⟩, h8⟩
      · have hz : ((L.length : Int) == 0) = false := beq_false_of_ne (by omega)
        go_wp2_with fail
        go_ret
        obtain ⟨h1, h2, -, -, -, h7, h8, -⟩ := unhide HS
        exact ⟨_, _, rfl, by omega, by omega, ok_names (unhide HSub) h1 (by omega), h2, ⟨p', by omega, h7⟩, h8⟩
end Go.Proofs.Ytncjagdnebpaaaa.Draw
