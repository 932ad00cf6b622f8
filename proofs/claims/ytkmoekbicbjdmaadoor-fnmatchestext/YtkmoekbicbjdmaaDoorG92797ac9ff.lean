/- My own texts of one claim, laid together by program: MatGet2, LabGet3, MatGet3, AlMat. -/
import Derived.Test.YtkmoekbicbjdmaaDoorG889c93eef0
import Derived.Test.YtkmoekbicbjdmaaDoorG6d921683cd
import Derived.Deep.RegionHeld3
import Derived.Test.YtkmoekbicbjdmaaDoorG4d6b791a7c
import Derived.Test.YtkmoekbicbjdmaaDoorG228d3bb8bd
import Derived.Test.YtkmoekbicbjdmaaDoorGbf620389e9
import Derived.Laws.StructEq
/- MatchesGet of the program, at every text. What it asks: internal/bytealg.MaxLen holds some int, as in every world of a started program. -/
namespace Go.Proofs.YtkmoekbicbjdmaaDoor.Mat
open Go.RowKit Rw PutMath CutText
open Lab (within_any piecesOf pieces_size pieces_len pieces_cell Mx flatS mid ofL)
set_option linter.unusedVariables false
attribute [local go_sem ↓] Go.wp_at_zero Go.wp_at_succ
theorem pI_is {s : ByteArray} {m : List UInt8} (h : s.data.toList = 91 :: m ++ [93]) : pI s = (piecesOf m).map matchE := by
  have hm : mid s = m := by unfold mid; rw [h]; simp
  unfold pI Lab.partsI piecesOf
  rw [hm]
/-- what reading a text answers -/
def Got (s : ByteArray) (w : World) (e : Ending) (w' : World) : Prop := ∃ v, e = .returned (.tuple #[v, .bool (getB s).2]) ∧ w'.ownsRow w.heap.size 61 3 v (getB s).1.length (flat (getB s).1) ∧ Below w.heap.size w w'
set_option maxRecDepth 100000 in
set_option maxHeartbeats 4000000 in
theorem impl_get (s : ByteArray) (w : World) (hs : s.size ≤ 4194304) (hm : Mx w) : Calls Tryd.prog 18 #[.string s] w (Got s w) := by
  obtain ⟨i0, hi, hz0, hz1, hz2⟩ := info_parts info_e
  have HW := hide (within_any s 91 93 w hs hm)
  have HM := hide hm
  have hmx : 1 ≤ maxLen := by unfold maxLen; omega
  unfold Got
  obtain ⟨G, hG⟩ : ∃ G, G = getB s := ⟨_, rfl⟩
  rw [← hG]
  have HG := hide hG
  clear hG hm
  go_enter Tryd.func18, Tryd.ntmps18
  go_wp2_with fail
  refine (unhide HW).mono ?_
  rintro e w1 (⟨hno, rfl, rfl⟩ | ⟨m, v, hm1, rfl, ov, b1⟩)
  · have HF := hide ((unhide HG).trans (getB_last hno))
    clear hno HW HG
    go_wp2_with fail
    go_ret2
    obtain rfl := unhide HF
    exact ⟨_, rfl, World.ownsRow_nil _ _ _ _, Below.refl _ _⟩
  obtain ⟨va, vq, rfl, hq1, hq2, hcell⟩ := pieces_cell ov
  have HP := hide (pI_is hm1)
  have hl : m.length ≤ 4194304 := by
    have h2 : s.data.toList.length = s.size := Array.length_toList
    rw [hm1] at h2
    simp at h2
    omega
  have HS := hide (fun p hp => Nat.le_trans (pieces_size (m := m) p hp) hl)
  have hpl := pieces_len m
  have HC := hide hcell
  have HS0 := hide (show s.size ≠ 0 by intro e; have h2 : s.data.toList.length = s.size := Array.length_toList; rw [hm1, e] at h2; simp at h2)
  have HM1 := hide ((unhide HM).below b1)
  have z1 := b1.size
  obtain ⟨P, hP⟩ : ∃ P, P = piecesOf m := ⟨_, rfl⟩
  rw [← hP] at HP HS HC hpl hq1 ⊢
  obtain ⟨n, hn⟩ : ∃ n, n = P.length := ⟨_, rfl⟩
  have HN := hide hn
  rw [← hn] at hpl hq1 ⊢
  have hn2 : n ≤ 4194305 := by omega
  unfold maxLen at hq2
  clear hm1 ov hcell hP hn HW hpl HM
  go_wp2_with fail
  go_loopw [6, 18] (fun lv i wr => ∃ (k : Nat) (pa : Option Addr) (pc : Nat), k ≤ n ∧ i = .int .i64 k ∧ lv = .slice pa k pc ∧ wr.ownsRow w1.heap.size 61 3 (.slice pa k pc) k (flat ((P.take k).map matchE)) ∧ Below w1.heap.size w1 wr) (fun _ i _ => n - (intOf i).toNat)
  case atStart => exact ⟨0, none, 0, Nat.zero_le _, rfl, rfl, World.ownsRow_nil _ _ _ _, Below.refl _ _⟩
  case round =>
    obtain ⟨k, pa, pc, hk, rfl, rfl, hown, hbel⟩ := hrel
    have hsz := hbel.size
    have hk0 : (0 : Int) ≤ (k : Int) := Int.natCast_nonneg _
    by_cases hlt : k < n
    · have hkP : k < P.length := by rw [← unhide HN]; exact hlt
      obtain ⟨b, off, rfl, hbl, hc0'⟩ := unhide HC k hkP
      have hc0 : wr.cell? ⟨b, off + k, none⟩ = some (.string P[k]) := (hbel.cell (p := ⟨b, _, none⟩) hbl).trans hc0'
      have hps := unhide HS P[k] (List.getElem_mem hkP)
      have HPS := hide (show flat ((P.take (k + 1)).map matchE) = flat ((P.take k).map matchE) ++ [.int .i64 (matchE P[k]).1, .string (matchE P[k]).2.1, .string (matchE P[k]).2.2] by
        rw [List.take_succ_eq_append_getElem hkP, List.map_append]; unfold flat; rw [flatOf_append, List.map_cons, List.map_nil, flatOf_one]; rfl)
      have HCut := hide (matchOf_any P[k] wr (by omega))
      unfold aggM at HCut
      generalize (matchE P[k]).1 = K at HCut HPS
      generalize (matchE P[k]).2.1 = A at HCut HPS
      generalize (matchE P[k]).2.2 = B at HCut HPS
      generalize P[k] = pk at hc0 hps HCut
      have hk1 : (k : Int) < (n : Int) := by omega
      clear hc0'
      go_wp2_with fail
      refine (unhide HCut).mono ?_
      rintro e w2 ⟨rfl, b2⟩
      have hown2 := own_below hown b2
      have hbel2 := hbel.trans (b2.mono hsz)
      have hsz2 := hbel2.size
      clear hown hc0 HCut b2
      go_wp2_with (at_builtin; refine app_wp _ rfl _ _ _ rfl w1.heap.size 61 i0 _ 3 40 Tryd.underlying32 hi hz0 hz1 hz2 rfl (by omega) _ k _ rfl (hown2.alloc _) _ 1 [.int .i64 K, .string A, .string B] rfl (lies_new (by simp) rfl hmx) (by simp [Value.oneCell']) (by unfold maxLen; omega) (by omega) (by simp; omega) ?_; intro vn wn on gn an)
      have R9 : Below w1.heap.size w1 wn := below_grown (hbel2.alloc hsz2 _) (by simp; omega) gn (own_ge hown2)
      have R2 := hide (show wn.ownsRow w1.heap.size 61 3 vn (k + 1) (flat ((P.take (k + 1)).map matchE)) by rw [unhide HPS]; exact on)
      obtain ⟨an', cn, hvn⟩ : ∃ a c, vn = .slice a (k + 1) c := by obtain ⟨-, a, c, e, -⟩ := lies_of_own on; exact ⟨a, c, e⟩
      have HV := hide hvn
      clear on gn an hown2 hvn hbel2 hsz2
      go_wp2_with fail
      go_roundw
      case rel => exact ⟨k + 1, an', cn, by omega, by go_num, unhide HV, by rw [← unhide HV]; exact unhide R2, R9⟩
      case measure => simp [intOf]; omega
    · obtain rfl : k = n := by omega
      rw [List.take_of_length_le (by have := unhide HN; omega), ← unhide HP] at hown
      have hkf : decide ((k : Int) < (k : Int)) = false := by simp
      have hlen : (pI s).length = k := by rw [unhide HP, List.length_map]; exact (unhide HN).symm
      have hgood : ∀ x ∈ pI s, good x := by
        rw [unhide HP]
        intro x hx
        obtain ⟨p, hp, rfl⟩ := List.mem_map.1 hx
        have h1 := unhide HS p hp
        exact good_of (matchE_sizes p) (by unfold maxLen; omega)
      obtain ⟨L, hL⟩ : ∃ L, L = pI s := ⟨_, rfl⟩
      rw [← hL] at hown hlen hgood
      have hIs : Is wr (.slice pa k pc) L := by rw [← hlen]; exact lies_of_own (by rw [hlen]; exact hown)
      have HI := hide (impl_put hIs hgood (by rw [hlen]; unfold maxLen; omega))
      have HOW := hide (show wr.ownsRow w1.heap.size 61 3 (.slice pa k pc) L.length (flat L) by rw [hlen]; exact hown)
      have HIs := hide hIs
      have HL := hide hL
      have b02 := b1.trans (hbel.mono z1)
      clear hown hlen hgood hIs hL hkf
      go_wp2_with fail
      refine (unhide HI).mono ?_
      rintro e w3 ⟨rfl, b3⟩
      have b03 := b02.trans (b3.mono b02.size)
      have HO3 := hide (own_mono (own_below (unhide HOW) b3) z1)
      clear HIs HI HOW b3 b02 hbel
      by_cases hp : put L = s
      · have hG2 := (unhide HG).trans (getB_of hp (unhide HS0))
        have HGG := hide hG2
        have hqq : (s.toList == s.toList) = true := by simp
        clear hG2 HG HL
        rw [hp]
        clear hp
        go_wp2_with fail
        go_ret2
        obtain rfl := unhide HGG
        exact ⟨_, rfl, unhide HO3, b03⟩
      · have HGG := hide ((unhide HG).trans (getB_put_ne (by rw [← unhide HL]; exact hp)))
        have hne : ((put L).toList == s.toList) = false := sameS_no.2 hp
        clear hp HG HL
        generalize put L = P1 at hne ⊢
        go_wp2_with fail
        go_ret2
        obtain rfl := unhide HGG
        exact ⟨_, rfl, World.ownsRow_nil _ _ _ _, b03⟩
end Go.Proofs.YtkmoekbicbjdmaaDoor.Mat

/- LabelsGet of the model, at every text. No condition but the text's length. -/
namespace Go.Proofs.YtkmoekbicbjdmaaDoor.Lab
open Go.RowKit Rw PutMath CutText
set_option linter.unusedVariables false
attribute [local go_sem ↓] Go.wp_at_zero Go.wp_at_succ
theorem mid_ext {s : ByteArray} (h : 2 ≤ s.size) : (s.extract 1 (s.size - 1)).data.toList = mid s := by
  rw [ext_list]
  unfold mid
  have hl : s.data.toList.length = s.size := Array.length_toList
  rw [List.dropLast_eq_take, List.length_drop, hl]
theorem two_of {t : List UInt8} (h : (cutL 61 t).length = 2) : cutB 61 (ofL t) = [(twoE t).1, (twoE t).2] := by
  unfold cutB twoE
  rw [ofL_list]
  match e : cutL 61 t, h with
  | [a, b], _ => rfl
theorem two_size (t : List UInt8) : (twoE t).1.size ≤ t.length ∧ (twoE t).2.size ≤ t.length := by
  unfold twoE
  split
  · rename_i a b e
    have h := cutL_mem 61 t
    rw [e] at h
    exact ⟨by rw [ofL, size_of]; exact h a (by simp), by rw [ofL, size_of]; exact h b (by simp)⟩
  · exact ⟨Nat.zero_le _, Nat.zero_le _⟩
theorem cutB_ofL (b : UInt8) (t : List UInt8) : cutB b (ofL t) = (cutL b t).map ofL := by unfold cutB; rw [ofL_list]; rfl
theorem own_len {w : World} {base n n' size : Nat} {e : TypeId} {v : Value} {xs ys : List Value} (h : w.ownsRow base e size v n xs) (hn : n = n') (hx : xs = ys) : w.ownsRow base e size v n' ys := by rw [← hn, ← hx]; exact h
theorem own_grown {w w' : World} {base n size : Nat} {e : TypeId} {v : Value} {xs : List Value} {row : Option Nat} (h : w.ownsRow base e size v n xs) (hg : w.grownBy w' row) (hne : ∀ k, v.ownBlock = some k → row ≠ some k) : w'.ownsRow base e size v n xs := by
  refine ⟨h.1, ?_⟩
  rcases h.2 with h1 | ⟨c, cap, cur, h1, h2, h3, h4⟩
  · exact .inl h1
  · refine .inr ⟨c, cap, cur, h1, h2, ?_, h4⟩
    have hl := own_block_lt h c (by rw [h1]; rfl)
    rw [hg.block c hl (fun e => hne c (by rw [h1]; rfl) e.symm)]
    exact h3
/-- a slice of slices, all of them rows of the call's own, from a block on -/
theorem own_empty (w : World) (t : TypeId) (size : Nat) : (w.alloc (.cells #[] t)).ownsRow w.heap.size t size (.slice (some ⟨w.heap.size, 0, none⟩) 0 0) 0 [] :=
  Draw.own_new (w := w) (cs := #[]) (t := t) (n := 0) (size := size) (base := w.heap.size) rfl (by simp) (Nat.zero_le _) (Nat.le_refl _)
theorem ok_good {zs : List E} (h : ok zs = true) : ∀ x ∈ zs, good x := fun x hx => by
  have := (ok_small h).2 x hx
  exact ⟨by unfold maxLen; omega, by unfold maxLen; omega⟩
/-- what was put, read -/
theorem put_any (zs : List E) : (put zs).size ≤ 200 ∧ getB (put zs) = (if ok zs = true then zs else [], ok zs) := by
  cases h : ok zs
  · have e : put zs = ByteArray.empty := by unfold put; rw [h]; rfl
    rw [e]
    exact ⟨by decide, getB_len (.inl (by decide))⟩
  · exact ⟨(put_size h).2, by rw [getB_put h]; rfl⟩
theorem getB_four (s : ByteArray) : (getB s).1.length ≤ 4 := by
  by_cases hc : s.size ≠ 0 ∧ put (pI s) = s
  · rw [getB_of hc.2 hc.1]
    exact (ok_len (of_put hc.2 hc.1)).2
  · unfold getB
    rw [if_neg hc]
    simp
set_option maxRecDepth 100000 in
set_option maxHeartbeats 4000000 in
theorem spec_get (s : ByteArray) (w : World) (hs : s.size ≤ 4194304) : Calls Tryd.prog 15 #[.string s] w (Got s w) := by
  obtain ⟨i0, hi, hz0, hz1, hz2⟩ := info_parts info_e
  have hmx : 1 ≤ maxLen := by unfold maxLen; omega
  unfold Got
  obtain ⟨G, hG⟩ : ∃ G, G = getB s := ⟨_, rfl⟩
  rw [← hG]
  have HG := hide hG
  clear hG
  have HE := hide (own_empty w 47 2)
  have HB0 := hide ((Below.refl w.heap.size w).alloc (Nat.le_refl _) (.cells #[] 47))
  by_cases h1 : s.size < 2
  · have HF := hide ((unhide HG).trans (getB_len (.inl h1)))
    have h1I : (s.size : Int) < 2 := by omega
    clear HG
    go_enter Tryd.func15, Tryd.ntmps15
    go_wp2_with fail
    go_ret2
    obtain rfl := unhide HF
    exact ⟨_, rfl, unhide HE, unhide HB0⟩
  have h1I : decide ((s.size : Int) < 2) = false := by simp; omega
  have h1N : decide (s.size < 2) = false := by simp; omega
  by_cases h2 : 200 < s.size
  · have HF := hide ((unhide HG).trans (getB_len (.inr h2)))
    have h2I : (200 : Int) < (s.size : Int) := by omega
    clear HG
    go_enter Tryd.func15, Tryd.ntmps15
    go_wp2_with fail
    go_ret2
    obtain rfl := unhide HF
    exact ⟨_, rfl, unhide HE, unhide HB0⟩
  have h2I : decide ((200 : Int) < (s.size : Int)) = false := by simp; omega
  have h2N : decide (200 < s.size) = false := by simp; omega
  obtain ⟨n1, hn1⟩ : ∃ n, n = s.size - 1 := ⟨_, rfl⟩
  have hnI : (s.size : Int) - 1 = (n1 : Int) := by omega
  have hn2 : 1 ≤ n1 := by omega
  have hn2I : (1 : Int) ≤ (n1 : Int) := by omega
  have hn3 : n1 ≤ s.size := by omega
  have hn3I : (n1 : Int) ≤ (s.size : Int) := by omega
  have HX := hide (show (s.extract 1 n1).data.toList = mid s by rw [hn1]; exact mid_ext (by omega))
  have HXs := hide (show (s.extract 1 n1).size ≤ 200 by rw [ByteArray.size_extract]; omega)
  have HS2 := hide (show 2 ≤ s.size by omega)
  have HCut := hide (fun W => l3Cut_any (s.extract 1 n1) 44 44 rfl W (by have := unhide HXs; omega))
  obtain ⟨T, hT⟩ : ∃ T, T = cutL 44 (mid s) := ⟨_, rfl⟩
  have HTP := hide (show cutB 44 (s.extract 1 n1) = T.map ofL by unfold cutB; rw [unhide HX, hT]; rfl)
  have hml : (mid s).length ≤ 200 := by
    rw [← unhide HX]
    have h4 : (s.extract 1 n1).data.toList.length = (s.extract 1 n1).size := Array.length_toList
    have := unhide HXs
    omega
  have HTL := hide (show T.length ≤ 201 by rw [hT]; have := cutL_len 44 (mid s); omega)
  have HTM := hide (show ∀ t ∈ T, t.length ≤ 200 from fun t ht => by
    rw [hT] at ht
    have h3 := cutL_mem 44 (mid s) t ht
    omega)
  rw [unhide HTP] at HCut
  simp only [List.length_map] at HCut
  have HT := hide hT
  clear hn1 hT hml
  go_enter Tryd.func15, Tryd.ntmps15
  go_wp2_with fail
  refine (unhide HCut _).mono ?_
  rintro e w1 ⟨v, rfl, ov, b1⟩
  have z1 := b1.size
  simp only [World.size_alloc] at z1
  obtain ⟨va, vq, rfl, hq1, hq2⟩ : ∃ a q, v = .slice a T.length q ∧ T.length ≤ q ∧ q ≤ maxLen := by obtain ⟨-, a, q, e, h1, h2, -⟩ := lies_of_own ov; exact ⟨a, q, e, h1, h2⟩
  unfold maxLen at hq2
  obtain ⟨n, hn⟩ : ∃ n, n = T.length := ⟨_, rfl⟩
  have HN := hide hn
  rw [← hn] at ov hq1 ⊢
  have OV := hide (own_mono ov (show w.heap.size ≤ (w.alloc (.cells #[] 47)).heap.size by simp))
  have hnb : n ≤ 201 := by rw [hn]; exact unhide HTL
  have OE := hide (own_below (unhide HE) b1)
  have B1 := (unhide HB0).trans (b1.mono (by simp))
  clear ov hn b1 HE HB0 HCut
  go_wp2_with fail
  go_loopw [4, 6] (fun ov i wr => ∃ (k : Nat) (pa : Option Addr) (pc : Nat), k ≤ n ∧ i = .int .i64 k ∧ ov = .slice pa k pc ∧ wr.ownsRow w.heap.size 47 2 (.slice pa k pc) k (flat ((T.take k).map twoE)) ∧ Hid (wr.ownsRow w.heap.size 9 1 (.slice va n vq) n (flatS (T.map ofL))) ∧ Below w.heap.size w wr) (fun _ i _ => n - (intOf i).toNat)
  case atStart => exact ⟨0, _, 0, Nat.zero_le _, rfl, rfl, unhide OE, OV, B1⟩
  case round =>
    clear OE OV B1 z1
    obtain ⟨k, pa, pc, hk, rfl, rfl, hown, HV, hbel⟩ := hrel
    have hsz := hbel.size
    have hk0 : (0 : Int) ≤ (k : Int) := Int.natCast_nonneg _
    by_cases hlt : k < n
    · have hkT : k < T.length := by rw [← unhide HN]; exact hlt
      obtain ⟨a', q', e', -, -, hcl⟩ := pieces_cell (P := T.map ofL) (own_len (unhide HV) (by rw [List.length_map]; exact unhide HN) rfl)
      simp only [Value.slice.injEq] at e'
      obtain ⟨rfl, -, rfl⟩ := e'
      obtain ⟨b, off, rfl, hbl, hc0⟩ := hcl k (by rw [List.length_map]; exact hkT)
      rw [List.getElem_map] at hc0
      have hts := unhide HTM T[k] (List.getElem_mem hkT)
      have HPS := hide (show flat ((T.take (k + 1)).map twoE) = flat ((T.take k).map twoE) ++ [.string (twoE T[k]).1, .string (twoE T[k]).2] by
        rw [List.take_succ_eq_append_getElem hkT, List.map_append]; unfold flat; rw [flatOf_append, List.map_cons, List.map_nil, flatOf_one]; rfl)
      have HMem := hide (show T[k] ∈ cutL 44 (mid s) by rw [← unhide HT]; exact List.getElem_mem hkT)
      obtain ⟨t, ht⟩ : ∃ t, t = T[k] := ⟨_, rfl⟩
      rw [← ht] at hc0 hts HPS HMem
      have HC1 := hide (l3Cut_any (ofL t) 61 61 rfl wr (by rw [ofL, size_of]; omega))
      rw [cutB_ofL] at HC1
      simp only [List.length_map] at HC1
      have hk1 : (k : Int) < (n : Int) := by omega
      have H2 := hide (fun (h : (cutL 61 t).length = 2) => two_of h)
      rw [cutB_ofL] at H2
      clear ht hcl
      go_wp2_with fail
      refine (unhide HC1).mono ?_
      rintro e w2 ⟨u, rfl, ou, b2⟩
      have z2 := b2.size
      by_cases h2 : (cutL 61 t).length = 2
      · rw [unhide H2 h2, h2] at ou
        obtain ⟨ua, uq, rfl, hu1, hu2, hcl⟩ := pieces_cell (P := [(twoE t).1, (twoE t).2]) ou
        obtain ⟨ub, uo, rfl, hubl, hu0⟩ := hcl 0 (by simp)
        obtain ⟨ub', uo', e', -, hu1'⟩ := hcl 1 (by simp)
        simp only [Option.some.injEq, Addr.mk.injEq, and_true] at e'
        obtain ⟨rfl, rfl⟩ := e'
        have hug := own_ge ou ub rfl
        simp only [List.getElem_cons_zero, List.getElem_cons_succ, Nat.add_zero, List.length_cons, List.length_nil] at hu0 hu1' hu1 ⊢
        obtain ⟨A, hA⟩ : ∃ A, A = (twoE t).1 := ⟨_, rfl⟩
        obtain ⟨B, hB⟩ : ∃ B, B = (twoE t).2 := ⟨_, rfl⟩
        rw [← hA] at hu0 HPS
        rw [← hB] at hu1' HPS
        have hown2 : w2.drew.ownsRow w.heap.size 47 2 (.slice pa k pc) k (flat ((T.take k).map twoE)) := World.ownsRow.drew (own_below hown b2)
        have hob : some ub ≠ (Value.slice pa k pc).ownBlock := fun e => by have := own_block_lt hown ub e.symm; omega
        have HV2 := hide (World.ownsRow.drew (own_below (unhide HV) b2))
        have hbel2 : Below w.heap.size w w2.drew := (hbel.trans (b2.mono hsz)).drew
        have S6 : (fun W : World => W.cell? ⟨ub, uo, none⟩ = some (.string A) ∧ W.cell? ⟨ub, uo + 1, none⟩ = some (.string B)) w2.drew := ⟨by simpa using hu0, by simpa using hu1'⟩
        have S9 : ∀ o, (fun W : World => W.cell? ⟨ub, uo, none⟩ = some (.string A) ∧ W.cell? ⟨ub, uo + 1, none⟩ = some (.string B)) (w2.drew.alloc o) := fun o => ⟨(((Below.refl _ _).alloc (Nat.le_refl _) _).cell (p := ⟨ub, _, none⟩) (by first | (simp; omega) | simpa using hubl)).trans S6.1, (((Below.refl _ _).alloc (Nat.le_refl _) _).cell (p := ⟨ub, _, none⟩) (by first | (simp; omega) | simpa using hubl)).trans S6.2⟩
        have hubl2 : ub < w2.drew.heap.size := by simpa using hubl
        have hsz2 := hbel2.size
        clear hcl ou hu0 hu1' hA hB hown HC1 H2 hc0 b2 HMem h2
        go_wp2_with fail
        go_region_held3 (fun W => W.cell? ⟨ub, uo, none⟩ = some (.string A) ∧ W.cell? ⟨ub, uo + 1, none⟩ = some (.string B)) (first | exact S6 | exact S9 _ | exact S10) ((refine app_step _ (by rfl) _ _ _ (by rfl) w.heap.size 47 i0 _ 2 32 Tryd.underlying23 hi hz0 hz1 hz2 rfl (by omega) _ k _ (by rfl) (World.ownsRow.alloc hown2 _) _ 1 [.string A, .string B] (by rfl) (lies_new (w := w2.drew) (by simp) rfl hmx) (by simp [Value.oneCell']) (by unfold maxLen; omega) (by omega) (by simp <;> omega) ?_; intro vn wn on gn an; have S10 : (fun W : World => W.cell? ⟨ub, uo, none⟩ = some (.string A) ∧ W.cell? ⟨ub, uo + 1, none⟩ = some (.string B)) wn := ⟨by rw [gn.cell_far _ (by simp <;> omega) hob]; exact (S9 _).1, by rw [gn.cell_far _ (by simp <;> omega) hob]; exact (S9 _).2⟩))
        have R9 : Below w.heap.size w wn := below_grown (hbel2.alloc hsz2 _) (by simp <;> omega) gn (own_ge hown2)
        have R2 := hide (show wn.ownsRow w.heap.size 47 2 vn (k + 1) (flat ((T.take (k + 1)).map twoE)) by rw [unhide HPS]; exact on)
        have R3 := hide (show wn.ownsRow w.heap.size 9 1 (.slice (some ⟨b, off, none⟩) n vq) n (flatS (T.map ofL)) from own_grown (World.ownsRow.alloc (unhide HV2) _) gn (fun j hj e => own_ne_type (unhide HV2) hown2 (by decide) j hj e))
        obtain ⟨an', cn, hvn⟩ : ∃ a c, vn = .slice a (k + 1) c := by obtain ⟨-, a, c, e, -⟩ := lies_of_own on; exact ⟨a, c, e⟩
        have HVn := hide hvn
        clear on gn an hown2 hvn hbel2 S6 S9 S10
        go_wp2_with fail
        go_roundw
        case rel => exact ⟨k + 1, an', cn, by omega, by go_num, unhide HVn, by rw [← unhide HVn]; exact unhide R2, R3, R9⟩
        case measure => simp [intOf]; omega
      · obtain ⟨ua, un, uq, hun, rfl⟩ : ∃ a n q, n = (cutL 61 t).length ∧ u = .slice a n q := by obtain ⟨-, a, q, e, -⟩ := lies_of_own ou; exact ⟨a, _, q, rfl, e⟩
        have HF := hide ((unhide HG).trans (getB_part (unhide HMem) h2))
        have hne : un ≠ 2 := by rw [hun]; exact h2
        have hneI : ((un : Int) == 2) = false := beq_eq_false_iff_ne.2 (by omega)
        have hneN : (un == 2) = false := beq_eq_false_iff_ne.2 hne
        have hneJ : ((un : Int) != 2) = true := by simp; omega
        have hb2 := hbel.trans (b2.mono hsz)
        have HE2 := hide (own_mono (own_empty w2 47 2) hb2.size)
        have HB2 := hide (hb2.alloc hb2.size (.cells #[] 47))
        clear ou hown HC1 H2 hc0 b2 HMem h2 hun HPS HG hb2
        go_wp2_with fail
        go_ret2
        obtain rfl := unhide HF
        exact ⟨_, rfl, unhide HE2, unhide HB2⟩
    · obtain rfl : k = n := by omega
      rw [List.take_of_length_le (by have := unhide HN; omega)] at hown
      have hkf : decide ((k : Int) < (k : Int)) = false := by simp
      obtain ⟨L, hL⟩ : ∃ L, L = T.map twoE := ⟨_, rfl⟩
      have hlen : L.length = k := by rw [hL, List.length_map]; exact (unhide HN).symm
      have hgood : ∀ x ∈ L, good x := by
        rw [hL]
        intro x hx
        obtain ⟨p, hp, rfl⟩ := List.mem_map.1 hx
        have h1 := unhide HTM p hp
        have h2 := two_size p
        exact ⟨by unfold maxLen; omega, by unfold maxLen; omega⟩
      rw [← hL] at hown
      have hIs : Is wr (.slice pa k pc) L := by rw [← hlen]; exact lies_of_own (by rw [hlen]; exact hown)
      have HI := hide (spec_put hIs hgood (by rw [hlen]; unfold maxLen; omega))
      have HL := hide (show L = (cutL 44 (mid s)).map twoE by rw [hL, unhide HT])
      have HO := hide (own_len hown hlen.symm rfl)
      clear hown hlen hgood hIs hL hkf
      go_wp2_with fail
      refine (unhide HI).mono ?_
      rintro e w3 ⟨rfl, b3⟩
      have b03 := hbel.trans (b3.mono hsz)
      have HO3 := hide (own_below (unhide HO) b3)
      clear HO HI b3 hbel
      by_cases hp : put L = s
      · have HGG := hide ((unhide HG).trans (getB_of hp (by have := unhide HS2; omega)))
        have hqq : (s.toList == s.toList) = true := by simp
        clear HG HL
        rw [hp]
        clear hp
        go_wp2_with fail
        go_ret2
        obtain rfl := unhide HGG
        exact ⟨_, rfl, unhide HO3, b03⟩
      · have HGG := hide ((unhide HG).trans (getB_two_ne (by rw [← unhide HL]; exact hp)))
        have hne : ((put L).toList == s.toList) = false := Mat.sameS_no.2 hp
        have HE2 := hide (own_mono (own_empty w3 47 2) b03.size)
        have HB2 := hide (b03.alloc b03.size (.cells #[] 47))
        clear hp HG HL
        generalize put L = P1 at hne ⊢
        go_wp2_with fail
        go_ret2
        obtain rfl := unhide HGG
        exact ⟨_, rfl, unhide HE2, unhide HB2⟩
end Go.Proofs.YtkmoekbicbjdmaaDoor.Lab

/- MatchesGet of the model, at every text. No condition but the text's length. -/
namespace Go.Proofs.YtkmoekbicbjdmaaDoor.Mat
open Go.RowKit Rw PutMath CutText
open Lab (l3Cut_any piecesOf pieces_cell flatS mid ofL cutB_ofL mid_ext own_len own_grown)
set_option linter.unusedVariables false
set_option linter.unusedSimpArgs false
attribute [local go_sem ↓] Go.wp_at_zero Go.wp_at_succ
theorem kind_some {p : ByteArray} {i : Nat} {k : Nat} (h1 : 1 ≤ k) (h4 : k ≤ 4) (hq : sgn k = bAt p i) (hi : i < p.size) (h : ∀ j, j < i → kindB (bAt p j) = 0) : matchS p = some ((k : Int), p.extract 0 i, p.extract (i + 1) p.size) := by
  have hk : kindB (bAt p i) = (k : Int) := (kind_eq (by omega) (by omega)).2 hq
  rw [matchS_hit hi h (by rw [hk]; omega)]
  unfold cutAt
  rw [hk]
theorem mbox_set {w : World} {q : Nat} {a b c : Value} (x y z : Value) (h : MB w q a b c) : (w.setCell ⟨q, 0, none⟩ x).cell? ⟨q, 0, none⟩ = some x ∧ ((w.setCell ⟨q, 0, none⟩ x).setCell ⟨q, 1, none⟩ y).cell? ⟨q, 1, none⟩ = some y ∧ (((w.setCell ⟨q, 0, none⟩ x).setCell ⟨q, 1, none⟩ y).setCell ⟨q, 2, none⟩ z).cell? ⟨q, 2, none⟩ = some z ∧ (w.setCell ⟨q, 1, none⟩ y).cell? ⟨q, 1, none⟩ = some y ∧ (w.setCell ⟨q, 2, none⟩ z).cell? ⟨q, 2, none⟩ = some z := by
  have h2 : MB (w.setCell ⟨q, 0, none⟩ x) q x b c := (h.stored 0 x).1
  have h3 : MB ((w.setCell ⟨q, 0, none⟩ x).setCell ⟨q, 1, none⟩ y) q x y c := (h2.stored 1 y).1
  have h4 : MB (((w.setCell ⟨q, 0, none⟩ x).setCell ⟨q, 1, none⟩ y).setCell ⟨q, 2, none⟩ z) q x y z := (h3.stored 2 z).1
  have g1 : MB (w.setCell ⟨q, 1, none⟩ y) q a y c := (h.stored 1 y).1
  have g2 : MB (w.setCell ⟨q, 2, none⟩ z) q a b z := (h.stored 2 z).1
  exact ⟨(mbox_three h2).1, (mbox_three h3).2.1, (mbox_three h4).2.2, (mbox_three g1).2.1, (mbox_three g2).2.2⟩
theorem mbox_fz {w : World} {q : Nat} {x y z : Value} (h : MB w q x y z) : w.frozen? ⟨q, 0, none⟩ = false ∧ w.frozen? ⟨q, 1, none⟩ = false ∧ w.frozen? ⟨q, 2, none⟩ = false := ⟨h.frozenAt 0, h.frozenAt 1, h.frozenAt 2⟩
set_option maxRecDepth 100000 in
set_option maxHeartbeats 4000000 in
theorem l3Match_any (p : ByteArray) (w : World) (hp : p.size ≤ 4194304) : Calls Tryd.prog 53 #[.string p] w fun e w' => e = .returned (.tuple #[.agg #[.int .i64 ((matchS p).getD zE).1, .string ((matchS p).getD zE).2.1, .string ((matchS p).getD zE).2.2], .bool (matchS p).isSome]) ∧ Below w.heap.size w w' := by
  obtain ⟨X, hX⟩ : ∃ X, X = matchS p := ⟨_, rfl⟩
  rw [← hX]
  have HX := hide hX
  obtain ⟨W0, hW0⟩ : ∃ W, w.alloc (.cells #[.int .i64 0, .string ⟨#[]⟩, .string ⟨#[]⟩] 61) = W := ⟨_, rfl⟩
  have b0 : Below w.heap.size w W0 := by rw [← hW0]; exact (Below.refl _ _).alloc (Nat.le_refl _) _
  have z0 : w.heap.size < W0.heap.size := by rw [← hW0]; simp
  have MB0 : MB W0 w.heap.size (.int .i64 0) (.string ⟨#[]⟩) (.string ⟨#[]⟩) := by rw [← hW0]; exact mbox_new _ _ _ _
  have HMB := hide (fun W (hb : Below W0.heap.size W0 W) => own_below MB0 hb)
  clear MB0 hX
  go_enter Tryd.func53, Tryd.ntmps53
  go_wp2_with fail
  clear hW0
  go_loopw [4] (fun iv wr => ∃ i : Nat, i ≤ p.size ∧ iv = .int .i64 (i : Int) ∧ Hid (∀ j, j < i → kindB (bAt p j) = 0) ∧ Below W0.heap.size W0 wr) (fun iv _ => p.size - (intOf iv).toNat)
  case atStart => exact ⟨0, by omega, rfl, fun j h => by omega, Below.refl _ _⟩
  case round =>
    obtain ⟨i, hi, rfl, HI, hbel⟩ := hrel
    have hsz := hbel.size
    obtain ⟨wo, hwo⟩ : ∃ wo, wo = wr := ⟨_, rfl⟩
    subst hwo
    have i0 : (0 : Int) ≤ (i : Int) := Int.natCast_nonneg _
    by_cases hil : i < p.size
    · have HSg := hide (fun k : Int => sign_ext (k := k) hil)
      have hiI : (i : Int) < (p.size : Int) := by omega
      have n2 : (i : Int) + 1 ≤ (p.size : Int) := by omega
      have n3 : i + 1 ≤ p.size := by omega
      have n4 : (i : Int) ≤ (p.size : Int) := by omega
      have n6 : IntKind.i64.wrap ((i : Int) + 1) = (i : Int) + 1 := Grl.wrap_ok (by omega) (by omega)
      have n7 : (0 : Int) ≤ (i : Int) + 1 := by omega
      have n8 : (i : Int) ≤ (i : Int) + 1 := by omega
      have n9 : ((i : Int) + 1).toNat = i + 1 := by omega
      go_wp2_with fail
      go_loopw [5] (fun kv wr => ∃ k : Nat, 1 ≤ k ∧ k ≤ 5 ∧ kv = .int .i64 (k : Int) ∧ Hid (∀ j : Nat, 1 ≤ j → j < k → sgn j ≠ bAt p i) ∧ Below W0.heap.size W0 wr) (fun kv _ => 5 - (intOf kv).toNat)
      case atStart => exact ⟨1, by omega, by omega, rfl, fun j h1 h2 => by omega, hbel⟩
      case round =>
        clear hbel hsz
        obtain ⟨k, hk1, hk5, rfl, HJ, hbel⟩ := hrel
        have hsz := hbel.size
        by_cases hk : k ≤ 4
        · have hkI : (k : Int) ≤ 4 := by omega
          have hkI1 : (1 : Int) ≤ (k : Int) := by omega
          have hsame := unhide HSg k
          have HSn := hide (l3Sign_any k wr.drew hkI1 hkI)
          have bd := hbel.drew
          by_cases hq : sgn k = bAt p i
          · have hss : sameS (p.extract i (i + 1)) (signB k) = true := by rw [hsame, hq]; simp
            have hself : ((p.extract i (i + 1)).toList == (signB k).toList) = true := hss
            have HXX := hide ((unhide HX).trans (kind_some hk1 hk hq hil (unhide HI)))
            generalize signB k = SK at HSn hself
            clear hsame hss hq HSg HJ
            go_wp2_with fail
            go_region_held3 (fun _ => True) (trivial) ((go_at_call 70; refine (unhide HSn).mono ?_; rintro e w3 ⟨rfl, b3⟩))
            have c3 := bd.trans (b3.mono bd.size)
            clear HSn b3 bd
            have c3d := c3.drew
            obtain ⟨q0, q1, q2⟩ := mbox_three (unhide HMB w3 c3)
            obtain ⟨f0, f1, f2⟩ := mbox_fz (unhide HMB w3 c3)
            obtain ⟨s0, s1, s2, s3, s4⟩ := mbox_set (.int .i64 k) (.string (p.extract 0 i)) (.string (p.extract (i + 1) p.size)) (unhide HMB w3 c3)
            obtain ⟨⟨m0, mf0⟩, ⟨m1, mf1⟩, ⟨m2, mf2⟩, M9, O9⟩ := mbox_put (.int .i64 k) (.string (p.extract 0 i)) (.string (p.extract (i + 1) p.size)) (unhide HMB w3.drew c3d)
            obtain ⟨r0, r1, r2⟩ := mbox_three M9
            have B9 := (b0.trans (c3d.mono b0.size)).trans (O9.below (Nat.le_refl _))
            clear M9 O9
            go_wp2_with fail
            refine Grl.start (S := fun _ => True) (by kernel_rfl) (by trivial) (fun hHeld => ?_)
            refine Grl.yes 0 (v := ?_) rfl (by kernel_rfl) (by kernel_rfl) (by kernel_rfl) (fun _ _ _ h => h) (by kernel_rfl) ?_ (by assumption) ?_
            rotate_left
            · (intro w hSw; (try dsimp only at hSw); go_simp; try with_reducible rfl)
            simp only [Act.put, List.setIfInBounds_toArray, List.set_cons_zero, List.set_cons_succ]
            refine Grl.yes 1 (v := ?_) rfl (by kernel_rfl) (by kernel_rfl) (by kernel_rfl) (fun _ _ _ h => h) (by kernel_rfl) ?_ (by assumption) ?_
            rotate_left
            · (intro w hSw; (try dsimp only at hSw); go_simp; try with_reducible rfl)
            simp only [Act.put, List.setIfInBounds_toArray, List.set_cons_zero, List.set_cons_succ]
            refine Grl.yes 2 (v := ?_) rfl (by kernel_rfl) (by kernel_rfl) (by kernel_rfl) (fun _ _ _ h => h) (by kernel_rfl) ?_ (by assumption) ?_
            rotate_left
            · (intro w hSw; (try dsimp only at hSw); go_simp; try with_reducible rfl)
            simp only [Act.put, List.setIfInBounds_toArray, List.set_cons_zero, List.set_cons_succ]
            refine Grl.yes 3 (v := ?_) rfl (by kernel_rfl) (by kernel_rfl) (by kernel_rfl) (fun _ _ _ h => h) (by kernel_rfl) ?_ (by assumption) ?_
            rotate_left
            · (intro w hSw; (try dsimp only at hSw); go_simp; try with_reducible rfl)
            simp only [Act.put, List.setIfInBounds_toArray, List.set_cons_zero, List.set_cons_succ]
            refine Grl.yes 4 (v := ?_) rfl (by kernel_rfl) (by kernel_rfl) (by kernel_rfl) (fun _ _ _ h => h) (by kernel_rfl) ?_ (by assumption) ?_
            rotate_left
            · (intro w hSw; (try dsimp only at hSw); go_simp; try with_reducible rfl)
            simp only [Act.put, List.setIfInBounds_toArray, List.set_cons_zero, List.set_cons_succ]
            refine Grl.yes 5 (v := ?_) rfl (by kernel_rfl) (by kernel_rfl) (by kernel_rfl) (fun _ _ _ h => h) (by kernel_rfl) ?_ (by assumption) ?_
            rotate_left
            · (intro w hSw; (try dsimp only at hSw); go_simp; try with_reducible rfl)
            simp only [Act.put, List.setIfInBounds_toArray, List.set_cons_zero, List.set_cons_succ]
            refine Grl.yes 6 (v := ?_) rfl (by kernel_rfl) (by kernel_rfl) (by kernel_rfl) (fun _ _ _ h => h) (by kernel_rfl) ?_ (by assumption) ?_
            rotate_left
            · (intro w hSw; (try dsimp only at hSw); go_simp; try with_reducible rfl)
            simp only [Act.put, List.setIfInBounds_toArray, List.set_cons_zero, List.set_cons_succ]
            refine Grl.yes 7 (v := ?_) rfl (by kernel_rfl) (by kernel_rfl) (by kernel_rfl) (fun _ _ _ h => h) (by kernel_rfl) ?_ (by assumption) ?_
            rotate_left
            · (intro w hSw; (try dsimp only at hSw); go_simp; try with_reducible rfl)
            simp only [Act.put, List.setIfInBounds_toArray, List.set_cons_zero, List.set_cons_succ]
            refine Grl.yes 8 (v := ?_) rfl (by kernel_rfl) (by kernel_rfl) (by kernel_rfl) (fun _ _ _ h => h) (by kernel_rfl) ?_ (by assumption) ?_
            rotate_left
            · (intro w hSw; (try dsimp only at hSw); go_simp; try with_reducible rfl)
            simp only [Act.put, List.setIfInBounds_toArray, List.set_cons_zero, List.set_cons_succ]
            refine Grl.one 9 rfl (by kernel_rfl) (fun K hK => ?_)
            go_simp
            skip
            refine hK.out _ _ (by trivial) (fun hHeld => ?_)
            clear hK K
            refine Grl.yes 10 (v := ?_) rfl (by kernel_rfl) (by kernel_rfl) (by kernel_rfl) (fun _ _ _ h => h) (by kernel_rfl) ?_ (by assumption) ?_
            rotate_left
            · (intro w hSw; (try dsimp only at hSw); go_simp; try with_reducible rfl)
            simp only [Act.put, List.setIfInBounds_toArray, List.set_cons_zero, List.set_cons_succ]
            refine wpAnyH_done (by kernel_rfl) ?_ _
            go_wp2_with fail
            refine bodyPost_ret (v := .tuple #[.agg #[.int .i64 k, .string (p.extract 0 i), .string (p.extract (i + 1) p.size)], .bool true]) (by simp [results, Tryd.results53, go_sem, r0, r1, r2, s0, s1, s2, s3, s4]) rfl ?_
            obtain rfl := unhide HXX
            exact ⟨rfl, B9⟩
          · have hss : sameS (p.extract i (i + 1)) (signB k) = false := by
              rw [hsame]; exact decide_eq_false hq
            have hself : ((p.extract i (i + 1)).toList == (signB k).toList) = false := hss
            have HJ2 := hide (show ∀ j : Nat, 1 ≤ j → j < k + 1 → sgn j ≠ bAt p i from fun j h1 h2 => by
              rcases Nat.lt_or_ge j k with h3 | h3
              · exact unhide HJ j h1 h3
              · obtain rfl : j = k := by omega
                exact hq)
            generalize signB k = SK at HSn hself
            clear hsame hss hq HJ
            go_wp2_with fail
            go_region_held3 (fun _ => True) (trivial) ((go_at_call 70; refine (unhide HSn).mono ?_; rintro e w3 ⟨rfl, b3⟩))
            have c3 := bd.trans (b3.mono bd.size)
            clear HSn b3 bd
            go_wp2_with fail
            go_roundw
            case rel => exact ⟨k + 1, by omega, by omega, by go_num, HJ2, c3⟩
            case measure => first | (simp [intOf]; done) | (simp [intOf]; omega)
        · obtain rfl : k = 5 := by omega
          have hkf : decide ((5 : Int) ≤ 4) = false := by decide
          have HI2 := hide (show ∀ j, j < i + 1 → kindB (bAt p j) = 0 from fun j h => by
            rcases Nat.lt_or_ge j i with h3 | h3
            · exact unhide HI j h3
            · obtain rfl : j = i := by omega
              exact kind_none (unhide HJ))
          clear HSg HJ
          go_wp2_with fail
          go_roundw
          case rel => exact ⟨i + 1, by omega, by go_num, HI2, hbel⟩
          case measure => first | (simp [intOf]; done) | (simp [intOf]; omega)
    · obtain rfl : i = p.size := by omega
      have hif : decide ((p.size : Int) < (p.size : Int)) = false := by simp
      have HXX := hide ((unhide HX).trans (matchS_none (unhide HI)))
      obtain ⟨⟨m0, mf0⟩, ⟨m1, mf1⟩, ⟨m2, mf2⟩, M9, O9⟩ := mbox_put (.int .i64 0) (.string ⟨#[]⟩) (.string ⟨#[]⟩) (unhide HMB wo hbel)
      obtain ⟨r0, r1, r2⟩ := mbox_three M9
      have B9 := (b0.trans (hbel.mono b0.size)).trans (O9.below (Nat.le_refl _))
      clear M9 O9
      go_wp2_with fail
      refine bodyPost_ret (v := .tuple #[.agg #[.int .i64 0, .string ⟨#[]⟩, .string ⟨#[]⟩], .bool false]) (by simp [results, Tryd.results53, go_sem, r0, r1, r2]) rfl ?_
      obtain rfl := unhide HXX
      exact ⟨rfl, B9⟩
theorem ok_good {zs : List E} (h : ok zs = true) : ∀ x ∈ zs, good x := fun x hx => by
  have := (ok_small h).2 x hx
  exact good_of (n := 1000) ⟨this.2.2.1, this.2.2.2, by omega, by omega⟩ (by unfold maxLen; omega)
/-- what was put, read -/
theorem put_any (zs : List E) : (put zs).size ≤ 200 ∧ getB (put zs) = (if ok zs = true then zs else [], ok zs) := by
  cases h : ok zs
  · have e : put zs = ByteArray.empty := by unfold put; rw [h]; rfl
    rw [e]
    exact ⟨by decide, getB_len (.inl (by decide))⟩
  · exact ⟨(put_size h).2, by rw [getB_put h]; rfl⟩
theorem getB_four (s : ByteArray) : (getB s).1.length ≤ 4 := by
  by_cases hc : s.size ≠ 0 ∧ put (pI s) = s
  · rw [getB_of hc.2 hc.1]
    exact ok_len (of_put hc.2 hc.1)
  · unfold getB
    rw [if_neg hc]
    simp
set_option maxRecDepth 100000 in
set_option maxHeartbeats 4000000 in
theorem spec_get (s : ByteArray) (w : World) (hs : s.size ≤ 4194304) : Calls Tryd.prog 24 #[.string s] w (Got s w) := by
  obtain ⟨i0, hi, hz0, hz1, hz2⟩ := info_parts info_e
  have hmx : 1 ≤ maxLen := by unfold maxLen; omega
  unfold Got
  obtain ⟨G, hG⟩ : ∃ G, G = getB s := ⟨_, rfl⟩
  rw [← hG]
  have HG := hide hG
  clear hG
  have HE := hide (Lab.own_empty w 61 3)
  have HB0 := hide ((Below.refl w.heap.size w).alloc (Nat.le_refl _) (.cells #[] 61))
  by_cases hnil : s = nilT
  · have hsn : s = (⟨#[91, 93]⟩ : ByteArray) := hnil
    have HF := hide ((unhide HG).trans ((congrArg getB hnil).trans getB_nil))
    have hrun : ∀ W, (binOp .eql 9 (.string (⟨#[91, 93]⟩ : ByteArray)) (.string ⟨#[91, 93]⟩)).run Tryd.prog W = .ok (.bool true) W := fun W => by rw [Lab.run_eql]; simp
    clear HG hnil
    subst hsn
    go_enter Tryd.func24, Tryd.ntmps24
    go_wp2_with fail
    go_ret2
    obtain rfl := unhide HF
    exact ⟨_, rfl, unhide HE, unhide HB0⟩
  have hnn : (s.toList == (⟨#[91, 93]⟩ : ByteArray).toList) = false := sameS_no.2 hnil
  have hrun : ∀ W, (binOp .eql 9 (.string s) (.string ⟨#[91, 93]⟩)).run Tryd.prog W = .ok (.bool false) W := fun W => by rw [Lab.run_eql, hnn]
  have hl9 : (⟨#[91, 93]⟩ : ByteArray).toList = [91, 93] := by rw [ByteArray.toList_eq]
  have hnn2 : (s.toList == [91, 93]) = false := by rw [← hl9]; exact hnn
  have HNl := hide hnil
  clear hnil hl9
  by_cases h1 : s.size < 2
  · have HF := hide ((unhide HG).trans (getB_len (.inl h1)))
    have h1I : (s.size : Int) < 2 := by omega
    clear HG
    go_enter Tryd.func24, Tryd.ntmps24
    go_wp2_with fail
    go_ret2
    obtain rfl := unhide HF
    exact ⟨_, rfl, unhide HE, unhide HB0⟩
  have h1I : decide ((s.size : Int) < 2) = false := by simp; omega
  have h1N : decide (s.size < 2) = false := by simp; omega
  by_cases h2 : 200 < s.size
  · have HF := hide ((unhide HG).trans (getB_len (.inr h2)))
    have h2I : (200 : Int) < (s.size : Int) := by omega
    clear HG
    go_enter Tryd.func24, Tryd.ntmps24
    go_wp2_with fail
    go_ret2
    obtain rfl := unhide HF
    exact ⟨_, rfl, unhide HE, unhide HB0⟩
  have h2I : decide ((200 : Int) < (s.size : Int)) = false := by simp; omega
  have h2N : decide (200 < s.size) = false := by simp; omega
  obtain ⟨n1, hn1⟩ : ∃ n, n = s.size - 1 := ⟨_, rfl⟩
  have hnI : (s.size : Int) - 1 = (n1 : Int) := by omega
  have hn2 : 1 ≤ n1 := by omega
  have hn2I : (1 : Int) ≤ (n1 : Int) := by omega
  have hn3 : n1 ≤ s.size := by omega
  have hn3I : (n1 : Int) ≤ (s.size : Int) := by omega
  have HX := hide (show (s.extract 1 n1).data.toList = mid s by rw [hn1]; exact mid_ext (by omega))
  have HXs := hide (show (s.extract 1 n1).size ≤ 200 by rw [ByteArray.size_extract]; omega)
  have HS2 := hide (show 2 ≤ s.size by omega)
  have HCut := hide (fun W => l3Cut_any (s.extract 1 n1) 44 44 rfl W (by have := unhide HXs; omega))
  obtain ⟨T, hT⟩ : ∃ T, T = cutL 44 (mid s) := ⟨_, rfl⟩
  have HTP := hide (show cutB 44 (s.extract 1 n1) = T.map ofL by unfold cutB; rw [unhide HX, hT]; rfl)
  have hml : (mid s).length ≤ 200 := by
    rw [← unhide HX]
    have h4 : (s.extract 1 n1).data.toList.length = (s.extract 1 n1).size := Array.length_toList
    have := unhide HXs
    omega
  have HTL := hide (show T.length ≤ 201 by rw [hT]; have := cutL_len 44 (mid s); omega)
  have HTM := hide (show ∀ t ∈ T, t.length ≤ 200 from fun t ht => by
    rw [hT] at ht
    have h3 := cutL_mem 44 (mid s) t ht
    omega)
  rw [unhide HTP] at HCut
  simp only [List.length_map] at HCut
  have HT := hide hT
  clear hn1 hT hml
  go_enter Tryd.func24, Tryd.ntmps24
  go_wp2_with fail
  refine (unhide HCut _).mono ?_
  rintro e w1 ⟨v, rfl, ov, b1⟩
  have z1 := b1.size
  simp only [World.size_alloc] at z1
  obtain ⟨va, vq, rfl, hq1, hq2⟩ : ∃ a q, v = .slice a T.length q ∧ T.length ≤ q ∧ q ≤ maxLen := by obtain ⟨-, a, q, e, h1, h2, -⟩ := lies_of_own ov; exact ⟨a, q, e, h1, h2⟩
  unfold maxLen at hq2
  obtain ⟨n, hn⟩ : ∃ n, n = T.length := ⟨_, rfl⟩
  have HN := hide hn
  rw [← hn] at ov hq1 ⊢
  have OV := hide (own_mono ov (show w.heap.size ≤ (w.alloc (.cells #[] 61)).heap.size by simp))
  have hnb : n ≤ 201 := by rw [hn]; exact unhide HTL
  have OE := hide (own_below (unhide HE) b1)
  have B1 := (unhide HB0).trans (b1.mono (by simp))
  clear ov hn b1 HE HB0 HCut
  go_wp2_with fail
  go_loopw [4, 6] (fun ov i wr => ∃ (k : Nat) (pa : Option Addr) (pc : Nat), k ≤ n ∧ i = .int .i64 k ∧ ov = .slice pa k pc ∧ wr.ownsRow w.heap.size 61 3 (.slice pa k pc) k (flat ((T.take k).map oneS)) ∧ Hid (wr.ownsRow w.heap.size 9 1 (.slice va n vq) n (flatS (T.map ofL))) ∧ Below w.heap.size w wr) (fun _ i _ => n - (intOf i).toNat)
  case atStart => exact ⟨0, _, 0, Nat.zero_le _, rfl, rfl, unhide OE, OV, B1⟩
  case round =>
    clear OE OV B1 z1
    obtain ⟨k, pa, pc, hk, rfl, rfl, hown, HV, hbel⟩ := hrel
    have hsz := hbel.size
    have hk0 : (0 : Int) ≤ (k : Int) := Int.natCast_nonneg _
    by_cases hlt : k < n
    · have hkT : k < T.length := by rw [← unhide HN]; exact hlt
      obtain ⟨a', q', e', -, -, hcl⟩ := pieces_cell (P := T.map ofL) (own_len (unhide HV) (by rw [List.length_map]; exact unhide HN) rfl)
      simp only [Value.slice.injEq] at e'
      obtain ⟨rfl, -, rfl⟩ := e'
      obtain ⟨b, off, rfl, hbl, hc0⟩ := hcl k (by rw [List.length_map]; exact hkT)
      rw [List.getElem_map] at hc0
      have hts := unhide HTM T[k] (List.getElem_mem hkT)
      have HPS := hide (show flat ((T.take (k + 1)).map oneS) = flat ((T.take k).map oneS) ++ [.int .i64 (oneS T[k]).1, .string (oneS T[k]).2.1, .string (oneS T[k]).2.2] by
        rw [List.take_succ_eq_append_getElem hkT, List.map_append]; unfold flat; rw [flatOf_append, List.map_cons, List.map_nil, flatOf_one]; rfl)
      have HMem := hide (show T[k] ∈ cutL 44 (mid s) by rw [← unhide HT]; exact List.getElem_mem hkT)
      obtain ⟨t, ht⟩ : ∃ t, t = T[k] := ⟨_, rfl⟩
      rw [← ht] at hc0 hts HPS HMem
      have HC1 := hide (l3Match_any (ofL t) wr (by rw [ofL, size_of]; omega))
      have hk1 : (k : Int) < (n : Int) := by omega
      cases hM : matchS (ofL t) with
      | some X =>
        obtain ⟨K, A, B⟩ := X
        have hO : oneS t = (K, A, B) := by unfold oneS; rw [hM]; rfl
        rw [hM] at HC1
        rw [hO] at HPS
        simp only [Option.getD_some, Option.isSome_some] at HC1
        dsimp only at HPS
        clear ht hcl hO hM
        go_wp2_with fail
        refine (unhide HC1).mono ?_
        rintro e w2 ⟨rfl, b2⟩
        have z2 := b2.size
        obtain ⟨W3, hW3⟩ : ∃ W, w2.alloc (.cells #[.int .i64 K, .string A, .string B] 61) = W := ⟨_, rfl⟩
        have b3 : Below w2.heap.size w2 W3 := by rw [← hW3]; exact (Below.refl _ _).alloc (Nat.le_refl _) _
        have M3 : MB W3 w2.heap.size (.int .i64 K) (.string A) (.string B) := by rw [← hW3]; exact mbox_new _ _ _ _
        obtain ⟨k0, k1, k2⟩ := mbox_three M3
        have b23 := b2.trans (b3.mono z2)
        have hown2 := own_below hown b23
        have HV2 := hide (own_below (unhide HV) b23)
        have hbel2 := hbel.trans (b23.mono hsz)
        have hsz2 := hbel2.size
        clear hown HC1 hc0 b2 b3 HMem M3 b23
        go_wp2_with (at_builtin; refine app_wp _ rfl _ _ _ rfl w.heap.size 61 i0 _ 3 40 Tryd.underlying32 hi hz0 hz1 hz2 rfl (by omega) _ k _ rfl (hown2.alloc _) _ 1 [.int .i64 K, .string A, .string B] rfl (lies_new (by simp) rfl hmx) (by simp [Value.oneCell']) (by unfold maxLen; omega) (by omega) (by simp; omega) ?_; intro vn wn on gn an)
        have R9 : Below w.heap.size w wn := below_grown (hbel2.alloc hsz2 _) (by simp; omega) gn (own_ge hown2)
        have R2 := hide (show wn.ownsRow w.heap.size 61 3 vn (k + 1) (flat ((T.take (k + 1)).map oneS)) by rw [unhide HPS]; exact on)
        have R3 := hide (show wn.ownsRow w.heap.size 9 1 (.slice (some ⟨b, off, none⟩) n vq) n (flatS (T.map ofL)) from own_grown (World.ownsRow.alloc (unhide HV2) _) gn (fun j hj e => own_ne_type (unhide HV2) hown2 (by decide) j hj e))
        obtain ⟨an', cn, hvn⟩ : ∃ a c, vn = .slice a (k + 1) c := by obtain ⟨-, a, c, e, -⟩ := lies_of_own on; exact ⟨a, c, e⟩
        have HVn := hide hvn
        clear on gn an hown2 hvn hbel2 hW3 k0 k1 k2
        go_wp2_with fail
        go_roundw
        case rel => exact ⟨k + 1, an', cn, by omega, by go_num, unhide HVn, by rw [← unhide HVn]; exact unhide R2, R3, R9⟩
        case measure => simp [intOf]; omega
      | none =>
        have HF := hide ((unhide HG).trans (getB_part (unhide HNl) (unhide HMem) hM))
        rw [hM] at HC1
        simp only [Option.getD_none, Option.isSome_none] at HC1
        clear ht hcl hM HPS HG
        go_wp2_with fail
        refine (unhide HC1).mono ?_
        rintro e w2 ⟨rfl, b2⟩
        have hb2 := hbel.trans (b2.mono hsz)
        have hb3 := hb2.alloc hb2.size (.cells #[.int .i64 0, .string ⟨#[]⟩, .string ⟨#[]⟩] 61)
        obtain ⟨W3, hW3⟩ : ∃ W, w2.alloc (.cells #[.int .i64 0, .string ⟨#[]⟩, .string ⟨#[]⟩] 61) = W := ⟨_, rfl⟩
        rw [hW3] at hb3
        have M3 : MB W3 w2.heap.size (.int .i64 0) (.string ⟨#[]⟩) (.string ⟨#[]⟩) := by rw [← hW3]; exact mbox_new _ _ _ _
        obtain ⟨⟨m0, mf0⟩, ⟨m1, mf1⟩, ⟨m2, mf2⟩, M9, O9⟩ := mbox_put (.int .i64 zE.1) (.string zE.2.1) (.string zE.2.2) M3
        obtain ⟨q0, q1, q2⟩ := mbox_three M3
        obtain ⟨f0, f1, f2⟩ := mbox_fz M3
        obtain ⟨W4, hW4⟩ : ∃ W, (((W3.setCell ⟨w2.heap.size, 0, none⟩ (.int .i64 zE.1)).setCell ⟨w2.heap.size, 1, none⟩ (.string zE.2.1)).setCell ⟨w2.heap.size, 2, none⟩ (.string zE.2.2)) = W := ⟨_, rfl⟩
        rw [hW4] at O9
        have hb4 := hb3.trans (O9.below hb2.size)
        have HE2 := hide (own_mono (Lab.own_empty W4 61 3) hb4.size)
        have HB2 := hide (hb4.alloc hb4.size (.cells #[] 61))
        have hzE : aggM zE = .agg #[.int .i64 0, .string ⟨#[]⟩, .string ⟨#[]⟩] := rfl
        clear hown HC1 hc0 b2 HMem hb2 hb3 M3 M9 O9 hb4
        go_wp2_with fail
        go_ret2
        obtain rfl := unhide HF
        exact ⟨_, rfl, unhide HE2, unhide HB2⟩
    · obtain rfl : k = n := by omega
      rw [List.take_of_length_le (by have := unhide HN; omega)] at hown
      have hkf : decide ((k : Int) < (k : Int)) = false := by simp
      obtain ⟨L, hL⟩ : ∃ L, L = T.map oneS := ⟨_, rfl⟩
      have hlen : L.length = k := by rw [hL, List.length_map]; exact (unhide HN).symm
      have hgood : ∀ x ∈ L, good x := by
        rw [hL]
        intro x hx
        obtain ⟨p, hp, rfl⟩ := List.mem_map.1 hx
        have h1 := unhide HTM p hp
        exact good_of (oneS_sizes p) (by unfold maxLen; omega)
      rw [← hL] at hown
      have hIs : Is wr (.slice pa k pc) L := by rw [← hlen]; exact lies_of_own (by rw [hlen]; exact hown)
      have HI := hide (spec_put hIs hgood (by rw [hlen]; unfold maxLen; omega))
      have HL := hide (show L = (cutL 44 (mid s)).map oneS by rw [hL, unhide HT])
      have HO := hide (own_len hown hlen.symm rfl)
      clear hown hlen hgood hIs hL hkf
      go_wp2_with fail
      refine (unhide HI).mono ?_
      rintro e w3 ⟨rfl, b3⟩
      have b03 := hbel.trans (b3.mono hsz)
      have HO3 := hide (own_below (unhide HO) b3)
      clear HO HI b3 hbel
      by_cases hp : put L = s
      · have HGG := hide ((unhide HG).trans (getB_of hp (by have := unhide HS2; omega)))
        have hqq : (s.toList == s.toList) = true := by simp
        clear HG HL
        rw [hp]
        clear hp
        go_wp2_with fail
        go_ret2
        obtain rfl := unhide HGG
        exact ⟨_, rfl, unhide HO3, b03⟩
      · have HGG := hide ((unhide HG).trans (getB_one_ne (unhide HNl) (by rw [← unhide HL]; exact hp)))
        have hne : ((put L).toList == s.toList) = false := sameS_no.2 hp
        have HE2 := hide (own_mono (Lab.own_empty w3 61 3) b03.size)
        have HB2 := hide (b03.alloc b03.size (.cells #[] 61))
        clear hp HG HL
        generalize put L = P1 at hne ⊢
        go_wp2_with fail
        go_ret2
        obtain rfl := unhide HGG
        exact ⟨_, rfl, unhide HE2, unhide HB2⟩
end Go.Proofs.YtkmoekbicbjdmaaDoor.Mat

/- alMatches of two slices that say the same. No condition. -/
namespace Go.Proofs.YtkmoekbicbjdmaaDoor.Mat
open Go.RowKit Rw
set_option linter.unusedVariables false
attribute [local go_sem ↓] Go.wp_at_zero Go.wp_at_succ
theorem eqMat (K : Int) (A B : ByteArray) (w : World) : (Op.equalIn 10000 61 (.agg #[.int .i64 K, .string A, .string B]) (.agg #[.int .i64 K, .string A, .string B])).run Tryd.prog w = .ok true w := by
  have u3 := Tryd.underlying9
  have a3 := Tryd.isAgg9
  have z3 := Tryd.sizeOf9
  have u4 := Tryd.underlying3
  have a4 := Tryd.isAgg3
  have z4 := Tryd.sizeOf3
  have hS : Tryd.prog.underlying 61 = some (.struct (Tryd.prog.fieldsOf 61)) := by kernel_rfl
  have hp : Tryd.prog.stoodInHeld 61 = false := by kernel_rfl
  rw [show (10000 : Nat) = 9999 + 1 from rfl, run_equalIn_agg w 9999 61 _ _ hS hp]
  simp only [Program.fieldsOf, Tryd.underlying61]
  go_simp
theorem run_neM (K : Int) (A B : ByteArray) (W : World) : (binOp .neq 61 (.agg #[.int .i64 K, .string A, .string B]) (.agg #[.int .i64 K, .string A, .string B])).run Tryd.prog W = .ok (.bool false) W := by
  rw [run_neq_struct, eqMat]; rfl
theorem ag {zs : List E} {k : Nat} (h : k < zs.length) (K : Int) (A B : ByteArray) (e : (K, A, B) = at' zs k) : (flat zs)[k * 3]? = some (.int .i64 K) ∧ (flat zs)[k * 3 + 1]? = some (.string A) ∧ (flat zs)[k * 3 + 2]? = some (.string B) := by
  have := flat_at zs k h
  rw [← e] at this
  exact this
set_option maxRecDepth 100000 in
set_option maxHeartbeats 2000000 in
theorem al_any {v u : Value} {zs : List E} {w : World} (h : Is w v zs) (h' : Is w u zs) : Calls Tryd.prog 22 #[v, u] w fun e w' => ∃ R : Bool, e = .returned (.bool R) ∧ (R = true ↔ zs = zs) ∧ Below w.heap.size w w' := by
  obtain ⟨-, a, cap, rfl, hc, hm, -, hr⟩ := h
  obtain ⟨-, a', cap', rfl, hc', hm', -, hr'⟩ := h'
  unfold maxLen at hm hm'
  obtain ⟨n, hn⟩ : ∃ n, n = zs.length := ⟨_, rfl⟩
  rw [← hn] at hc hr hc' hr' ⊢
  have HN := hide hn
  clear hn
  go_enter Tryd.func22, Tryd.ntmps22
  go_wp2_with fail
  go_loopw [5] (fun i wr => ∃ (k : Nat), k ≤ n ∧ i = .int .i64 k ∧ Below w.heap.size w wr) (fun i _ => n - (intOf i).toNat)
  case atStart => exact ⟨0, Nat.zero_le _, rfl, Below.refl _ _⟩
  case round =>
    obtain ⟨k, hk, rfl, hbel⟩ := hrel
    have hsz := hbel.size
    by_cases hlt : k < n
    · obtain ⟨b, off, rfl, hl, hcells⟩ := hr (by omega)
      obtain ⟨b', off', rfl, hl', hcells'⟩ := hr' (by omega)
      have hkz : k < zs.length := by have := unhide HN; omega
      obtain ⟨K, A, B, hX⟩ : ∃ K A B, (K, A, B) = at' zs k := ⟨_, _, _, rfl⟩
      have fa := ag hkz K A B hX
      have hq0 : ∀ x : Cls wr.heap.size wr, x.val.cell? ⟨b, off + k * 3, none⟩ = some (.int .i64 K) := fun x => by rw [x.cell (by omega)]; exact (hbel.cell (p := ⟨b, _, none⟩) hl).trans (hcells (k * 3) _ fa.1)
      have hq1 : ∀ x : Cls wr.heap.size wr, x.val.cell? ⟨b, off + k * 3 + 1, none⟩ = some (.string A) := fun x => by rw [x.cell (by omega)]; exact (hbel.cell (p := ⟨b, _, none⟩) hl).trans (hcells (k * 3 + 1) _ fa.2.1)
      have hq2 : ∀ x : Cls wr.heap.size wr, x.val.cell? ⟨b, off + k * 3 + 2, none⟩ = some (.string B) := fun x => by rw [x.cell (by omega)]; exact (hbel.cell (p := ⟨b, _, none⟩) hl).trans (hcells (k * 3 + 2) _ fa.2.2)
      have hp0 : ∀ x : Cls wr.heap.size wr, x.val.cell? ⟨b', off' + k * 3, none⟩ = some (.int .i64 K) := fun x => by rw [x.cell (by omega)]; exact (hbel.cell (p := ⟨b', _, none⟩) hl').trans (hcells' (k * 3) _ fa.1)
      have hp1 : ∀ x : Cls wr.heap.size wr, x.val.cell? ⟨b', off' + k * 3 + 1, none⟩ = some (.string A) := fun x => by rw [x.cell (by omega)]; exact (hbel.cell (p := ⟨b', _, none⟩) hl').trans (hcells' (k * 3 + 1) _ fa.2.1)
      have hp2 : ∀ x : Cls wr.heap.size wr, x.val.cell? ⟨b', off' + k * 3 + 2, none⟩ = some (.string B) := fun x => by rw [x.cell (by omega)]; exact (hbel.cell (p := ⟨b', _, none⟩) hl').trans (hcells' (k * 3 + 2) _ fa.2.2)
      have hk0 : (0 : Int) ≤ (k : Int) := Int.natCast_nonneg _
      have hk1 : (k : Int) < (n : Int) := by omega
      have hs : ∀ W, (binOp .neq 61 (.agg #[.int .i64 K, .string A, .string B]) (.agg #[.int .i64 K, .string A, .string B])).run Tryd.prog W = .ok (.bool false) W := fun W => run_neM K A B W
      clear hX fa hcells hcells' hr hr'
      have hne := cls_nonempty wr.heap.size wr
      go_wp2_with fail
      refine region_cls (by kernel_rfl) (by kernel_rfl) ?_
      repeat (go_big_quiet_step ((fail)))
      refine wpQuiet_nil ?_
      rintro wq ⟨⟨_, hq⟩, rfl⟩
      go_wp2_with fail
      go_roundw
      case rel => exact ⟨k + 1, by omega, by go_num, hbel.trans (hq.mono hsz)⟩
      case measure => simp [intOf]; omega
    · obtain rfl : k = n := by omega
      have hkf : decide ((k : Int) < (k : Int)) = false := by simp
      go_wp2_with fail
      go_ret
      exact ⟨true, rfl, by simp, hbel⟩
end Go.Proofs.YtkmoekbicbjdmaaDoor.Mat
