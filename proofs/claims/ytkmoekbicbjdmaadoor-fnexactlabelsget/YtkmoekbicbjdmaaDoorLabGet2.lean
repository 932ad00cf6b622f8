/- LabelsGet of the program, at every text. What it asks: internal/bytealg.MaxLen holds some int, as in every world of a started program. -/
import Derived.Test.YtkmoekbicbjdmaaDoorLabGet
import Derived.Test.YtkmoekbicbjdmaaDoorLetMath
namespace Go.Proofs.YtkmoekbicbjdmaaDoor.Lab
open Go.RowKit Rw PutMath CutText
set_option linter.unusedVariables false
attribute [local go_sem ↓] Go.wp_at_zero Go.wp_at_succ
theorem cut_len (l sep : List UInt8) : (Lib.cut l sep).1.length ≤ l.length ∧ (Lib.cut l sep).2.1.length ≤ l.length := by
  unfold Lib.cut
  split
  · simp [List.length_take, List.length_drop]; omega
  · simp
theorem cutE_size (p : ByteArray) : (cutE p).1.size ≤ p.size ∧ (cutE p).2.size ≤ p.size := by
  have h := cut_len p.data.toList [61]
  have hl : p.data.toList.length = p.size := Array.length_toList
  unfold cutE
  rw [hl] at h
  exact ⟨by rw [ofL, size_of]; exact h.1, by rw [ofL, size_of]; exact h.2⟩
theorem pieces_size {m : List UInt8} : ∀ p ∈ piecesOf m, p.size ≤ m.length := by
  intro p hp
  unfold piecesOf at hp
  split at hp
  · cases hp
  · obtain ⟨l, hl, rfl⟩ := List.mem_map.1 hp
    rw [ofL, size_of]
    exact cutL_mem 44 m l hl
theorem pieces_len (m : List UInt8) : (piecesOf m).length ≤ m.length + 1 := by
  unfold piecesOf
  split
  · simp
  · rw [List.length_map]; exact cutL_len 44 m
theorem pI_is {s : ByteArray} {m : List UInt8} (h : s.data.toList = 123 :: m ++ [125]) : pI s = (piecesOf m).map cutE := by
  have hm : mid s = m := by unfold mid; rw [h]; simp
  unfold pI partsI piecesOf
  rw [hm]
/-- what reading a text answers -/
def Got (s : ByteArray) (w : World) (e : Ending) (w' : World) : Prop := ∃ v, e = .returned (.tuple #[v, .bool (getB s).2]) ∧ w'.ownsRow w.heap.size 47 2 v (getB s).1.length (flat (getB s).1) ∧ Below w.heap.size w w'
theorem pieces_cell {w : World} {base : Nat} {v : Value} {P : List ByteArray} (h : w.ownsRow base 9 1 v P.length (flatS P)) : ∃ a q, v = .slice a P.length q ∧ P.length ≤ q ∧ q ≤ maxLen ∧ ∀ k (hk : k < P.length), ∃ b off, a = some ⟨b, off, none⟩ ∧ b < w.heap.size ∧ w.cell? ⟨b, off + k, none⟩ = some (.string P[k]) := by
  obtain ⟨-, a, q, e, h1, h2, -, hr⟩ := lies_of_own h
  refine ⟨a, q, e, h1, h2, fun k hk => ?_⟩
  obtain ⟨b, off, ea, hb, hc⟩ := hr (by omega)
  exact ⟨b, off, ea, hb, hc k _ (by unfold flatS; rw [List.getElem?_map, List.getElem?_eq_getElem hk]; rfl)⟩
theorem cut_any (p : ByteArray) (W : World) (hp : p.size ≤ 4194304) (hm : Mx W) : Calls Tryd.prog 35 #[.string p, .string ⟨#[61]⟩] W fun e w' => ∃ bo, e = .returned (.tuple #[.string (cutE p).1, .string (cutE p).2, .bool bo]) ∧ Below W.heap.size W w' := by
  obtain ⟨m, hm⟩ := hm
  exact (Tryd.strings_Cut p ⟨#[61]⟩ m W (by omega) hm).mono fun e w' ⟨h1, q, h2⟩ => ⟨_, h1, by rw [h2]; exact ⟨rfl, rfl, rfl, Nat.le_refl _, fun _ _ => rfl⟩⟩
set_option maxRecDepth 100000 in
set_option maxHeartbeats 4000000 in
theorem impl_get (s : ByteArray) (w : World) (hs : s.size ≤ 4194304) (hm : Mx w) : Calls Tryd.prog 9 #[.string s] w (Got s w) := by
  obtain ⟨i0, hi, hz0, hz1, hz2⟩ := info_parts info_e
  have HW := hide (within_any s 123 125 w hs hm)
  have HM := hide hm
  have hmx : 1 ≤ maxLen := by unfold maxLen; omega
  unfold Got
  obtain ⟨G, hG⟩ : ∃ G, G = getB s := ⟨_, rfl⟩
  rw [← hG]
  have HG := hide hG
  clear hG hm
  go_enter Tryd.func9, Tryd.ntmps9
  go_wp2_with fail
  refine (unhide HW).mono ?_
  rintro e w1 (⟨hno, rfl, rfl⟩ | ⟨m, v, hm1, rfl, ov, b1⟩)
  · have HF := hide ((unhide HG).trans (getB_last hno))
    clear hno HW HG
    go_wp2_with fail
    go_ret2
    obtain rfl := unhide HF
    exact ⟨_, rfl, World.ownsRow_nil _ _ _ _, Below.refl _ _⟩
  obtain ⟨va, vq, rfl, hq1, hq2, hcell⟩ := pieces_cell ov
  have HP := hide (pI_is hm1)
  have hl : m.length ≤ 4194304 := by
    have h2 : s.data.toList.length = s.size := Array.length_toList
    rw [hm1] at h2
    simp at h2
    omega
  have HS := hide (fun p hp => Nat.le_trans (pieces_size (m := m) p hp) hl)
  have hpl := pieces_len m
  have HC := hide hcell
  have HS0 := hide (show s.size ≠ 0 by intro e; have h2 : s.data.toList.length = s.size := Array.length_toList; rw [hm1, e] at h2; simp at h2)
  have HM1 := hide ((unhide HM).below b1)
  have z1 := b1.size
  obtain ⟨P, hP⟩ : ∃ P, P = piecesOf m := ⟨_, rfl⟩
  rw [← hP] at HP HS HC hpl hq1 ⊢
  obtain ⟨n, hn⟩ : ∃ n, n = P.length := ⟨_, rfl⟩
  have HN := hide hn
  rw [← hn] at hpl hq1 ⊢
  have hn2 : n ≤ 4194305 := by omega
  unfold maxLen at hq2
  clear hm1 ov hcell hP hn HW hpl HM
  go_wp2_with fail
  go_loopw [6, 21] (fun lv i wr => ∃ (k : Nat) (pa : Option Addr) (pc : Nat), k ≤ n ∧ i = .int .i64 k ∧ lv = .slice pa k pc ∧ wr.ownsRow w1.heap.size 47 2 (.slice pa k pc) k (flat ((P.take k).map cutE)) ∧ Below w1.heap.size w1 wr) (fun _ i _ => n - (intOf i).toNat)
  case atStart => exact ⟨0, none, 0, Nat.zero_le _, rfl, rfl, World.ownsRow_nil _ _ _ _, Below.refl _ _⟩
  case round =>
    obtain ⟨k, pa, pc, hk, rfl, rfl, hown, hbel⟩ := hrel
    have hsz := hbel.size
    have hk0 : (0 : Int) ≤ (k : Int) := Int.natCast_nonneg _
    by_cases hlt : k < n
    · have hkP : k < P.length := by rw [← unhide HN]; exact hlt
      obtain ⟨b, off, rfl, hbl, hc0'⟩ := unhide HC k hkP
      have hc0 : wr.cell? ⟨b, off + k, none⟩ = some (.string P[k]) := (hbel.cell (p := ⟨b, _, none⟩) hbl).trans hc0'
      have hps := unhide HS P[k] (List.getElem_mem hkP)
      have HPS := hide (show flat ((P.take (k + 1)).map cutE) = flat ((P.take k).map cutE) ++ [.string (cutE P[k]).1, .string (cutE P[k]).2] by
        rw [List.take_succ_eq_append_getElem hkP, List.map_append]; unfold flat; rw [flatOf_append, List.map_cons, List.map_nil, flatOf_one]; rfl)
      have HCut := hide (cut_any P[k] wr (by omega) ((unhide HM1).below hbel))
      generalize (cutE P[k]).1 = A at HCut HPS
      generalize (cutE P[k]).2 = B at HCut HPS
      generalize P[k] = pk at hc0 hps HCut
      have hk1 : (k : Int) < (n : Int) := by omega
      clear hc0'
      go_wp2_with fail
      refine (unhide HCut).mono ?_
      rintro e w2 ⟨bo, rfl, b2⟩
      have hown2 := own_below hown b2
      have hbel2 := hbel.trans (b2.mono hsz)
      have hsz2 := hbel2.size
      clear hown hc0 HCut b2
      go_wp2_with (at_builtin; refine app_wp _ rfl _ _ _ rfl w1.heap.size 47 i0 _ 2 32 Tryd.underlying23 hi hz0 hz1 hz2 rfl (by omega) _ k _ rfl (hown2.alloc _) _ 1 [.string A, .string B] rfl (lies_new (by simp) rfl hmx) (by simp [Value.oneCell']) (by unfold maxLen; omega) (by omega) (by simp; omega) ?_; intro vn wn on gn an)
      have R9 : Below w1.heap.size w1 wn := below_grown (hbel2.alloc hsz2 _) (by simp; omega) gn (own_ge hown2)
      have R2 := hide (show wn.ownsRow w1.heap.size 47 2 vn (k + 1) (flat ((P.take (k + 1)).map cutE)) by rw [unhide HPS]; exact on)
      obtain ⟨an', cn, hvn⟩ : ∃ a c, vn = .slice a (k + 1) c := by obtain ⟨-, a, c, e, -⟩ := lies_of_own on; exact ⟨a, c, e⟩
      have HV := hide hvn
      clear on gn an hown2 hvn hbel2 hsz2
      go_wp2_with fail
      go_roundw
      case rel => exact ⟨k + 1, an', cn, by omega, by go_num, unhide HV, by rw [← unhide HV]; exact unhide R2, R9⟩
      case measure => simp [intOf]; omega
    · obtain rfl : k = n := by omega
      rw [List.take_of_length_le (by have := unhide HN; omega), ← unhide HP] at hown
      have hkf : decide ((k : Int) < (k : Int)) = false := by simp
      have hlen : (pI s).length = k := by rw [unhide HP, List.length_map]; exact (unhide HN).symm
      have hgood : ∀ x ∈ pI s, good x := by
        rw [unhide HP]
        intro x hx
        obtain ⟨p, hp, rfl⟩ := List.mem_map.1 hx
        have h1 := unhide HS p hp
        have h2 := cutE_size p
        exact ⟨by unfold maxLen; omega, by unfold maxLen; omega⟩
      obtain ⟨L, hL⟩ : ∃ L, L = pI s := ⟨_, rfl⟩
      rw [← hL] at hown hlen hgood
      have hIs : Is wr (.slice pa k pc) L := by rw [← hlen]; exact lies_of_own (by rw [hlen]; exact hown)
      have HI := hide (impl_put hIs hgood)
      have HIs := hide hIs
      have HL := hide hL
      have b02 := b1.trans (hbel.mono z1)
      clear hown hlen hgood hIs hL hkf
      go_wp2_with fail
      refine (unhide HI).mono ?_
      rintro e w3 ⟨rfl, b3⟩
      have b03 := b02.trans (b3.mono b02.size)
      have HIs3 := hide ((unhide HIs).below b3)
      clear HIs HI b3 b02 hbel
      by_cases hp : put L = s
      · have hG2 := (unhide HG).trans (getB_of hp (unhide HS0))
        have HCp := hide (copy_any (unhide HIs3) (ok_small (of_put hp (unhide HS0))))
        have HGG := hide hG2
        have hqq : (s.toList == s.toList) = true := by simp
        clear hG2 HG HL
        rw [hp]
        clear hp
        go_wp2_with fail
        refine (unhide HCp).mono ?_
        rintro e w4 ⟨r, rfl, orr, b4⟩
        have OR := hide (own_mono orr b03.size)
        have b04 := b03.trans (b4.mono b03.size)
        clear orr b4 HCp
        go_wp2_with fail
        go_ret2
        obtain rfl := unhide HGG
        exact ⟨_, rfl, unhide OR, b04⟩
      · have HGG := hide ((unhide HG).trans (getB_put_ne (by rw [← unhide HL]; exact hp)))
        have hne : ((put L).toList == s.toList) = false := Mat.sameS_no.2 hp
        clear hp HG HL
        generalize put L = P1 at hne ⊢
        go_wp2_with fail
        go_ret2
        obtain rfl := unhide HGG
        exact ⟨_, rfl, World.ownsRow_nil _ _ _ _, b03⟩
end Go.Proofs.YtkmoekbicbjdmaaDoor.Lab
