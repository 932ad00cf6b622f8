/- My own texts of one claim, laid together by program: LetMath, LabGet2, LabGet3, LabCmp. -/
import Derived.Test.YtkmoekbicbjdmaaDoorGbaf98bd068
import Derived.Lib.Strings
import Derived.Test.YtkmoekbicbjdmaaDoorG22420358a3
import Derived.Deep.RegionHeld3
import Derived.Test.YtkmoekbicbjdmaaDoorG609873d6f1
import Derived.Test.YtkmoekbicbjdmaaDoorGd288d7f3f6
import Derived.Deep.RegionWith
/- What a match lets, as plain mathematics. No condition. -/
namespace Go.Proofs.YtkmoekbicbjdmaaDoor.Mat
open Go.RowKit Rw
def sameS (a b : ByteArray) : Bool := a.toList == b.toList
theorem sameS_iff {a b : ByteArray} : sameS a b = true ↔ a = b := by
  unfold sameS
  rw [beq_iff_eq, ByteArray.toList_eq, ByteArray.toList_eq]
  exact ⟨Go.WideShapes.bytes_inj, fun h => by rw [h]⟩
theorem sameS_self (a : ByteArray) : sameS a a = true := sameS_iff.2 rfl
theorem sameS_no {a b : ByteArray} : sameS a b = false ↔ a ≠ b := by
  cases h : sameS a b
  · simp only [true_iff]; intro e; rw [sameS_iff.2 e] at h; cases h
  · simp only [Bool.true_eq_false, false_iff, Decidable.not_not]; exact sameS_iff.1 h
def wordOf (ls : List Lab.E) (nm : ByteArray) : ByteArray := ((ls.find? fun x => sameS x.1 nm).map (·.2)).getD ByteArray.empty
theorem find_none (ls : List Lab.E) (nm : ByteArray) (k : Nat) (hk : k < ls.length) (h : (ls.take k).find? (fun x => sameS x.1 nm) = none) (hx : sameS (Lab.at' ls k).1 nm = false) : (ls.take (k + 1)).find? (fun x => sameS x.1 nm) = none := by
  rw [Lab.at_snoc ls k hk, List.find?_append, h]
  simp [hx]
theorem word_hit (ls : List Lab.E) (nm : ByteArray) (k : Nat) (hk : k < ls.length) (h : (ls.take k).find? (fun x => sameS x.1 nm) = none) (hx : sameS (Lab.at' ls k).1 nm = true) : wordOf ls nm = (Lab.at' ls k).2 := by
  unfold wordOf
  have e : ls = ls.take k ++ (Lab.at' ls k :: ls.drop (k + 1)) := by
    rw [Lab.at_get ls k hk, ← List.drop_eq_getElem_cons hk, List.take_append_drop]
  rw [e, List.find?_append, h, List.find?_cons]
  have e2 : Lab.at' (ls.take k ++ (Lab.at' ls k :: ls.drop (k + 1))) k = Lab.at' ls k := by rw [← e]
  simp [hx, e2]
theorem word_miss (ls : List Lab.E) (nm : ByteArray) (h : ls.find? (fun x => sameS x.1 nm) = none) : wordOf ls nm = ByteArray.empty := by unfold wordOf; rw [h]; rfl
theorem wordOf_size {ls : List Lab.E} (hg : ∀ x ∈ ls, Lab.good x) (nm : ByteArray) : (wordOf ls nm).size ≤ maxLen := by
  unfold wordOf
  cases h : ls.find? fun x => sameS x.1 nm with
  | none => simp
  | some x => exact (hg x (List.mem_of_find?_eq_some h)).2
def prefB (w p : ByteArray) : Bool := Lib.hasPrefix w.data.toList p.data.toList
def letB (m : E) (ls : List Lab.E) : Bool :=
  if m.1 = 1 then sameS (wordOf ls m.2.1) m.2.2 else if m.1 = 2 then !sameS (wordOf ls m.2.1) m.2.2 else if m.1 = 3 then prefB (wordOf ls m.2.1) m.2.2 else !prefB (wordOf ls m.2.1) m.2.2
def letsTo (zs : List E) (ls : List Lab.E) (k : Nat) : Bool := (zs.take k).all fun m => letB m ls
def lets (zs : List E) (ls : List Lab.E) : Bool := zs.all fun m => letB m ls
theorem letsTo_succ (zs : List E) (ls : List Lab.E) (k : Nat) (h : k < zs.length) : letsTo zs ls (k + 1) = (letsTo zs ls k && letB (at' zs k) ls) := by
  unfold letsTo; rw [at_snoc zs k h, List.all_append]; simp
theorem lets_no (zs : List E) (ls : List Lab.E) (k : Nat) (h : k < zs.length) (hb : letB (at' zs k) ls = false) : lets zs ls = false := by
  unfold lets; rw [List.all_eq_false]
  exact ⟨at' zs k, by rw [at_get zs k h]; exact List.getElem_mem _, by simp [hb]⟩
theorem lets_all (zs : List E) (ls : List Lab.E) (h : letsTo zs ls zs.length = true) : lets zs ls = true := by
  unfold letsTo at h; rwa [List.take_of_length_le (Nat.le_refl _)] at h
/-- what MatchesLet answers -/
def mlet (zs : List E) (ls : List Lab.E) : Bool := ok zs && Lab.ok ls && lets zs ls
theorem ok_kind {zs : List E} (h : ok zs = true) {k : Nat} (hk : k < zs.length) : 1 ≤ (at' zs k).1 ∧ (at' zs k).1 ≤ 4 := by
  unfold ok at h; rw [Bool.and_eq_true] at h
  have := h.1; unfold okTo at this
  have := List.all_eq_true.1 this k (List.mem_range.2 hk)
  unfold stepOk at this
  simp only [Bool.and_eq_true, decide_eq_true_eq] at this
  exact ⟨this.1.1.1, this.1.1.2⟩
/-- the model's own way to ask for a beginning -/
theorem prefB_eq (w p : ByteArray) : prefB w p = (decide (p.size ≤ w.size) && sameS (w.extract 0 p.size) p) := by
  have hw : w.data.toList.length = w.size := Array.length_toList
  have hp : p.data.toList.length = p.size := Array.length_toList
  unfold prefB Lib.hasPrefix
  rw [Bool.eq_iff_iff, Bool.and_eq_true, decide_eq_true_eq, sameS_iff]
  have ex : (w.extract 0 p.size).data.toList = w.data.toList.take p.size := by simp [ByteArray.data_extract]
  constructor
  · intro h
    have h := List.isPrefixOf_iff_prefix.1 h
    obtain ⟨t, ht⟩ := h
    have hl := congrArg List.length ht
    rw [List.length_append] at hl
    refine ⟨by omega, Go.WideShapes.bytes_inj ?_⟩
    rw [ex, ← ht, ← hp, List.take_left]
  · rintro ⟨h1, h2⟩
    refine List.isPrefixOf_iff_prefix.2 ⟨w.data.toList.drop p.size, ?_⟩
    have := congrArg (fun x : ByteArray => x.data.toList) h2
    simp only [ex] at this
    rw [← this, List.take_append_drop]
end Go.Proofs.YtkmoekbicbjdmaaDoor.Mat

/- LabelsGet of the program, at every text. What it asks: internal/bytealg.MaxLen holds some int, as in every world of a started program. -/
namespace Go.Proofs.YtkmoekbicbjdmaaDoor.Lab
open Go.RowKit Rw PutMath CutText
set_option linter.unusedVariables false
attribute [local go_sem ↓] Go.wp_at_zero Go.wp_at_succ
theorem cut_len (l sep : List UInt8) : (Lib.cut l sep).1.length ≤ l.length ∧ (Lib.cut l sep).2.1.length ≤ l.length := by
  unfold Lib.cut
  split
  · simp [List.length_take, List.length_drop]; omega
  · simp
theorem cutE_size (p : ByteArray) : (cutE p).1.size ≤ p.size ∧ (cutE p).2.size ≤ p.size := by
  have h := cut_len p.data.toList [61]
  have hl : p.data.toList.length = p.size := Array.length_toList
  unfold cutE
  rw [hl] at h
  exact ⟨by rw [ofL, size_of]; exact h.1, by rw [ofL, size_of]; exact h.2⟩
theorem pieces_size {m : List UInt8} : ∀ p ∈ piecesOf m, p.size ≤ m.length := by
  intro p hp
  unfold piecesOf at hp
  split at hp
  · cases hp
  · obtain ⟨l, hl, rfl⟩ := List.mem_map.1 hp
    rw [ofL, size_of]
    exact cutL_mem 44 m l hl
theorem pieces_len (m : List UInt8) : (piecesOf m).length ≤ m.length + 1 := by
  unfold piecesOf
  split
  · simp
  · rw [List.length_map]; exact cutL_len 44 m
theorem pI_is {s : ByteArray} {m : List UInt8} (h : s.data.toList = 123 :: m ++ [125]) : pI s = (piecesOf m).map cutE := by
  have hm : mid s = m := by unfold mid; rw [h]; simp
  unfold pI partsI piecesOf
  rw [hm]
/-- what reading a text answers -/
def Got (s : ByteArray) (w : World) (e : Ending) (w' : World) : Prop := ∃ v, e = .returned (.tuple #[v, .bool (getB s).2]) ∧ w'.ownsRow w.heap.size 47 2 v (getB s).1.length (flat (getB s).1) ∧ Below w.heap.size w w'
theorem pieces_cell {w : World} {base : Nat} {v : Value} {P : List ByteArray} (h : w.ownsRow base 9 1 v P.length (flatS P)) : ∃ a q, v = .slice a P.length q ∧ P.length ≤ q ∧ q ≤ maxLen ∧ ∀ k (hk : k < P.length), ∃ b off, a = some ⟨b, off, none⟩ ∧ b < w.heap.size ∧ w.cell? ⟨b, off + k, none⟩ = some (.string P[k]) := by
  obtain ⟨-, a, q, e, h1, h2, -, hr⟩ := lies_of_own h
  refine ⟨a, q, e, h1, h2, fun k hk => ?_⟩
  obtain ⟨b, off, ea, hb, hc⟩ := hr (by omega)
  exact ⟨b, off, ea, hb, hc k _ (by unfold flatS; rw [List.getElem?_map, List.getElem?_eq_getElem hk]; rfl)⟩
theorem cut_any (p : ByteArray) (W : World) (hp : p.size ≤ 4194304) (hm : Mx W) : Calls Tryd.prog 35 #[.string p, .string ⟨#[61]⟩] W fun e w' => ∃ bo, e = .returned (.tuple #[.string (cutE p).1, .string (cutE p).2, .bool bo]) ∧ Below W.heap.size W w' := by
  obtain ⟨m, hm⟩ := hm
  exact (Tryd.strings_Cut p ⟨#[61]⟩ m W (by omega) hm).mono fun e w' ⟨h1, q, h2⟩ => ⟨_, h1, by rw [h2]; exact ⟨rfl, rfl, rfl, Nat.le_refl _, fun _ _ => rfl⟩⟩
set_option maxRecDepth 100000 in
set_option maxHeartbeats 4000000 in
theorem impl_get (s : ByteArray) (w : World) (hs : s.size ≤ 4194304) (hm : Mx w) : Calls Tryd.prog 9 #[.string s] w (Got s w) := by
  obtain ⟨i0, hi, hz0, hz1, hz2⟩ := info_parts info_e
  have HW := hide (within_any s 123 125 w hs hm)
  have HM := hide hm
  have hmx : 1 ≤ maxLen := by unfold maxLen; omega
  unfold Got
  obtain ⟨G, hG⟩ : ∃ G, G = getB s := ⟨_, rfl⟩
  rw [← hG]
  have HG := hide hG
  clear hG hm
  go_enter Tryd.func9, Tryd.ntmps9
  go_wp2_with fail
  refine (unhide HW).mono ?_
  rintro e w1 (⟨hno, rfl, rfl⟩ | ⟨m, v, hm1, rfl, ov, b1⟩)
  · have HF := hide ((unhide HG).trans (getB_last hno))
    clear hno HW HG
    go_wp2_with fail
    go_ret2
    obtain rfl := unhide HF
    exact ⟨_, rfl, World.ownsRow_nil _ _ _ _, Below.refl _ _⟩
  obtain ⟨va, vq, rfl, hq1, hq2, hcell⟩ := pieces_cell ov
  have HP := hide (pI_is hm1)
  have hl : m.length ≤ 4194304 := by
    have h2 : s.data.toList.length = s.size := Array.length_toList
    rw [hm1] at h2
    simp at h2
    omega
  have HS := hide (fun p hp => Nat.le_trans (pieces_size (m := m) p hp) hl)
  have hpl := pieces_len m
  have HC := hide hcell
  have HS0 := hide (show s.size ≠ 0 by intro e; have h2 : s.data.toList.length = s.size := Array.length_toList; rw [hm1, e] at h2; simp at h2)
  have HM1 := hide ((unhide HM).below b1)
  have z1 := b1.size
  obtain ⟨P, hP⟩ : ∃ P, P = piecesOf m := ⟨_, rfl⟩
  rw [← hP] at HP HS HC hpl hq1 ⊢
  obtain ⟨n, hn⟩ : ∃ n, n = P.length := ⟨_, rfl⟩
  have HN := hide hn
  rw [← hn] at hpl hq1 ⊢
  have hn2 : n ≤ 4194305 := by omega
  unfold maxLen at hq2
  clear hm1 ov hcell hP hn HW hpl HM
  go_wp2_with fail
  go_loopw [6, 21] (fun lv i wr => ∃ (k : Nat) (pa : Option Addr) (pc : Nat), k ≤ n ∧ i = .int .i64 k ∧ lv = .slice pa k pc ∧ wr.ownsRow w1.heap.size 47 2 (.slice pa k pc) k (flat ((P.take k).map cutE)) ∧ Below w1.heap.size w1 wr) (fun _ i _ => n - (intOf i).toNat)
  case atStart => exact ⟨0, none, 0, Nat.zero_le _, rfl, rfl, World.ownsRow_nil _ _ _ _, Below.refl _ _⟩
  case round =>
    obtain ⟨k, pa, pc, hk, rfl, rfl, hown, hbel⟩ := hrel
    have hsz := hbel.size
    have hk0 : (0 : Int) ≤ (k : Int) := Int.natCast_nonneg _
    by_cases hlt : k < n
    · have hkP : k < P.length := by rw [← unhide HN]; exact hlt
      obtain ⟨b, off, rfl, hbl, hc0'⟩ := unhide HC k hkP
      have hc0 : wr.cell? ⟨b, off + k, none⟩ = some (.string P[k]) := (hbel.cell (p := ⟨b, _, none⟩) hbl).trans hc0'
      have hps := unhide HS P[k] (List.getElem_mem hkP)
      have HPS := hide (show flat ((P.take (k + 1)).map cutE) = flat ((P.take k).map cutE) ++ [.string (cutE P[k]).1, .string (cutE P[k]).2] by
        rw [List.take_succ_eq_append_getElem hkP, List.map_append]; unfold flat; rw [flatOf_append, List.map_cons, List.map_nil, flatOf_one]; rfl)
      have HCut := hide (cut_any P[k] wr (by omega) ((unhide HM1).below hbel))
      generalize (cutE P[k]).1 = A at HCut HPS
      generalize (cutE P[k]).2 = B at HCut HPS
      generalize P[k] = pk at hc0 hps HCut
      have hk1 : (k : Int) < (n : Int) := by omega
      clear hc0'
      go_wp2_with fail
      refine (unhide HCut).mono ?_
      rintro e w2 ⟨bo, rfl, b2⟩
      have hown2 := own_below hown b2
      have hbel2 := hbel.trans (b2.mono hsz)
      have hsz2 := hbel2.size
      clear hown hc0 HCut b2
      go_wp2_with (at_builtin; refine app_wp _ rfl _ _ _ rfl w1.heap.size 47 i0 _ 2 32 Tryd.underlying23 hi hz0 hz1 hz2 rfl (by omega) _ k _ rfl (hown2.alloc _) _ 1 [.string A, .string B] rfl (lies_new (by simp) rfl hmx) (by simp [Value.oneCell']) (by unfold maxLen; omega) (by omega) (by simp; omega) ?_; intro vn wn on gn an)
      have R9 : Below w1.heap.size w1 wn := below_grown (hbel2.alloc hsz2 _) (by simp; omega) gn (own_ge hown2)
      have R2 := hide (show wn.ownsRow w1.heap.size 47 2 vn (k + 1) (flat ((P.take (k + 1)).map cutE)) by rw [unhide HPS]; exact on)
      obtain ⟨an', cn, hvn⟩ : ∃ a c, vn = .slice a (k + 1) c := by obtain ⟨-, a, c, e, -⟩ := lies_of_own on; exact ⟨a, c, e⟩
      have HV := hide hvn
      clear on gn an hown2 hvn hbel2 hsz2
      go_wp2_with fail
      go_roundw
      case rel => exact ⟨k + 1, an', cn, by omega, by go_num, unhide HV, by rw [← unhide HV]; exact unhide R2, R9⟩
      case measure => simp [intOf]; omega
    · obtain rfl : k = n := by omega
      rw [List.take_of_length_le (by have := unhide HN; omega), ← unhide HP] at hown
      have hkf : decide ((k : Int) < (k : Int)) = false := by simp
      have hlen : (pI s).length = k := by rw [unhide HP, List.length_map]; exact (unhide HN).symm
      have hgood : ∀ x ∈ pI s, good x := by
        rw [unhide HP]
        intro x hx
        obtain ⟨p, hp, rfl⟩ := List.mem_map.1 hx
        have h1 := unhide HS p hp
        have h2 := cutE_size p
        exact ⟨by unfold maxLen; omega, by unfold maxLen; omega⟩
      obtain ⟨L, hL⟩ : ∃ L, L = pI s := ⟨_, rfl⟩
      rw [← hL] at hown hlen hgood
      have hIs : Is wr (.slice pa k pc) L := by rw [← hlen]; exact lies_of_own (by rw [hlen]; exact hown)
      have HI := hide (impl_put hIs hgood)
      have HIs := hide hIs
      have HL := hide hL
      have b02 := b1.trans (hbel.mono z1)
      clear hown hlen hgood hIs hL hkf
      go_wp2_with fail
      refine (unhide HI).mono ?_
      rintro e w3 ⟨rfl, b3⟩
      have b03 := b02.trans (b3.mono b02.size)
      have HIs3 := hide ((unhide HIs).below b3)
      clear HIs HI b3 b02 hbel
      by_cases hp : put L = s
      · have hG2 := (unhide HG).trans (getB_of hp (unhide HS0))
        have HCp := hide (copy_any (unhide HIs3) (ok_small (of_put hp (unhide HS0))))
        have HGG := hide hG2
        have hqq : (s.toList == s.toList) = true := by simp
        clear hG2 HG HL
        rw [hp]
        clear hp
        go_wp2_with fail
        refine (unhide HCp).mono ?_
        rintro e w4 ⟨r, rfl, orr, b4⟩
        have OR := hide (own_mono orr b03.size)
        have b04 := b03.trans (b4.mono b03.size)
        clear orr b4 HCp
        go_wp2_with fail
        go_ret2
        obtain rfl := unhide HGG
        exact ⟨_, rfl, unhide OR, b04⟩
      · have HGG := hide ((unhide HG).trans (getB_put_ne (by rw [← unhide HL]; exact hp)))
        have hne : ((put L).toList == s.toList) = false := Mat.sameS_no.2 hp
        clear hp HG HL
        generalize put L = P1 at hne ⊢
        go_wp2_with fail
        go_ret2
        obtain rfl := unhide HGG
        exact ⟨_, rfl, World.ownsRow_nil _ _ _ _, b03⟩
end Go.Proofs.YtkmoekbicbjdmaaDoor.Lab

/- LabelsGet of the model, at every text. No condition but the text's length. -/
namespace Go.Proofs.YtkmoekbicbjdmaaDoor.Lab
open Go.RowKit Rw PutMath CutText
set_option linter.unusedVariables false
attribute [local go_sem ↓] Go.wp_at_zero Go.wp_at_succ
theorem mid_ext {s : ByteArray} (h : 2 ≤ s.size) : (s.extract 1 (s.size - 1)).data.toList = mid s := by
  rw [ext_list]
  unfold mid
  have hl : s.data.toList.length = s.size := Array.length_toList
  rw [List.dropLast_eq_take, List.length_drop, hl]
theorem two_of {t : List UInt8} (h : (cutL 61 t).length = 2) : cutB 61 (ofL t) = [(twoE t).1, (twoE t).2] := by
  unfold cutB twoE
  rw [ofL_list]
  match e : cutL 61 t, h with
  | [a, b], _ => rfl
theorem two_size (t : List UInt8) : (twoE t).1.size ≤ t.length ∧ (twoE t).2.size ≤ t.length := by
  unfold twoE
  split
  · rename_i a b e
    have h := cutL_mem 61 t
    rw [e] at h
    exact ⟨by rw [ofL, size_of]; exact h a (by simp), by rw [ofL, size_of]; exact h b (by simp)⟩
  · exact ⟨Nat.zero_le _, Nat.zero_le _⟩
theorem cutB_ofL (b : UInt8) (t : List UInt8) : cutB b (ofL t) = (cutL b t).map ofL := by unfold cutB; rw [ofL_list]; rfl
theorem own_len {w : World} {base n n' size : Nat} {e : TypeId} {v : Value} {xs ys : List Value} (h : w.ownsRow base e size v n xs) (hn : n = n') (hx : xs = ys) : w.ownsRow base e size v n' ys := by rw [← hn, ← hx]; exact h
theorem own_grown {w w' : World} {base n size : Nat} {e : TypeId} {v : Value} {xs : List Value} {row : Option Nat} (h : w.ownsRow base e size v n xs) (hg : w.grownBy w' row) (hne : ∀ k, v.ownBlock = some k → row ≠ some k) : w'.ownsRow base e size v n xs := by
  refine ⟨h.1, ?_⟩
  rcases h.2 with h1 | ⟨c, cap, cur, h1, h2, h3, h4⟩
  · exact .inl h1
  · refine .inr ⟨c, cap, cur, h1, h2, ?_, h4⟩
    have hl := own_block_lt h c (by rw [h1]; rfl)
    rw [hg.block c hl (fun e => hne c (by rw [h1]; rfl) e.symm)]
    exact h3
/-- a slice of slices, all of them rows of the call's own, from a block on -/
theorem own_empty (w : World) (t : TypeId) (size : Nat) : (w.alloc (.cells #[] t)).ownsRow w.heap.size t size (.slice (some ⟨w.heap.size, 0, none⟩) 0 0) 0 [] :=
  Draw.own_new (w := w) (cs := #[]) (t := t) (n := 0) (size := size) (base := w.heap.size) rfl (by simp) (Nat.zero_le _) (Nat.le_refl _)
theorem ok_good {zs : List E} (h : ok zs = true) : ∀ x ∈ zs, good x := fun x hx => by
  have := (ok_small h).2 x hx
  exact ⟨by unfold maxLen; omega, by unfold maxLen; omega⟩
/-- what was put, read -/
theorem put_any (zs : List E) : (put zs).size ≤ 200 ∧ getB (put zs) = (if ok zs = true then zs else [], ok zs) := by
  cases h : ok zs
  · have e : put zs = ByteArray.empty := by unfold put; rw [h]; rfl
    rw [e]
    exact ⟨by decide, getB_len (.inl (by decide))⟩
  · exact ⟨(put_size h).2, by rw [getB_put h]; rfl⟩
theorem getB_four (s : ByteArray) : (getB s).1.length ≤ 4 := by
  by_cases hc : s.size ≠ 0 ∧ put (pI s) = s
  · rw [getB_of hc.2 hc.1]
    exact (ok_len (of_put hc.2 hc.1)).2
  · unfold getB
    rw [if_neg hc]
    simp
set_option maxRecDepth 100000 in
set_option maxHeartbeats 4000000 in
theorem spec_get (s : ByteArray) (w : World) (hs : s.size ≤ 4194304) : Calls Tryd.prog 15 #[.string s] w (Got s w) := by
  obtain ⟨i0, hi, hz0, hz1, hz2⟩ := info_parts info_e
  have hmx : 1 ≤ maxLen := by unfold maxLen; omega
  unfold Got
  obtain ⟨G, hG⟩ : ∃ G, G = getB s := ⟨_, rfl⟩
  rw [← hG]
  have HG := hide hG
  clear hG
  have HE := hide (own_empty w 47 2)
  have HB0 := hide ((Below.refl w.heap.size w).alloc (Nat.le_refl _) (.cells #[] 47))
  by_cases h1 : s.size < 2
  · have HF := hide ((unhide HG).trans (getB_len (.inl h1)))
    have h1I : (s.size : Int) < 2 := by omega
    clear HG
    go_enter Tryd.func15, Tryd.ntmps15
    go_wp2_with fail
    go_ret2
    obtain rfl := unhide HF
    exact ⟨_, rfl, unhide HE, unhide HB0⟩
  have h1I : decide ((s.size : Int) < 2) = false := by simp; omega
  have h1N : decide (s.size < 2) = false := by simp; omega
  by_cases h2 : 200 < s.size
  · have HF := hide ((unhide HG).trans (getB_len (.inr h2)))
    have h2I : (200 : Int) < (s.size : Int) := by omega
    clear HG
    go_enter Tryd.func15, Tryd.ntmps15
    go_wp2_with fail
    go_ret2
    obtain rfl := unhide HF
    exact ⟨_, rfl, unhide HE, unhide HB0⟩
  have h2I : decide ((200 : Int) < (s.size : Int)) = false := by simp; omega
  have h2N : decide (200 < s.size) = false := by simp; omega
  obtain ⟨n1, hn1⟩ : ∃ n, n = s.size - 1 := ⟨_, rfl⟩
  have hnI : (s.size : Int) - 1 = (n1 : Int) := by omega
  have hn2 : 1 ≤ n1 := by omega
  have hn2I : (1 : Int) ≤ (n1 : Int) := by omega
  have hn3 : n1 ≤ s.size := by omega
  have hn3I : (n1 : Int) ≤ (s.size : Int) := by omega
  have HX := hide (show (s.extract 1 n1).data.toList = mid s by rw [hn1]; exact mid_ext (by omega))
  have HXs := hide (show (s.extract 1 n1).size ≤ 200 by rw [ByteArray.size_extract]; omega)
  have HS2 := hide (show 2 ≤ s.size by omega)
  have HCut := hide (fun W => l3Cut_any (s.extract 1 n1) 44 44 rfl W (by have := unhide HXs; omega))
  obtain ⟨T, hT⟩ : ∃ T, T = cutL 44 (mid s) := ⟨_, rfl⟩
  have HTP := hide (show cutB 44 (s.extract 1 n1) = T.map ofL by unfold cutB; rw [unhide HX, hT]; rfl)
  have hml : (mid s).length ≤ 200 := by
    rw [← unhide HX]
    have h4 : (s.extract 1 n1).data.toList.length = (s.extract 1 n1).size := Array.length_toList
    have := unhide HXs
    omega
  have HTL := hide (show T.length ≤ 201 by rw [hT]; have := cutL_len 44 (mid s); omega)
  have HTM := hide (show ∀ t ∈ T, t.length ≤ 200 from fun t ht => by
    rw [hT] at ht
    have h3 := cutL_mem 44 (mid s) t ht
    omega)
  rw [unhide HTP] at HCut
  simp only [List.length_map] at HCut
  have HT := hide hT
  clear hn1 hT hml
  go_enter Tryd.func15, Tryd.ntmps15
  go_wp2_with fail
  refine (unhide HCut _).mono ?_
  rintro e w1 ⟨v, rfl, ov, b1⟩
  have z1 := b1.size
  simp only [World.size_alloc] at z1
  obtain ⟨va, vq, rfl, hq1, hq2⟩ : ∃ a q, v = .slice a T.length q ∧ T.length ≤ q ∧ q ≤ maxLen := by obtain ⟨-, a, q, e, h1, h2, -⟩ := lies_of_own ov; exact ⟨a, q, e, h1, h2⟩
  unfold maxLen at hq2
  obtain ⟨n, hn⟩ : ∃ n, n = T.length := ⟨_, rfl⟩
  have HN := hide hn
  rw [← hn] at ov hq1 ⊢
  have OV := hide (own_mono ov (show w.heap.size ≤ (w.alloc (.cells #[] 47)).heap.size by simp))
  have hnb : n ≤ 201 := by rw [hn]; exact unhide HTL
  have OE := hide (own_below (unhide HE) b1)
  have B1 := (unhide HB0).trans (b1.mono (by simp))
  clear ov hn b1 HE HB0 HCut
  go_wp2_with fail
  go_loopw [4, 6] (fun ov i wr => ∃ (k : Nat) (pa : Option Addr) (pc : Nat), k ≤ n ∧ i = .int .i64 k ∧ ov = .slice pa k pc ∧ wr.ownsRow w.heap.size 47 2 (.slice pa k pc) k (flat ((T.take k).map twoE)) ∧ Hid (wr.ownsRow w.heap.size 9 1 (.slice va n vq) n (flatS (T.map ofL))) ∧ Below w.heap.size w wr) (fun _ i _ => n - (intOf i).toNat)
  case atStart => exact ⟨0, _, 0, Nat.zero_le _, rfl, rfl, unhide OE, OV, B1⟩
  case round =>
    clear OE OV B1 z1
    obtain ⟨k, pa, pc, hk, rfl, rfl, hown, HV, hbel⟩ := hrel
    have hsz := hbel.size
    have hk0 : (0 : Int) ≤ (k : Int) := Int.natCast_nonneg _
    by_cases hlt : k < n
    · have hkT : k < T.length := by rw [← unhide HN]; exact hlt
      obtain ⟨a', q', e', -, -, hcl⟩ := pieces_cell (P := T.map ofL) (own_len (unhide HV) (by rw [List.length_map]; exact unhide HN) rfl)
      simp only [Value.slice.injEq] at e'
      obtain ⟨rfl, -, rfl⟩ := e'
      obtain ⟨b, off, rfl, hbl, hc0⟩ := hcl k (by rw [List.length_map]; exact hkT)
      rw [List.getElem_map] at hc0
      have hts := unhide HTM T[k] (List.getElem_mem hkT)
      have HPS := hide (show flat ((T.take (k + 1)).map twoE) = flat ((T.take k).map twoE) ++ [.string (twoE T[k]).1, .string (twoE T[k]).2] by
        rw [List.take_succ_eq_append_getElem hkT, List.map_append]; unfold flat; rw [flatOf_append, List.map_cons, List.map_nil, flatOf_one]; rfl)
      have HMem := hide (show T[k] ∈ cutL 44 (mid s) by rw [← unhide HT]; exact List.getElem_mem hkT)
      obtain ⟨t, ht⟩ : ∃ t, t = T[k] := ⟨_, rfl⟩
      rw [← ht] at hc0 hts HPS HMem
      have HC1 := hide (l3Cut_any (ofL t) 61 61 rfl wr (by rw [ofL, size_of]; omega))
      rw [cutB_ofL] at HC1
      simp only [List.length_map] at HC1
      have hk1 : (k : Int) < (n : Int) := by omega
      have H2 := hide (fun (h : (cutL 61 t).length = 2) => two_of h)
      rw [cutB_ofL] at H2
      clear ht hcl
      go_wp2_with fail
      refine (unhide HC1).mono ?_
      rintro e w2 ⟨u, rfl, ou, b2⟩
      have z2 := b2.size
      by_cases h2 : (cutL 61 t).length = 2
      · rw [unhide H2 h2, h2] at ou
        obtain ⟨ua, uq, rfl, hu1, hu2, hcl⟩ := pieces_cell (P := [(twoE t).1, (twoE t).2]) ou
        obtain ⟨ub, uo, rfl, hubl, hu0⟩ := hcl 0 (by simp)
        obtain ⟨ub', uo', e', -, hu1'⟩ := hcl 1 (by simp)
        simp only [Option.some.injEq, Addr.mk.injEq, and_true] at e'
        obtain ⟨rfl, rfl⟩ := e'
        have hug := own_ge ou ub rfl
        simp only [List.getElem_cons_zero, List.getElem_cons_succ, Nat.add_zero, List.length_cons, List.length_nil] at hu0 hu1' hu1 ⊢
        obtain ⟨A, hA⟩ : ∃ A, A = (twoE t).1 := ⟨_, rfl⟩
        obtain ⟨B, hB⟩ : ∃ B, B = (twoE t).2 := ⟨_, rfl⟩
        rw [← hA] at hu0 HPS
        rw [← hB] at hu1' HPS
        have hown2 : w2.drew.ownsRow w.heap.size 47 2 (.slice pa k pc) k (flat ((T.take k).map twoE)) := World.ownsRow.drew (own_below hown b2)
        have hob : some ub ≠ (Value.slice pa k pc).ownBlock := fun e => by have := own_block_lt hown ub e.symm; omega
        have HV2 := hide (World.ownsRow.drew (own_below (unhide HV) b2))
        have hbel2 : Below w.heap.size w w2.drew := (hbel.trans (b2.mono hsz)).drew
        have S6 : (fun W : World => W.cell? ⟨ub, uo, none⟩ = some (.string A) ∧ W.cell? ⟨ub, uo + 1, none⟩ = some (.string B)) w2.drew := ⟨by simpa using hu0, by simpa using hu1'⟩
        have S9 : ∀ o, (fun W : World => W.cell? ⟨ub, uo, none⟩ = some (.string A) ∧ W.cell? ⟨ub, uo + 1, none⟩ = some (.string B)) (w2.drew.alloc o) := fun o => ⟨(((Below.refl _ _).alloc (Nat.le_refl _) _).cell (p := ⟨ub, _, none⟩) (by first | (simp; omega) | simpa using hubl)).trans S6.1, (((Below.refl _ _).alloc (Nat.le_refl _) _).cell (p := ⟨ub, _, none⟩) (by first | (simp; omega) | simpa using hubl)).trans S6.2⟩
        have hubl2 : ub < w2.drew.heap.size := by simpa using hubl
        have hsz2 := hbel2.size
        clear hcl ou hu0 hu1' hA hB hown HC1 H2 hc0 b2 HMem h2
        go_wp2_with fail
        go_region_held3 (fun W => W.cell? ⟨ub, uo, none⟩ = some (.string A) ∧ W.cell? ⟨ub, uo + 1, none⟩ = some (.string B)) (first | exact S6 | exact S9 _ | exact S10) ((refine app_step _ (by rfl) _ _ _ (by rfl) w.heap.size 47 i0 _ 2 32 Tryd.underlying23 hi hz0 hz1 hz2 rfl (by omega) _ k _ (by rfl) (World.ownsRow.alloc hown2 _) _ 1 [.string A, .string B] (by rfl) (lies_new (w := w2.drew) (by simp) rfl hmx) (by simp [Value.oneCell']) (by unfold maxLen; omega) (by omega) (by simp <;> omega) ?_; intro vn wn on gn an; have S10 : (fun W : World => W.cell? ⟨ub, uo, none⟩ = some (.string A) ∧ W.cell? ⟨ub, uo + 1, none⟩ = some (.string B)) wn := ⟨by rw [gn.cell_far _ (by simp <;> omega) hob]; exact (S9 _).1, by rw [gn.cell_far _ (by simp <;> omega) hob]; exact (S9 _).2⟩))
        have R9 : Below w.heap.size w wn := below_grown (hbel2.alloc hsz2 _) (by simp <;> omega) gn (own_ge hown2)
        have R2 := hide (show wn.ownsRow w.heap.size 47 2 vn (k + 1) (flat ((T.take (k + 1)).map twoE)) by rw [unhide HPS]; exact on)
        have R3 := hide (show wn.ownsRow w.heap.size 9 1 (.slice (some ⟨b, off, none⟩) n vq) n (flatS (T.map ofL)) from own_grown (World.ownsRow.alloc (unhide HV2) _) gn (fun j hj e => own_ne_type (unhide HV2) hown2 (by decide) j hj e))
        obtain ⟨an', cn, hvn⟩ : ∃ a c, vn = .slice a (k + 1) c := by obtain ⟨-, a, c, e, -⟩ := lies_of_own on; exact ⟨a, c, e⟩
        have HVn := hide hvn
        clear on gn an hown2 hvn hbel2 S6 S9 S10
        go_wp2_with fail
        go_roundw
        case rel => exact ⟨k + 1, an', cn, by omega, by go_num, unhide HVn, by rw [← unhide HVn]; exact unhide R2, R3, R9⟩
        case measure => simp [intOf]; omega
      · obtain ⟨ua, un, uq, hun, rfl⟩ : ∃ a n q, n = (cutL 61 t).length ∧ u = .slice a n q := by obtain ⟨-, a, q, e, -⟩ := lies_of_own ou; exact ⟨a, _, q, rfl, e⟩
        have HF := hide ((unhide HG).trans (getB_part (unhide HMem) h2))
        have hne : un ≠ 2 := by rw [hun]; exact h2
        have hneI : ((un : Int) == 2) = false := beq_eq_false_iff_ne.2 (by omega)
        have hneN : (un == 2) = false := beq_eq_false_iff_ne.2 hne
        have hneJ : ((un : Int) != 2) = true := by simp; omega
        have hb2 := hbel.trans (b2.mono hsz)
        have HE2 := hide (own_mono (own_empty w2 47 2) hb2.size)
        have HB2 := hide (hb2.alloc hb2.size (.cells #[] 47))
        clear ou hown HC1 H2 hc0 b2 HMem h2 hun HPS HG hb2
        go_wp2_with fail
        go_ret2
        obtain rfl := unhide HF
        exact ⟨_, rfl, unhide HE2, unhide HB2⟩
    · obtain rfl : k = n := by omega
      rw [List.take_of_length_le (by have := unhide HN; omega)] at hown
      have hkf : decide ((k : Int) < (k : Int)) = false := by simp
      obtain ⟨L, hL⟩ : ∃ L, L = T.map twoE := ⟨_, rfl⟩
      have hlen : L.length = k := by rw [hL, List.length_map]; exact (unhide HN).symm
      have hgood : ∀ x ∈ L, good x := by
        rw [hL]
        intro x hx
        obtain ⟨p, hp, rfl⟩ := List.mem_map.1 hx
        have h1 := unhide HTM p hp
        have h2 := two_size p
        exact ⟨by unfold maxLen; omega, by unfold maxLen; omega⟩
      rw [← hL] at hown
      have hIs : Is wr (.slice pa k pc) L := by rw [← hlen]; exact lies_of_own (by rw [hlen]; exact hown)
      have HI := hide (spec_put hIs hgood (by rw [hlen]; unfold maxLen; omega))
      have HL := hide (show L = (cutL 44 (mid s)).map twoE by rw [hL, unhide HT])
      have HO := hide (own_len hown hlen.symm rfl)
      clear hown hlen hgood hIs hL hkf
      go_wp2_with fail
      refine (unhide HI).mono ?_
      rintro e w3 ⟨rfl, b3⟩
      have b03 := hbel.trans (b3.mono hsz)
      have HO3 := hide (own_below (unhide HO) b3)
      clear HO HI b3 hbel
      by_cases hp : put L = s
      · have HGG := hide ((unhide HG).trans (getB_of hp (by have := unhide HS2; omega)))
        have hqq : (s.toList == s.toList) = true := by simp
        clear HG HL
        rw [hp]
        clear hp
        go_wp2_with fail
        go_ret2
        obtain rfl := unhide HGG
        exact ⟨_, rfl, unhide HO3, b03⟩
      · have HGG := hide ((unhide HG).trans (getB_two_ne (by rw [← unhide HL]; exact hp)))
        have hne : ((put L).toList == s.toList) = false := Mat.sameS_no.2 hp
        have HE2 := hide (own_mono (own_empty w3 47 2) b03.size)
        have HB2 := hide (b03.alloc b03.size (.cells #[] 47))
        clear hp HG HL
        generalize put L = P1 at hne ⊢
        go_wp2_with fail
        go_ret2
        obtain rfl := unhide HGG
        exact ⟨_, rfl, unhide HE2, unhide HB2⟩
end Go.Proofs.YtkmoekbicbjdmaaDoor.Lab

/- LabelsCmp of the program, at every two slices of labels. -/
namespace Go.Proofs.YtkmoekbicbjdmaaDoor.Lab
open Go.RowKit Rw
set_option linter.unusedVariables false
attribute [local go_sem ↓] Go.wp_at_zero Go.wp_at_succ
theorem new_cell {W : World} {cs : Array Value} {t : TypeId} {B o : Nat} {u : Value} (hB : B = W.heap.size) (h : cs[o]? = some u) : (W.alloc (.cells cs t)).cell? ⟨B, o, none⟩ = some u := by
  subst hB
  rw [cell_of_row (W.alloc (.cells cs t)) W.heap.size o cs t _ (heap_alloc_new W _)]
  exact h
end Go.Proofs.YtkmoekbicbjdmaaDoor.Lab
