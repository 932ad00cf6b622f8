/- My own texts of one claim, laid together by program: LabGet2, MatGetMath, GReg, MatGet. -/
import Derived.Test.YtkmoekbicbjdmaaDoorG9315c4e703
import Derived.Test.YtkmoekbicbjdmaaDoorG2ede2d924a
import Derived.Test.YtkmoekbicbjdmaaDoorG4d6b791a7c
import Derived.Test.YtkmoekbicbjdmaaDoorGbf620389e9
import Derived.Deep.RegionHeld3
import Derived.Test.YtkmoekbicbjdmaaDoorG859ee0a49f
import Derived.Test.YtkmoekbicbjdmaaDoorG0ae6cab466
/- LabelsGet of the program, at every text. What it asks: internal/bytealg.MaxLen holds some int, as in every world of a started program. -/
namespace Go.Proofs.YtkmoekbicbjdmaaDoor.Lab
open Go.RowKit Rw PutMath CutText
set_option linter.unusedVariables false
attribute [local go_sem ↓] Go.wp_at_zero Go.wp_at_succ
theorem cut_len (l sep : List UInt8) : (Lib.cut l sep).1.length ≤ l.length ∧ (Lib.cut l sep).2.1.length ≤ l.length := by
  unfold Lib.cut
  split
  · simp [List.length_take, List.length_drop]; omega
  · simp
theorem cutE_size (p : ByteArray) : (cutE p).1.size ≤ p.size ∧ (cutE p).2.size ≤ p.size := by
  have h := cut_len p.data.toList [61]
  have hl : p.data.toList.length = p.size := Array.length_toList
  unfold cutE
  rw [hl] at h
  exact ⟨by rw [ofL, size_of]; exact h.1, by rw [ofL, size_of]; exact h.2⟩
theorem pieces_size {m : List UInt8} : ∀ p ∈ piecesOf m, p.size ≤ m.length := by
  intro p hp
  unfold piecesOf at hp
  split at hp
  · cases hp
  · obtain ⟨l, hl, rfl⟩ := List.mem_map.1 hp
    rw [ofL, size_of]
    exact cutL_mem 44 m l hl
theorem pieces_len (m : List UInt8) : (piecesOf m).length ≤ m.length + 1 := by
  unfold piecesOf
  split
  · simp
  · rw [List.length_map]; exact cutL_len 44 m
theorem pI_is {s : ByteArray} {m : List UInt8} (h : s.data.toList = 123 :: m ++ [125]) : pI s = (piecesOf m).map cutE := by
  have hm : mid s = m := by unfold mid; rw [h]; simp
  unfold pI partsI piecesOf
  rw [hm]
/-- what reading a text answers -/
def Got (s : ByteArray) (w : World) (e : Ending) (w' : World) : Prop := ∃ v, e = .returned (.tuple #[v, .bool (getB s).2]) ∧ w'.ownsRow w.heap.size 47 2 v (getB s).1.length (flat (getB s).1) ∧ Below w.heap.size w w'
theorem pieces_cell {w : World} {base : Nat} {v : Value} {P : List ByteArray} (h : w.ownsRow base 9 1 v P.length (flatS P)) : ∃ a q, v = .slice a P.length q ∧ P.length ≤ q ∧ q ≤ maxLen ∧ ∀ k (hk : k < P.length), ∃ b off, a = some ⟨b, off, none⟩ ∧ b < w.heap.size ∧ w.cell? ⟨b, off + k, none⟩ = some (.string P[k]) := by
  obtain ⟨-, a, q, e, h1, h2, -, hr⟩ := lies_of_own h
  refine ⟨a, q, e, h1, h2, fun k hk => ?_⟩
  obtain ⟨b, off, ea, hb, hc⟩ := hr (by omega)
  exact ⟨b, off, ea, hb, hc k _ (by unfold flatS; rw [List.getElem?_map, List.getElem?_eq_getElem hk]; rfl)⟩
theorem cut_any (p : ByteArray) (W : World) (hp : p.size ≤ 4194304) (hm : Mx W) : Calls Tryd.prog 35 #[.string p, .string ⟨#[61]⟩] W fun e w' => ∃ bo, e = .returned (.tuple #[.string (cutE p).1, .string (cutE p).2, .bool bo]) ∧ Below W.heap.size W w' := by
  obtain ⟨m, hm⟩ := hm
  exact (Tryd.strings_Cut p ⟨#[61]⟩ m W (by omega) hm).mono fun e w' ⟨h1, q, h2⟩ => ⟨_, h1, by rw [h2]; exact ⟨rfl, rfl, rfl, Nat.le_refl _, fun _ _ => rfl⟩⟩
set_option maxRecDepth 100000 in
set_option maxHeartbeats 4000000 in
theorem impl_get (s : ByteArray) (w : World) (hs : s.size ≤ 4194304) (hm : Mx w) : Calls Tryd.prog 9 #[.string s] w (Got s w) := by
  obtain ⟨i0, hi, hz0, hz1, hz2⟩ := info_parts info_e
  have HW := hide (within_any s 123 125 w hs hm)
  have HM := hide hm
  have hmx : 1 ≤ maxLen := by unfold maxLen; omega
  unfold Got
  obtain ⟨G, hG⟩ : ∃ G, G = getB s := ⟨_, rfl⟩
  rw [← hG]
  have HG := hide hG
  clear hG hm
  go_enter Tryd.func9, Tryd.ntmps9
  go_wp2_with fail
  refine (unhide HW).mono ?_
  rintro e w1 (⟨hno, rfl, rfl⟩ | ⟨m, v, hm1, rfl, ov, b1⟩)
  · have HF := hide ((unhide HG).trans (getB_last hno))
    clear hno HW HG
    go_wp2_with fail
    go_ret2
    obtain rfl := unhide HF
    exact ⟨_, rfl, World.ownsRow_nil _ _ _ _, Below.refl _ _⟩
  obtain ⟨va, vq, rfl, hq1, hq2, hcell⟩ := pieces_cell ov
  have HP := hide (pI_is hm1)
  have hl : m.length ≤ 4194304 := by
    have h2 : s.data.toList.length = s.size := Array.length_toList
    rw [hm1] at h2
    simp at h2
    omega
  have HS := hide (fun p hp => Nat.le_trans (pieces_size (m := m) p hp) hl)
  have hpl := pieces_len m
  have HC := hide hcell
  have HS0 := hide (show s.size ≠ 0 by intro e; have h2 : s.data.toList.length = s.size := Array.length_toList; rw [hm1, e] at h2; simp at h2)
  have HM1 := hide ((unhide HM).below b1)
  have z1 := b1.size
  obtain ⟨P, hP⟩ : ∃ P, P = piecesOf m := ⟨_, rfl⟩
  rw [← hP] at HP HS HC hpl hq1 ⊢
  obtain ⟨n, hn⟩ : ∃ n, n = P.length := ⟨_, rfl⟩
  have HN := hide hn
  rw [← hn] at hpl hq1 ⊢
  have hn2 : n ≤ 4194305 := by omega
  unfold maxLen at hq2
  clear hm1 ov hcell hP hn HW hpl HM
  go_wp2_with fail
  go_loopw [6, 21] (fun lv i wr => ∃ (k : Nat) (pa : Option Addr) (pc : Nat), k ≤ n ∧ i = .int .i64 k ∧ lv = .slice pa k pc ∧ wr.ownsRow w1.heap.size 47 2 (.slice pa k pc) k (flat ((P.take k).map cutE)) ∧ Below w1.heap.size w1 wr) (fun _ i _ => n - (intOf i).toNat)
  case atStart => exact ⟨0, none, 0, Nat.zero_le _, rfl, rfl, World.ownsRow_nil _ _ _ _, Below.refl _ _⟩
  case round =>
    obtain ⟨k, pa, pc, hk, rfl, rfl, hown, hbel⟩ := hrel
    have hsz := hbel.size
    have hk0 : (0 : Int) ≤ (k : Int) := Int.natCast_nonneg _
    by_cases hlt : k < n
    · have hkP : k < P.length := by rw [← unhide HN]; exact hlt
      obtain ⟨b, off, rfl, hbl, hc0'⟩ := unhide HC k hkP
      have hc0 : wr.cell? ⟨b, off + k, none⟩ = some (.string P[k]) := (hbel.cell (p := ⟨b, _, none⟩) hbl).trans hc0'
      have hps := unhide HS P[k] (List.getElem_mem hkP)
      have HPS := hide (show flat ((P.take (k + 1)).map cutE) = flat ((P.take k).map cutE) ++ [.string (cutE P[k]).1, .string (cutE P[k]).2] by
        rw [List.take_succ_eq_append_getElem hkP, List.map_append]; unfold flat; rw [flatOf_append, List.map_cons, List.map_nil, flatOf_one]; rfl)
      have HCut := hide (cut_any P[k] wr (by omega) ((unhide HM1).below hbel))
      generalize (cutE P[k]).1 = A at HCut HPS
      generalize (cutE P[k]).2 = B at HCut HPS
      generalize P[k] = pk at hc0 hps HCut
      have hk1 : (k : Int) < (n : Int) := by omega
      clear hc0'
      go_wp2_with fail
      refine (unhide HCut).mono ?_
      rintro e w2 ⟨bo, rfl, b2⟩
      have hown2 := own_below hown b2
      have hbel2 := hbel.trans (b2.mono hsz)
      have hsz2 := hbel2.size
      clear hown hc0 HCut b2
      go_wp2_with (at_builtin; refine app_wp _ rfl _ _ _ rfl w1.heap.size 47 i0 _ 2 32 Tryd.underlying23 hi hz0 hz1 hz2 rfl (by omega) _ k _ rfl (hown2.alloc _) _ 1 [.string A, .string B] rfl (lies_new (by simp) rfl hmx) (by simp [Value.oneCell']) (by unfold maxLen; omega) (by omega) (by simp; omega) ?_; intro vn wn on gn an)
      have R9 : Below w1.heap.size w1 wn := below_grown (hbel2.alloc hsz2 _) (by simp; omega) gn (own_ge hown2)
      have R2 := hide (show wn.ownsRow w1.heap.size 47 2 vn (k + 1) (flat ((P.take (k + 1)).map cutE)) by rw [unhide HPS]; exact on)
      obtain ⟨an', cn, hvn⟩ : ∃ a c, vn = .slice a (k + 1) c := by obtain ⟨-, a, c, e, -⟩ := lies_of_own on; exact ⟨a, c, e⟩
      have HV := hide hvn
      clear on gn an hown2 hvn hbel2 hsz2
      go_wp2_with fail
      go_roundw
      case rel => exact ⟨k + 1, an', cn, by omega, by go_num, unhide HV, by rw [← unhide HV]; exact unhide R2, R9⟩
      case measure => simp [intOf]; omega
    · obtain rfl : k = n := by omega
      rw [List.take_of_length_le (by have := unhide HN; omega), ← unhide HP] at hown
      have hkf : decide ((k : Int) < (k : Int)) = false := by simp
      have hlen : (pI s).length = k := by rw [unhide HP, List.length_map]; exact (unhide HN).symm
      have hgood : ∀ x ∈ pI s, good x := by
        rw [unhide HP]
        intro x hx
        obtain ⟨p, hp, rfl⟩ := List.mem_map.1 hx
        have h1 := unhide HS p hp
        have h2 := cutE_size p
        exact ⟨by unfold maxLen; omega, by unfold maxLen; omega⟩
      obtain ⟨L, hL⟩ : ∃ L, L = pI s := ⟨_, rfl⟩
      rw [← hL] at hown hlen hgood
      have hIs : Is wr (.slice pa k pc) L := by rw [← hlen]; exact lies_of_own (by rw [hlen]; exact hown)
      have HI := hide (impl_put hIs hgood)
      have HIs := hide hIs
      have HL := hide hL
      have b02 := b1.trans (hbel.mono z1)
      clear hown hlen hgood hIs hL hkf
      go_wp2_with fail
      refine (unhide HI).mono ?_
      rintro e w3 ⟨rfl, b3⟩
      have b03 := b02.trans (b3.mono b02.size)
      have HIs3 := hide ((unhide HIs).below b3)
      clear HIs HI b3 b02 hbel
      by_cases hp : put L = s
      · have hG2 := (unhide HG).trans (getB_of hp (unhide HS0))
        have HCp := hide (copy_any (unhide HIs3) (ok_small (of_put hp (unhide HS0))))
        have HGG := hide hG2
        have hqq : (s.toList == s.toList) = true := by simp
        clear hG2 HG HL
        rw [hp]
        clear hp
        go_wp2_with fail
        refine (unhide HCp).mono ?_
        rintro e w4 ⟨r, rfl, orr, b4⟩
        have OR := hide (own_mono orr b03.size)
        have b04 := b03.trans (b4.mono b03.size)
        clear orr b4 HCp
        go_wp2_with fail
        go_ret2
        obtain rfl := unhide HGG
        exact ⟨_, rfl, unhide OR, b04⟩
      · have HGG := hide ((unhide HG).trans (getB_put_ne (by rw [← unhide HL]; exact hp)))
        have hne : ((put L).toList == s.toList) = false := Mat.sameS_no.2 hp
        clear hp HG HL
        generalize put L = P1 at hne ⊢
        go_wp2_with fail
        go_ret2
        obtain rfl := unhide HGG
        exact ⟨_, rfl, World.ownsRow_nil _ _ _ _, b03⟩
end Go.Proofs.YtkmoekbicbjdmaaDoor.Lab

/- Matches read from a text, as plain mathematics: what was put is read back, and only that is read. No condition. -/
namespace Go.Proofs.YtkmoekbicbjdmaaDoor.Mat
open PutMath CutText
open Lab (mid ofL ofL_list list_ofL letter letters ext_list)
set_option linter.unusedVariables false
def zE : E := (0, ByteArray.empty, ByteArray.empty)
def kindB (b : UInt8) : Int := if b = 61 then 1 else if b = 33 then 2 else if b = 94 then 3 else if b = 126 then 4 else 0
def sgn (k : Int) : UInt8 := if k = 1 then 61 else if k = 2 then 33 else if k = 3 then 94 else 126
theorem sign_of (k : Int) : signB k = ofL [sgn k] := by unfold signB sgn; split <;> (try split) <;> (try split) <;> rfl
theorem kind_sgn {k : Int} (h1 : 1 ≤ k) (h4 : k ≤ 4) : kindB (sgn k) = k := by
  rcases (show k = 1 ∨ k = 2 ∨ k = 3 ∨ k = 4 from by omega) with rfl | rfl | rfl | rfl <;> rfl
theorem kind_letter {b : UInt8} (h : letter b = true) : kindB b = 0 := by
  unfold kindB
  split
  · rename_i e; subst e; exact absurd h (by decide)
  · split
    · rename_i e; subst e; exact absurd h (by decide)
    · split
      · rename_i e; subst e; exact absurd h (by decide)
      · split
        · rename_i e; subst e; exact absurd h (by decide)
        · rfl
theorem sgn_letter (k : Int) : letter (sgn k) = false := by unfold sgn; split <;> (try split) <;> (try split) <;> decide
theorem kind_range (b : UInt8) : 0 ≤ kindB b ∧ kindB b ≤ 4 := by unfold kindB; split <;> (try split) <;> (try split) <;> (try split) <;> omega
theorem kind_eq {b : UInt8} {k : Int} (h1 : 1 ≤ k) (h4 : k ≤ 4) : kindB b = k ↔ sgn k = b := by
  constructor
  · intro h
    unfold kindB at h
    split at h
    · subst h; rename_i e; rw [e]; rfl
    · split at h
      · subst h; rename_i e; rw [e]; rfl
      · split at h
        · subst h; rename_i e; rw [e]; rfl
        · split at h
          · subst h; rename_i e; rw [e]; rfl
          · omega
  · intro h; rw [← h]; exact kind_sgn h1 h4
/-- the byte at a place -/
def bAt (p : ByteArray) (i : Nat) : UInt8 := p.data.toList.getD i 0
theorem one_ext {p : ByteArray} {i : Nat} (h : i < p.size) : p.extract i (i + 1) = ofL [bAt p i] := by
  apply Go.WideShapes.bytes_inj
  have hl : p.data.toList.length = p.size := Array.length_toList
  rw [ext_list, ofL_list, List.drop_eq_getElem_cons (by omega), show i + 1 - i = 1 by omega]
  simp [bAt, List.getD, List.getElem?_eq_getElem (show i < p.data.toList.length by omega)]
theorem sign_ext {p : ByteArray} {i : Nat} {k : Int} (h : i < p.size) : sameS (p.extract i (i + 1)) (signB k) = decide (sgn k = bAt p i) := by
  rw [one_ext h, sign_of]
  by_cases e : sgn k = bAt p i
  · rw [e, sameS_self]; simp
  · rw [decide_eq_false e]
    refine sameS_no.2 (fun h2 => e ?_)
    have h3 := congrArg (fun x : ByteArray => x.data.toList) h2
    simp only [ofL_list] at h3
    exact (List.cons.inj h3).1.symm
/-- how many letters stand ahead -/
def lead (p : ByteArray) : Nat := (p.data.toList.takeWhile letter).length
def cutAt (p : ByteArray) (i : Nat) : E := (kindB (bAt p i), p.extract 0 i, p.extract (i + 1) p.size)
/-- the program's reading of a part -/
def matchE (p : ByteArray) : E := if letters p = true then zE else if kindB (bAt p (lead p)) = 0 then zE else cutAt p (lead p)
/-- the model's -/
def scan (p : ByteArray) : Nat → Nat → Option E
  | 0, _ => none
  | f + 1, i => if kindB (bAt p i) = 0 then scan p f (i + 1) else some (cutAt p i)
def matchS (p : ByteArray) : Option E := scan p p.size 0
theorem scan_skip {p : ByteArray} : ∀ (i : Nat), i ≤ p.size → (∀ j, j < i → kindB (bAt p j) = 0) → matchS p = scan p (p.size - i) i
  | 0, _, _ => rfl
  | i + 1, h, hz => by
    rw [scan_skip i (by omega) (fun j hj => hz j (by omega)), show p.size - i = (p.size - (i + 1)) + 1 by omega, scan, if_pos (hz i (by omega))]
theorem matchS_none {p : ByteArray} (h : ∀ j, j < p.size → kindB (bAt p j) = 0) : matchS p = none := by
  rw [scan_skip p.size (Nat.le_refl _) h, Nat.sub_self]; rfl
theorem matchS_hit {p : ByteArray} {i : Nat} (hi : i < p.size) (h : ∀ j, j < i → kindB (bAt p j) = 0) (hk : kindB (bAt p i) ≠ 0) : matchS p = some (cutAt p i) := by
  rw [scan_skip i (by omega) h, show p.size - i = (p.size - (i + 1)) + 1 by omega, scan, if_neg hk]
theorem tw_app {q : UInt8 → Bool} {b : UInt8} {r : List UInt8} : ∀ {p : List UInt8}, p.all q = true → q b = false → (p ++ b :: r).takeWhile q = p
  | [], _, hb => by simp [hb]
  | x :: p, h, hb => by
    simp only [List.all_cons, Bool.and_eq_true] at h
    rw [List.cons_append, List.takeWhile_cons, if_pos h.1, tw_app h.2 hb]
theorem all_not {q : UInt8 → Bool} {b : UInt8} {p r : List UInt8} (hb : q b = false) : (p ++ b :: r).all q = false := by
  rw [List.all_append, List.all_cons, hb]; simp
theorem part_list (x : E) : (partOf x).data.toList = x.2.1.data.toList ++ sgn x.1 :: x.2.2.data.toList := by
  unfold partOf
  rw [app_toList, app_toList, sign_of, ofL_list]; simp
theorem ok_each {zs : List E} (h : ok zs = true) : ∀ x ∈ zs, 1 ≤ x.1 ∧ x.1 ≤ 4 ∧ letters x.2.1 = true ∧ letters x.2.2 = true ∧ x.2.1.size ≤ 6 ∧ x.2.2.size ≤ 8 := by
  unfold ok at h
  simp only [Bool.and_eq_true, decide_eq_true_eq] at h
  intro x hx
  obtain ⟨k, hk, rfl⟩ := List.getElem_of_mem hx
  have hs := List.all_eq_true.1 (show (List.range zs.length).all (stepOk zs) = true from h.1) k (List.mem_range.2 hk)
  rw [← at_get zs k hk]
  unfold stepOk Lab.nameB Lab.wordB at hs
  simp only [Bool.and_eq_true, decide_eq_true_eq] at hs
  exact ⟨hs.1.1.1, hs.1.1.2, hs.1.2.2, hs.2.2, hs.1.2.1.2, hs.2.1⟩
theorem ok_len {zs : List E} (h : ok zs = true) : zs.length ≤ 4 := by
  unfold ok at h
  simp only [Bool.and_eq_true, decide_eq_true_eq] at h
  exact h.2
theorem at_app {p : ByteArray} {a : List UInt8} {b : UInt8} {r : List UInt8} (h : p.data.toList = a ++ b :: r) : bAt p a.length = b ∧ p.extract 0 a.length = ofL a ∧ p.extract (a.length + 1) p.size = ofL r ∧ a.length < p.size ∧ ∀ j (hj : j < a.length), bAt p j = a[j] := by
  have hl : p.data.toList.length = p.size := Array.length_toList
  have hl2 := hl
  rw [h] at hl2
  simp only [List.length_append, List.length_cons] at hl2
  refine ⟨by unfold bAt; rw [h]; simp, ?_, ?_, by omega, fun j hj => ?_⟩
  · apply Go.WideShapes.bytes_inj
    rw [ext_list, ofL_list, h]; simp
  · apply Go.WideShapes.bytes_inj
    rw [ext_list, ofL_list, h, List.drop_append, List.drop_of_length_le (by omega), show a.length + 1 - a.length = 1 by omega, List.nil_append, List.drop_succ_cons, List.drop_zero]
    exact List.take_of_length_le (by omega)
  · unfold bAt
    rw [h, List.getD, List.getElem?_append_left hj, List.getElem?_eq_getElem hj]; rfl
theorem cut_part {x : E} (h1 : 1 ≤ x.1) (h4 : x.1 ≤ 4) : cutAt (partOf x) x.2.1.data.toList.length = x := by
  obtain ⟨e1, e2, e3, -, -⟩ := at_app (part_list x)
  unfold cutAt
  rw [e1, e2, e3, kind_sgn h1 h4, list_ofL, list_ofL]
theorem matchE_part {x : E} (h1 : 1 ≤ x.1) (h4 : x.1 ≤ 4) (hl : letters x.2.1 = true) : matchE (partOf x) = x := by
  have hL : lead (partOf x) = x.2.1.data.toList.length := by unfold lead; rw [part_list, tw_app hl (sgn_letter _)]
  have hn : letters (partOf x) = false := by unfold letters; rw [part_list]; exact all_not (sgn_letter _)
  unfold matchE
  rw [if_neg (by rw [hn]; simp), hL, (at_app (part_list x)).1, if_neg (by rw [kind_sgn h1 h4]; omega), cut_part h1 h4]
theorem matchS_part {x : E} (h1 : 1 ≤ x.1) (h4 : x.1 ≤ 4) (hl : letters x.2.1 = true) : matchS (partOf x) = some x := by
  obtain ⟨e1, -, -, e4, e5⟩ := at_app (part_list x)
  rw [matchS_hit e4 (fun j hj => by rw [e5 j hj]; exact kind_letter (List.all_eq_true.1 hl _ (List.getElem_mem _))) (by rw [e1, kind_sgn h1 h4]; omega), cut_part h1 h4]
def pI (s : ByteArray) : List E := (Lab.partsI s).map matchE
/-- what a text is read as -/
def getB (s : ByteArray) : List E × Bool := if s.size ≠ 0 ∧ put (pI s) = s then (pI s, true) else ([], false)
theorem no44 {zs : List E} (h : ok zs = true) : ∀ p ∈ parts zs, (44 : UInt8) ∉ p.data.toList := by
  intro p hp
  obtain ⟨x, hx, rfl⟩ := List.mem_map.1 hp
  obtain ⟨-, -, h1, h2, -⟩ := ok_each h x hx
  rw [part_list]
  intro hm
  rcases List.mem_append.1 hm with hm | hm
  · exact Lab.letters_no h1 (by decide) hm
  · rcases List.mem_cons.1 hm with e | hm
    · exact absurd e (by unfold sgn; split <;> (try split) <;> (try split) <;> decide)
    · exact Lab.letters_no h2 (by decide) hm
theorem put_list {zs : List E} (h : ok zs = true) : (put zs).data.toList = 91 :: joinB (parts zs) ++ [93] := by
  unfold put wrap
  rw [if_pos h, of_toList]
theorem mid_put {zs : List E} (h : ok zs = true) : mid (put zs) = joinB (parts zs) := by
  unfold mid
  rw [put_list h]
  simp
theorem cut_parts {zs : List E} (h : ok zs = true) (h0 : zs ≠ []) : cutL 44 (mid (put zs)) = (parts zs).map (·.data.toList) := by
  rw [mid_put h]
  exact cutL_joinB (fun e => h0 (List.eq_nil_of_length_eq_zero (by have := parts_length zs; rw [e, List.length_nil] at this; exact this.symm))) (no44 h)
theorem join_ne {zs : List E} (h : ok zs = true) (h0 : zs ≠ []) : mid (put zs) ≠ [] := by
  intro e
  have h1 := cut_parts h h0
  rw [e] at h1
  simp only [cutL] at h1
  have h2 := congrArg List.length h1
  rw [List.length_map, parts_length] at h2
  simp at h2
  obtain ⟨x, rfl⟩ : ∃ x, zs = [x] := by
    match zs, h2 with
    | [x], _ => exact ⟨x, rfl⟩
  have h3 : [[]] = [(partOf x).data.toList] := h1
  rw [part_list] at h3
  simp at h3
theorem partsI_put {zs : List E} (h : ok zs = true) : Lab.partsI (put zs) = parts zs := by
  unfold Lab.partsI
  by_cases h0 : zs = []
  · subst h0
    rw [if_pos (by rw [mid_put h]; rfl)]; rfl
  · rw [if_neg (join_ne h h0), cut_parts h h0, List.map_map]
    conv => rhs; rw [← List.map_id (parts zs)]
    exact List.map_congr_left (fun p _ => list_ofL p)
theorem pI_put {zs : List E} (h : ok zs = true) : pI (put zs) = zs := by
  unfold pI
  rw [partsI_put h]
  unfold parts
  rw [List.map_map]
  conv => rhs; rw [← List.map_id zs]
  exact List.map_congr_left (fun x hx => have e := ok_each h x hx; matchE_part e.1 e.2.1 e.2.2.1)
theorem put_size {zs : List E} (h : ok zs = true) : 2 ≤ (put zs).size ∧ (put zs).size ≤ 200 := by
  have e : (put zs).size = (joinB (parts zs)).length + 2 := by
    unfold put wrap
    rw [if_pos h, size_of]
    simp
  have hl := joinB_len (parts zs) 15 (fun p hp => by
    obtain ⟨x, hx, rfl⟩ := List.mem_map.1 hp
    obtain ⟨-, -, -, -, h3, h4⟩ := ok_each h x hx
    unfold partOf
    rw [app_size, app_size, sign_size]
    omega)
  rw [parts_length] at hl
  have := ok_len h
  omega
theorem of_put {zs : List E} {s : ByteArray} (h : put zs = s) (hs : s.size ≠ 0) : ok zs = true := by
  cases e : ok zs
  · exfalso
    unfold put at h
    rw [e] at h
    rw [← h] at hs
    exact hs rfl
  · rfl
theorem getB_put {zs : List E} (h : ok zs = true) : getB (put zs) = (zs, true) := by
  unfold getB
  rw [pI_put h, if_pos ⟨by have := (put_size h).1; omega, rfl⟩]
theorem getB_of {zs : List E} {s : ByteArray} (h : put zs = s) (hs : s.size ≠ 0) : getB s = (zs, true) := by
  have := getB_put (of_put h hs)
  rwa [h] at this
theorem getB_no {s : ByteArray} (h : ∀ zs, ok zs = true → put zs ≠ s) : getB s = ([], false) := by
  unfold getB
  rw [if_neg (fun ⟨h1, h2⟩ => h _ (of_put h2 h1) h2)]
theorem getB_true {s : ByteArray} {L : List E} (h : getB s = (L, true)) : ok L = true ∧ put L = s := by
  unfold getB at h
  split at h
  · rename_i hc
    obtain ⟨h1, h2⟩ := hc
    simp only [Prod.mk.injEq, and_true] at h
    subst h
    exact ⟨of_put h2 h1, h2⟩
  · simp at h
theorem getB_last {s : ByteArray} (h : ∀ r, s.data.toList ≠ 91 :: r ++ [93]) : getB s = ([], false) := getB_no (fun zs hz e => by
  have := put_list hz
  rw [e] at this
  exact h _ this)
theorem getB_put_ne {s : ByteArray} (h : put (pI s) ≠ s) : getB s = ([], false) := by
  unfold getB
  rw [if_neg (fun h2 => h h2.2)]
theorem getB_len {s : ByteArray} (h : s.size < 2 ∨ 200 < s.size) : getB s = ([], false) := getB_no (fun zs hz e => by
  have := put_size hz
  rw [e] at this
  omega)
def nilT : ByteArray := ⟨#[91, 93]⟩
theorem put_nil : put [] = nilT := by
  apply Go.WideShapes.bytes_inj
  rw [put_list rfl]; rfl
theorem getB_nil : getB nilT = ([], true) := by rw [← put_nil]; exact getB_put rfl
theorem ne_nil {zs : List E} {s : ByteArray} (h : put zs = s) (hs : s ≠ nilT) : zs ≠ [] := fun e => hs (by rw [← h, e, put_nil])
theorem getB_part {s : ByteArray} {p : List UInt8} (hs : s ≠ nilT) (hp : p ∈ cutL 44 (mid s)) (h : matchS (ofL p) = none) : getB s = ([], false) := getB_no (fun zs hz e => by
  rw [← e, cut_parts hz (ne_nil e hs)] at hp
  obtain ⟨q, hq, rfl⟩ := List.mem_map.1 hp
  obtain ⟨x, hx, rfl⟩ := List.mem_map.1 hq
  have h3 := ok_each hz x hx
  rw [list_ofL, matchS_part h3.1 h3.2.1 h3.2.2.1] at h
  cases h)
def oneS (p : List UInt8) : E := (matchS (ofL p)).getD zE
theorem one_put {zs : List E} (hz : ok zs = true) (h0 : zs ≠ []) : (cutL 44 (mid (put zs))).map oneS = zs := by
  rw [cut_parts hz h0]
  unfold parts
  rw [List.map_map, List.map_map]
  conv => rhs; rw [← List.map_id zs]
  refine List.map_congr_left (fun x hx => ?_)
  have h3 := ok_each hz x hx
  show oneS (partOf x).data.toList = x
  unfold oneS
  rw [list_ofL, matchS_part h3.1 h3.2.1 h3.2.2.1]; rfl
theorem getB_one_ne {s : ByteArray} (hs : s ≠ nilT) (h : put ((cutL 44 (mid s)).map oneS) ≠ s) : getB s = ([], false) := getB_no (fun zs hz e => by
  rw [← e, one_put hz (ne_nil e hs)] at h
  exact h rfl)
theorem cut_sizes (p : ByteArray) (i : Nat) : (cutAt p i).2.1.size ≤ p.size ∧ (cutAt p i).2.2.size ≤ p.size ∧ 0 ≤ (cutAt p i).1 ∧ (cutAt p i).1 ≤ 4 := by
  unfold cutAt
  exact ⟨by simp only [ByteArray.size_extract]; omega, by simp only [ByteArray.size_extract]; omega, (kind_range _).1, (kind_range _).2⟩
theorem zE_sizes (n : Nat) : zE.2.1.size ≤ n ∧ zE.2.2.size ≤ n ∧ 0 ≤ zE.1 ∧ zE.1 ≤ 4 := ⟨Nat.zero_le _, Nat.zero_le _, Int.le_refl _, by decide⟩
theorem matchE_sizes (p : ByteArray) : (matchE p).2.1.size ≤ p.size ∧ (matchE p).2.2.size ≤ p.size ∧ 0 ≤ (matchE p).1 ∧ (matchE p).1 ≤ 4 := by
  unfold matchE
  split
  · exact zE_sizes _
  · split
    · exact zE_sizes _
    · exact cut_sizes _ _
theorem scan_sizes (p : ByteArray) : ∀ (f i : Nat), ∀ x, scan p f i = some x → x.2.1.size ≤ p.size ∧ x.2.2.size ≤ p.size ∧ 0 ≤ x.1 ∧ x.1 ≤ 4
  | 0, i, x, h => by cases h
  | f + 1, i, x, h => by
    unfold scan at h
    split at h
    · exact scan_sizes p f (i + 1) x h
    · cases h; exact cut_sizes _ _
theorem oneS_sizes (p : List UInt8) : (oneS p).2.1.size ≤ p.length ∧ (oneS p).2.2.size ≤ p.length ∧ 0 ≤ (oneS p).1 ∧ (oneS p).1 ≤ 4 := by
  have e : (ofL p).size = p.length := size_of p
  unfold oneS
  cases h : matchS (ofL p) with
  | none => exact zE_sizes _
  | some x => have := scan_sizes (ofL p) _ _ x h; rw [e] at this; exact this
theorem good_of {x : E} {n : Nat} (h : x.2.1.size ≤ n ∧ x.2.2.size ≤ n ∧ 0 ≤ x.1 ∧ x.1 ≤ 4) (hn : n ≤ maxLen) : good x := by
  refine ⟨?_, by omega, by omega⟩
  obtain ⟨-, -, h1, h2⟩ := h
  simp [Lit.wf, IntKind.min, IntKind.max, IntKind.signed, IntKind.bits]
  omega
theorem idx_val (s : ByteArray) : ∀ (f pos : Nat), s.size ≤ pos + f → Lib.idxFuncFrom Lab.notL true s f pos = if (s.data.toList.drop pos).all letter = true then -1 else ((pos + ((s.data.toList.drop pos).takeWhile letter).length : Nat) : Int)
  | 0, pos, h => by
    have hl : s.data.toList.length = s.size := Array.length_toList
    have e : s.data.toList.drop pos = [] := List.drop_eq_nil_of_le (by omega)
    rw [e]
    rfl
  | f + 1, pos, h => by
    have hl : s.data.toList.length = s.size := Array.length_toList
    unfold Lib.idxFuncFrom
    by_cases hp : pos < s.size
    · rw [if_pos hp, List.drop_eq_getElem_cons (by omega), List.all_cons, List.takeWhile_cons]
      have eb : s.data.toList[pos]'(by omega) = s[pos]'hp := rfl
      rw [eb]
      by_cases ha : (s[pos]'hp).toNat < 128
      · rw [decode_ascii s pos hp ha]
        have hn := Lab.notL_of (b := s[pos]'hp)
        rw [hn]
        cases hc : letter (s[pos]'hp)
        · simp
        · simp only [Bool.not_true, Bool.false_eq_true, if_false, Bool.true_and, if_true, List.length_cons]
          rw [idx_val s f (pos + 1) (by omega)]
          split
          · rfl
          · congr 1; omega
      · have hd := decode_high s pos hp (by omega)
        have hn : Lab.notL (Utf8.decode s pos).1 = true := by
          have : 122 < (Utf8.decode s pos).1 := by omega
          simp [Lab.notL, this]
        rw [if_pos hn]
        have hc : letter (s[pos]'hp) = false := by
          have : ¬ (s[pos]'hp).toNat ≤ 122 := by omega
          simp [Lab.letter, this]
        simp [hc]
    · rw [if_neg hp, List.drop_eq_nil_of_le (by omega)]
      rfl
theorem idx_lead (s : ByteArray) : Lib.idxFunc Lab.notL true s = if letters s = true then -1 else (lead s : Int) := by
  have := idx_val s s.size 0 (by omega)
  rw [List.drop_zero, Nat.zero_add] at this
  exact this
theorem lead_lt {s : ByteArray} (h : letters s = false) : lead s < s.size := by
  have hl : s.data.toList.length = s.size := Array.length_toList
  unfold lead
  rw [← hl]
  have t : ∀ l : List UInt8, l.all letter = false → (l.takeWhile letter).length < l.length := by
    intro l
    induction l with
    | nil => intro h; simp at h
    | cons x l ih =>
      intro h
      rw [List.takeWhile_cons]
      cases hx : letter x
      · simp
      · rw [List.all_cons, hx, Bool.true_and] at h
        have := ih h
        simp; omega
  exact t _ h
end Go.Proofs.YtkmoekbicbjdmaaDoor.Mat

/- A region that draws its order, walked operation by operation: what is wanted and yields, what is not wanted, what is carried out alone. No condition. -/
namespace Go.Proofs.YtkmoekbicbjdmaaDoor.Grl
open Go.RowKit
section
variable {P : Program} {l : List Oper} {Q : Exit → Act → World → Prop} {md : Region.Mode} {S : World → Prop}
theorem yes (i : Nat) {oi : Oper} {v : Value} {fuel : Nat} {listed : Array Bool} {a : Act} {w : World} (hi : l[i]? = some oi)
    (hs : Region.noSelect l.toArray = true) (hf : Region.free md l.toArray listed i = true) (hr : (Region.ready md l.toArray listed).contains i = true)
    (hQ : ∀ c a w, Q (.panic c) (a.put oi.dst v) w → Q (.panic c) a w) (hw : Region.wanted oi (yielded l.toArray a.tmps) = true) (hy : ∀ w, S w → (execOp a.eval oi).run P w = .ok (.value v) w) (hS : S w)
    (h : wpAnyH P md l.toArray Q S fuel (listed.setIfInBounds i true) (a.put oi.dst v) w) : wpAnyH P md l.toArray Q S (fuel + 1) listed a w :=
  wpAnyH_take (by simpa using hi) hs hf hr hQ (.inl ⟨hw, hy⟩) hS h
theorem no (i : Nat) {oi : Oper} {fuel : Nat} {listed : Array Bool} {a : Act} {w : World} (hi : l[i]? = some oi)
    (hs : Region.noSelect l.toArray = true) (hf : Region.free md l.toArray listed i = true) (hr : (Region.ready md l.toArray listed).contains i = true)
    (hQ : ∀ c a w, Q (.panic c) (a.put oi.dst undef) w → Q (.panic c) a w) (hw : Region.wanted oi (yielded l.toArray a.tmps) = false) (hS : S w)
    (h : wpAnyH P md l.toArray Q S fuel (listed.setIfInBounds i true) (a.put oi.dst undef) w) : wpAnyH P md l.toArray Q S (fuel + 1) listed a w :=
  wpAnyH_take (by simpa using hi) hs hf hr hQ (.inr ⟨hw, rfl⟩) hS h
theorem one (i : Nat) {o : Oper} {fuel : Nat} {listed : Array Bool} {a : Act} {w : World} (hi : l[i]? = some o) (hr : Region.ready md l.toArray listed = [i])
    (h : ∀ K' : Act → World → Prop, Shut (∀ a w, S w → (S w → wpAnyH P md l.toArray Q S fuel (listed.setIfInBounds i true) a w) → K' a w) → if Region.wanted o (yielded l.toArray a.tmps) = true then Oper.wp P o a w K' Q else K' (a.put o.dst undef) w) :
    wpAnyH P md l.toArray Q S (fuel + 1) listed a w :=
  wpAnyH_ready hr (by simp) (AllReadyH.cons (by simpa using hi) h AllReadyH.nil)
theorem two (i j : Nat) {oi oj : Oper} {fuel : Nat} {listed : Array Bool} {a : Act} {w : World} (hi : l[i]? = some oi) (hj : l[j]? = some oj) (hr : Region.ready md l.toArray listed = [i, j])
    (h1 : ∀ K' : Act → World → Prop, Shut (∀ a w, S w → (S w → wpAnyH P md l.toArray Q S fuel (listed.setIfInBounds i true) a w) → K' a w) → if Region.wanted oi (yielded l.toArray a.tmps) = true then Oper.wp P oi a w K' Q else K' (a.put oi.dst undef) w)
    (h2 : ∀ K' : Act → World → Prop, Shut (∀ a w, S w → (S w → wpAnyH P md l.toArray Q S fuel (listed.setIfInBounds j true) a w) → K' a w) → if Region.wanted oj (yielded l.toArray a.tmps) = true then Oper.wp P oj a w K' Q else K' (a.put oj.dst undef) w) :
    wpAnyH P md l.toArray Q S (fuel + 1) listed a w :=
  wpAnyH_ready hr (by simp) (AllReadyH.cons (by simpa using hi) h1 (AllReadyH.cons (by simpa using hj) h2 AllReadyH.nil))
theorem start {id : Nat} {a : Act} {w : World} (hm : P.follows .mixedOrders = true) (hS : S w.drew)
    (h : S w.drew → wpAnyH P .any l.toArray Q S l.length (Array.replicate l.length false) a w.drew) : (Code.region id l.toArray true).wp P Q a w :=
  wp_region_held_drew hm hS (by simpa using h)
end
theorem wrap_ok {n : Int} (h0 : -4611686018427387904 ≤ n) (h1 : n ≤ 4611686018427387904) : IntKind.i64.wrap n = n := by
  have hb : (2 : Int) ^ IntKind.i64.bits = 18446744073709551616 := by decide
  have hb' : (2 : Int) ^ (IntKind.i64.bits - 1) = 9223372036854775808 := by decide
  unfold IntKind.wrap
  simp only [hb, hb']
  have hs : IntKind.i64.signed = true := rfl
  simp only [hs, Bool.true_and, decide_eq_true_eq]
  split <;> omega
end Go.Proofs.YtkmoekbicbjdmaaDoor.Grl

/- One match of the program, read from a part of a text. No condition but the part's length. -/
namespace Go.Proofs.YtkmoekbicbjdmaaDoor.Mat
open Go.RowKit Rw PutMath CutText
open Lab (letters notL ofL)
set_option linter.unusedVariables false
attribute [local go_sem ↓] Go.wp_at_zero Go.wp_at_succ
def aggM (x : E) : Value := .agg #[.int .i64 x.1, .string x.2.1, .string x.2.2]
theorem kind_none {b : UInt8} (h : ∀ j : Nat, 1 ≤ j → j < 5 → sgn j ≠ b) : kindB b = 0 := by
  have hr := kind_range b
  have := fun k : Nat => fun (h1 : 1 ≤ k) (h4 : k < 5) => mt (kind_eq (b := b) (k := k) (by omega) (by omega)).1 (h k h1 h4)
  have a1 := this 1 (by omega) (by omega)
  have a2 := this 2 (by omega) (by omega)
  have a3 := this 3 (by omega) (by omega)
  have a4 := this 4 (by omega) (by omega)
  omega
/-- a match's box -/
abbrev MB (w : World) (q : Nat) (x y z : Value) : Prop := w.ownsRow 0 61 3 (.slice (some ⟨q, 0, none⟩) 1 1) 1 [x, y, z]
theorem mbox_new (w : World) (x y z : Value) : MB (w.alloc (.cells #[x, y, z] 61)) w.heap.size x y z := Draw.own_new (cs := #[x, y, z]) rfl rfl (by unfold maxLen; omega) (Nat.zero_le _)
theorem mbox_put {w : World} {q : Nat} {a b c : Value} (x y z : Value) (h : MB w q a b c) :
    (w.cell? ⟨q, 0, none⟩ = some a ∧ w.frozen? ⟨q, 0, none⟩ = false) ∧ ((w.setCell ⟨q, 0, none⟩ x).cell? ⟨q, 1, none⟩ = some b ∧ (w.setCell ⟨q, 0, none⟩ x).frozen? ⟨q, 1, none⟩ = false) ∧
    (((w.setCell ⟨q, 0, none⟩ x).setCell ⟨q, 1, none⟩ y).cell? ⟨q, 2, none⟩ = some c ∧ ((w.setCell ⟨q, 0, none⟩ x).setCell ⟨q, 1, none⟩ y).frozen? ⟨q, 2, none⟩ = false) ∧
    MB (((w.setCell ⟨q, 0, none⟩ x).setCell ⟨q, 1, none⟩ y).setCell ⟨q, 2, none⟩ z) q x y z ∧ OnlyAt q w (((w.setCell ⟨q, 0, none⟩ x).setCell ⟨q, 1, none⟩ y).setCell ⟨q, 2, none⟩ z) := by
  have h2 : MB (w.setCell ⟨q, 0, none⟩ x) q x b c := (h.stored 0 x).1
  have h3 : MB ((w.setCell ⟨q, 0, none⟩ x).setCell ⟨q, 1, none⟩ y) q x y c := (h2.stored 1 y).1
  exact ⟨⟨by rw [h.cellAt 0 (by omega)]; rfl, h.frozenAt 0⟩, ⟨by rw [h2.cellAt 1 (by omega)]; rfl, h2.frozenAt 1⟩, ⟨by rw [h3.cellAt 2 (by omega)]; rfl, h3.frozenAt 2⟩, (h3.stored 2 z).1, (((OnlyAt.refl q w).setCell 0 x).setCell 1 y).setCell 2 z⟩
theorem mbox_three {w : World} {q : Nat} {x y z : Value} (h : MB w q x y z) : w.cell? ⟨q, 0, none⟩ = some x ∧ w.cell? ⟨q, 1, none⟩ = some y ∧ w.cell? ⟨q, 2, none⟩ = some z :=
  ⟨by rw [h.cellAt 0 (by omega)]; rfl, by rw [h.cellAt 1 (by omega)]; rfl, by rw [h.cellAt 2 (by omega)]; rfl⟩
set_option maxRecDepth 100000 in
set_option maxHeartbeats 4000000 in
theorem matchOf_any (p : ByteArray) (w : World) (hp : p.size ≤ 4194304) : Calls Tryd.prog 50 #[.string p] w fun e w' => e = .returned (aggM (matchE p)) ∧ Below w.heap.size w w' := by
  obtain ⟨X, hX⟩ : ∃ X, X = matchE p := ⟨_, rfl⟩
  rw [← hX]
  have HX := hide hX
  have H := hide (fun W => Tryd.strings_IndexFunc_runes 69 #[] (enters_of Tryd.func69 (by kernel_rfl) rfl) notL p W (Lab.notLetter_runes W))
  rw [idx_lead] at H
  obtain ⟨W0, hW0⟩ : ∃ W, w.alloc (.cells #[.int .i64 0, .string ⟨#[]⟩, .string ⟨#[]⟩] 61) = W := ⟨_, rfl⟩
  have b0 : Below w.heap.size w W0 := by rw [← hW0]; exact (Below.refl _ _).alloc (Nat.le_refl _) _
  have z0 : w.heap.size < W0.heap.size := by rw [← hW0]; simp
  have MB0 : MB W0 w.heap.size (.int .i64 0) (.string ⟨#[]⟩) (.string ⟨#[]⟩) := by rw [← hW0]; exact mbox_new _ _ _ _
  have HMB := hide (fun W (hb : Below W0.heap.size W0 W) => own_below MB0 hb)
  clear MB0
  clear hX
  cases hl : letters p
  · rw [hl] at H
    simp only [Bool.false_eq_true, if_false] at H
    have hn := lead_lt hl
    obtain ⟨n, hnn⟩ : ∃ n, n = lead p := ⟨_, rfl⟩
    rw [← hnn] at H hn
    have HQ := hide (show matchE p = if kindB (bAt p n) = 0 then zE else cutAt p n by unfold matchE; rw [if_neg (by rw [hl]; simp), hnn])
    have HSg := hide (fun k : Int => sign_ext (k := k) hn)
    obtain ⟨bb, hbb⟩ : ∃ b, b = bAt p n := ⟨_, rfl⟩
    unfold cutAt at HQ
    rw [← hbb] at HQ HSg
    clear hnn hl hbb
    have n0 : (0 : Int) ≤ (n : Int) := Int.natCast_nonneg _
    have n1 : decide ((n : Int) < 0) = false := by simp
    have n2 : (n : Int) + 1 ≤ (p.size : Int) := by omega
    have n3 : n + 1 ≤ p.size := by omega
    have n4 : (n : Int) ≤ (p.size : Int) := by omega
    have n5 : n ≤ p.size := by omega
    have n6 : IntKind.i64.wrap ((n : Int) + 1) = (n : Int) + 1 := Grl.wrap_ok (by omega) (by omega)
    have n7 : (0 : Int) ≤ (n : Int) + 1 := by omega
    have n8 : (n : Int) ≤ (n : Int) + 1 := by omega
    have n9 : ((n : Int) + 1).toNat = n + 1 := by omega
    go_enter Tryd.func50, Tryd.ntmps50
    go_wp2_with fail
    clear hW0
    refine (unhide H _).mono ?_
    rintro e w1 ⟨rfl, b1⟩
    clear H
    go_wp2_with fail
    go_region_held3 (fun _ => True) (trivial) (fail)
    go_wp2_with fail
    go_loopw [7] (fun kv wr => ∃ k : Nat, 1 ≤ k ∧ k ≤ 5 ∧ kv = .int .i64 (k : Int) ∧ Hid (∀ j : Nat, 1 ≤ j → j < k → sgn j ≠ bb) ∧ Below W0.heap.size W0 wr) (fun kv _ => 5 - (intOf kv).toNat)
    case atStart => exact ⟨1, by omega, by omega, rfl, fun j h1 h2 => by omega, b1.drew⟩
    case round =>
      clear b1
      obtain ⟨k, hk1, hk5, rfl, HJ, hbel⟩ := hrel
      have hsz := hbel.size
      by_cases hk : k ≤ 4
      · have hkI : (k : Int) ≤ 4 := by omega
        have hkI1 : (1 : Int) ≤ (k : Int) := by omega
        have hsame := unhide HSg k
        obtain ⟨S, hS⟩ : ∃ S, S = p.extract n (n + 1) := ⟨_, rfl⟩
        rw [← hS] at hsame ⊢
        have HR := hide (fun s => ruleOf_yes k s wr hkI1 hkI)
        have HSn := hide (fun s => signOf_any k s wr hkI1 hkI)
        by_cases hq : sgn k = bb
        · have hss : sameS S (signB k) = true := by rw [hsame, hq]; simp
          have hsk := (sameS_iff.1 hss).symm
          rw [hsk] at HSn
          have hself : (S.toList == S.toList) = true := by simp
          have hkk : kindB bb = (k : Int) := (kind_eq hkI1 hkI).2 hq
          have HXX := hide ((unhide HX).trans ((unhide HQ).trans (by rw [hkk, if_neg (by omega)])))
          have hA : (p.extract 0 n).size ≤ 4194304 := by rw [ByteArray.size_extract]; omega
          have hB : (p.extract (n + 1) p.size).size ≤ 4194304 := by rw [ByteArray.size_extract]; omega
          obtain ⟨A, eA⟩ : ∃ A, A = p.extract 0 n := ⟨_, rfl⟩
          obtain ⟨B, eB⟩ : ∃ B, B = p.extract (n + 1) p.size := ⟨_, rfl⟩
          rw [← eA] at hA HXX ⊢
          rw [← eB] at hB HXX ⊢
          have HA := hide (fun W => Str.clone_any A W (by omega))
          have HB := hide (fun W => Str.clone_any B W (by omega))
          clear hsame hS hss hsk eA eB hq hkk HQ HSg HJ hA hB
          go_wp2_with fail
          refine (unhide HR _).mono ?_
          rintro e w2 ⟨rfl, rfl⟩
          go_wp2_with fail
          refine (unhide HSn _).mono ?_
          rintro e w3 ⟨rfl, rfl⟩
          go_wp2_with fail
          refine (unhide HA _).mono ?_
          rintro e w4 ⟨rfl, b4⟩
          have c4 := hbel.trans (b4.mono hsz)
          clear b4
          go_wp2_with fail
          refine (unhide HB _).mono ?_
          rintro e w5 ⟨rfl, b5⟩
          have c5 := c4.trans (b5.mono c4.size)
          clear b5 c4
          obtain ⟨⟨m0, mf0⟩, ⟨m1, mf1⟩, ⟨m2, mf2⟩, M9, O9⟩ := mbox_put (.int .i64 k) (.string A) (.string B) (unhide HMB w5 c5)
          obtain ⟨r0, r1, r2⟩ := mbox_three M9
          have B9 := (b0.trans (c5.mono b0.size)).trans (O9.below (Nat.le_refl _))
          clear M9 O9
          go_wp2_with fail
          refine bodyPost_ret (v := .agg #[.int .i64 k, .string A, .string B]) (by simp [results, Tryd.results50, go_sem, r0, r1, r2]) rfl ?_
          obtain rfl := unhide HXX
          exact ⟨rfl, B9⟩
        · have hss : sameS (signB k) S = false := by
            refine sameS_no.2 (fun e => hq ?_)
            have h2 : sameS S (signB k) = true := sameS_iff.2 e.symm
            rw [hsame] at h2
            exact of_decide_eq_true h2
          have hself : ((signB k).toList == S.toList) = false := hss
          have HJ2 := hide (show ∀ j : Nat, 1 ≤ j → j < k + 1 → sgn j ≠ bb from fun j h1 h2 => by
            rcases Nat.lt_or_ge j k with h3 | h3
            · exact unhide HJ j h1 h3
            · obtain rfl : j = k := by omega
              exact hq)
          generalize signB k = SK at HSn hself
          rw [hS]
          rw [hS] at hself
          clear hsame hS hss hq HJ
          go_wp2_with fail
          refine (unhide HR _).mono ?_
          rintro e w2 ⟨rfl, rfl⟩
          go_wp2_with fail
          refine (unhide HSn _).mono ?_
          rintro e w3 ⟨rfl, rfl⟩
          go_wp2_with fail
          go_roundw
          case rel => exact ⟨k + 1, by omega, by omega, by go_num, HJ2, hbel⟩
          case measure => simp [intOf]; omega
      · obtain rfl : k = 5 := by omega
        have hkf : decide ((5 : Int) ≤ 4) = false := by decide
        have HXX := hide ((unhide HX).trans ((unhide HQ).trans (by rw [kind_none (unhide HJ), if_pos rfl])))
        clear HQ HSg HJ
        obtain ⟨⟨m0, mf0⟩, ⟨m1, mf1⟩, ⟨m2, mf2⟩, M9, O9⟩ := mbox_put (.int .i64 0) (.string ⟨#[]⟩) (.string ⟨#[]⟩) (unhide HMB wr hbel)
        obtain ⟨r0, r1, r2⟩ := mbox_three M9
        have B9 := (b0.trans (hbel.mono b0.size)).trans (O9.below (Nat.le_refl _))
        clear M9 O9
        go_wp2_with fail
        refine bodyPost_ret (v := .agg #[.int .i64 0, .string ⟨#[]⟩, .string ⟨#[]⟩]) (by simp [results, Tryd.results50, go_sem, r0, r1, r2]) rfl ?_
        obtain rfl := unhide HXX
        exact ⟨rfl, B9⟩
  · rw [hl] at H
    simp only [if_true] at H
    have HXX := hide ((unhide HX).trans (show matchE p = zE by unfold matchE; rw [if_pos hl]))
    clear hl
    go_enter Tryd.func50, Tryd.ntmps50
    go_wp2_with fail
    clear hW0
    refine (unhide H _).mono ?_
    rintro e w1 ⟨rfl, b1⟩
    clear H
    obtain ⟨⟨m0, mf0⟩, ⟨m1, mf1⟩, ⟨m2, mf2⟩, M9, O9⟩ := mbox_put (.int .i64 0) (.string ⟨#[]⟩) (.string ⟨#[]⟩) (unhide HMB w1 b1)
    obtain ⟨r0, r1, r2⟩ := mbox_three M9
    have B9 := (b0.trans (b1.mono b0.size)).trans (O9.below (Nat.le_refl _))
    clear M9 O9
    go_wp2_with fail
    refine bodyPost_ret (v := .agg #[.int .i64 0, .string ⟨#[]⟩, .string ⟨#[]⟩]) (by simp [results, Tryd.results50, go_sem, r0, r1, r2]) rfl ?_
    obtain rfl := unhide HXX
    exact ⟨rfl, B9⟩
end Go.Proofs.YtkmoekbicbjdmaaDoor.Mat
