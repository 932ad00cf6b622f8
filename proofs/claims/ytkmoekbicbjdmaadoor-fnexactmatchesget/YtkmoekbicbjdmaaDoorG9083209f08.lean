/- My own texts of one claim, laid together by program: LabGet2, MatPut, MatGetMath, GReg. -/
import Derived.Test.YtkmoekbicbjdmaaDoorG2878ebd243
import Derived.Test.YtkmoekbicbjdmaaDoorG0d305fe6f9
import Derived.Deep.RegionHeld3
import Derived.Test.YtkmoekbicbjdmaaDoorGcd34e07ed4
import Derived.Test.YtkmoekbicbjdmaaDoorGa0943e6b32
import Derived.Test.YtkmoekbicbjdmaaDoorGbf620389e9
/- LabelsGet of the program, at every text. What it asks: internal/bytealg.MaxLen holds some int, as in every world of a started program. -/
namespace Go.Proofs.YtkmoekbicbjdmaaDoor.Lab
open Go.RowKit Rw PutMath CutText
set_option linter.unusedVariables false
attribute [local go_sem ↓] Go.wp_at_zero Go.wp_at_succ
theorem cut_len (l sep : List UInt8) : (Lib.cut l sep).1.length ≤ l.length ∧ (Lib.cut l sep).2.1.length ≤ l.length := by
  unfold Lib.cut
  split
  · simp [List.length_take, List.length_drop]; omega
  · simp
theorem cutE_size (p : ByteArray) : (cutE p).1.size ≤ p.size ∧ (cutE p).2.size ≤ p.size := by
  have h := cut_len p.data.toList [61]
  have hl : p.data.toList.length = p.size := Array.length_toList
  unfold cutE
  rw [hl] at h
  exact ⟨by rw [ofL, size_of]; exact h.1, by rw [ofL, size_of]; exact h.2⟩
theorem pieces_size {m : List UInt8} : ∀ p ∈ piecesOf m, p.size ≤ m.length := by
  intro p hp
  unfold piecesOf at hp
  split at hp
  · cases hp
  · obtain ⟨l, hl, rfl⟩ := List.mem_map.1 hp
    rw [ofL, size_of]
    exact cutL_mem 44 m l hl
theorem pieces_len (m : List UInt8) : (piecesOf m).length ≤ m.length + 1 := by
  unfold piecesOf
  split
  · simp
  · rw [List.length_map]; exact cutL_len 44 m
theorem pI_is {s : ByteArray} {m : List UInt8} (h : s.data.toList = 123 :: m ++ [125]) : pI s = (piecesOf m).map cutE := by
  have hm : mid s = m := by unfold mid; rw [h]; simp
  unfold pI partsI piecesOf
  rw [hm]
/-- what reading a text answers -/
def Got (s : ByteArray) (w : World) (e : Ending) (w' : World) : Prop := ∃ v, e = .returned (.tuple #[v, .bool (getB s).2]) ∧ w'.ownsRow w.heap.size 47 2 v (getB s).1.length (flat (getB s).1) ∧ Below w.heap.size w w'
theorem pieces_cell {w : World} {base : Nat} {v : Value} {P : List ByteArray} (h : w.ownsRow base 9 1 v P.length (flatS P)) : ∃ a q, v = .slice a P.length q ∧ P.length ≤ q ∧ q ≤ maxLen ∧ ∀ k (hk : k < P.length), ∃ b off, a = some ⟨b, off, none⟩ ∧ b < w.heap.size ∧ w.cell? ⟨b, off + k, none⟩ = some (.string P[k]) := by
  obtain ⟨-, a, q, e, h1, h2, -, hr⟩ := lies_of_own h
  refine ⟨a, q, e, h1, h2, fun k hk => ?_⟩
  obtain ⟨b, off, ea, hb, hc⟩ := hr (by omega)
  exact ⟨b, off, ea, hb, hc k _ (by unfold flatS; rw [List.getElem?_map, List.getElem?_eq_getElem hk]; rfl)⟩
theorem cut_any (p : ByteArray) (W : World) (hp : p.size ≤ 4194304) (hm : Mx W) : Calls Tryd.prog 35 #[.string p, .string ⟨#[61]⟩] W fun e w' => ∃ bo, e = .returned (.tuple #[.string (cutE p).1, .string (cutE p).2, .bool bo]) ∧ Below W.heap.size W w' := by
  obtain ⟨m, hm⟩ := hm
  exact (Tryd.strings_Cut p ⟨#[61]⟩ m W (by omega) hm).mono fun e w' ⟨h1, q, h2⟩ => ⟨_, h1, by rw [h2]; exact ⟨rfl, rfl, rfl, Nat.le_refl _, fun _ _ => rfl⟩⟩
set_option maxRecDepth 100000 in
set_option maxHeartbeats 4000000 in
theorem impl_get (s : ByteArray) (w : World) (hs : s.size ≤ 4194304) (hm : Mx w) : Calls Tryd.prog 9 #[.string s] w (Got s w) := by
  obtain ⟨i0, hi, hz0, hz1, hz2⟩ := info_parts info_e
  have HW := hide (within_any s 123 125 w hs hm)
  have HM := hide hm
  have hmx : 1 ≤ maxLen := by unfold maxLen; omega
  unfold Got
  obtain ⟨G, hG⟩ : ∃ G, G = getB s := ⟨_, rfl⟩
  rw [← hG]
  have HG := hide hG
  clear hG hm
  go_enter Tryd.func9, Tryd.ntmps9
  go_wp2_with fail
  refine (unhide HW).mono ?_
  rintro e w1 (⟨hno, rfl, rfl⟩ | ⟨m, v, hm1, rfl, ov, b1⟩)
  · have HF := hide ((unhide HG).trans (getB_last hno))
    clear hno HW HG
    go_wp2_with fail
    go_ret2
    obtain rfl := unhide HF
    exact ⟨_, rfl, World.ownsRow_nil _ _ _ _, Below.refl _ _⟩
  obtain ⟨va, vq, rfl, hq1, hq2, hcell⟩ := pieces_cell ov
  have HP := hide (pI_is hm1)
  have hl : m.length ≤ 4194304 := by
    have h2 : s.data.toList.length = s.size := Array.length_toList
    rw [hm1] at h2
    simp at h2
    omega
  have HS := hide (fun p hp => Nat.le_trans (pieces_size (m := m) p hp) hl)
  have hpl := pieces_len m
  have HC := hide hcell
  have HS0 := hide (show s.size ≠ 0 by intro e; have h2 : s.data.toList.length = s.size := Array.length_toList; rw [hm1, e] at h2; simp at h2)
  have HM1 := hide ((unhide HM).below b1)
  have z1 := b1.size
  obtain ⟨P, hP⟩ : ∃ P, P = piecesOf m := ⟨_, rfl⟩
  rw [← hP] at HP HS HC hpl hq1 ⊢
  obtain ⟨n, hn⟩ : ∃ n, n = P.length := ⟨_, rfl⟩
  have HN := hide hn
  rw [← hn] at hpl hq1 ⊢
  have hn2 : n ≤ 4194305 := by omega
  unfold maxLen at hq2
  clear hm1 ov hcell hP hn HW hpl HM
  go_wp2_with fail
  go_loopw [6, 21] (fun lv i wr => ∃ (k : Nat) (pa : Option Addr) (pc : Nat), k ≤ n ∧ i = .int .i64 k ∧ lv = .slice pa k pc ∧ wr.ownsRow w1.heap.size 47 2 (.slice pa k pc) k (flat ((P.take k).map cutE)) ∧ Below w1.heap.size w1 wr) (fun _ i _ => n - (intOf i).toNat)
  case atStart => exact ⟨0, none, 0, Nat.zero_le _, rfl, rfl, World.ownsRow_nil _ _ _ _, Below.refl _ _⟩
  case round =>
    obtain ⟨k, pa, pc, hk, rfl, rfl, hown, hbel⟩ := hrel
    have hsz := hbel.size
    have hk0 : (0 : Int) ≤ (k : Int) := Int.natCast_nonneg _
    by_cases hlt : k < n
    · have hkP : k < P.length := by rw [← unhide HN]; exact hlt
      obtain ⟨b, off, rfl, hbl, hc0'⟩ := unhide HC k hkP
      have hc0 : wr.cell? ⟨b, off + k, none⟩ = some (.string P[k]) := (hbel.cell (p := ⟨b, _, none⟩) hbl).trans hc0'
      have hps := unhide HS P[k] (List.getElem_mem hkP)
      have HPS := hide (show flat ((P.take (k + 1)).map cutE) = flat ((P.take k).map cutE) ++ [.string (cutE P[k]).1, .string (cutE P[k]).2] by
        rw [List.take_succ_eq_append_getElem hkP, List.map_append]; unfold flat; rw [flatOf_append, List.map_cons, List.map_nil, flatOf_one]; rfl)
      have HCut := hide (cut_any P[k] wr (by omega) ((unhide HM1).below hbel))
      generalize (cutE P[k]).1 = A at HCut HPS
      generalize (cutE P[k]).2 = B at HCut HPS
      generalize P[k] = pk at hc0 hps HCut
      have hk1 : (k : Int) < (n : Int) := by omega
      clear hc0'
      go_wp2_with fail
      refine (unhide HCut).mono ?_
      rintro e w2 ⟨bo, rfl, b2⟩
      have hown2 := own_below hown b2
      have hbel2 := hbel.trans (b2.mono hsz)
      have hsz2 := hbel2.size
      clear hown hc0 HCut b2
      go_wp2_with (at_builtin; refine app_wp _ rfl _ _ _ rfl w1.heap.size 47 i0 _ 2 32 Tryd.underlying23 hi hz0 hz1 hz2 rfl (by omega) _ k _ rfl (hown2.alloc _) _ 1 [.string A, .string B] rfl (lies_new (by simp) rfl hmx) (by simp [Value.oneCell']) (by unfold maxLen; omega) (by omega) (by simp; omega) ?_; intro vn wn on gn an)
      have R9 : Below w1.heap.size w1 wn := below_grown (hbel2.alloc hsz2 _) (by simp; omega) gn (own_ge hown2)
      have R2 := hide (show wn.ownsRow w1.heap.size 47 2 vn (k + 1) (flat ((P.take (k + 1)).map cutE)) by rw [unhide HPS]; exact on)
      obtain ⟨an', cn, hvn⟩ : ∃ a c, vn = .slice a (k + 1) c := by obtain ⟨-, a, c, e, -⟩ := lies_of_own on; exact ⟨a, c, e⟩
      have HV := hide hvn
      clear on gn an hown2 hvn hbel2 hsz2
      go_wp2_with fail
      go_roundw
      case rel => exact ⟨k + 1, an', cn, by omega, by go_num, unhide HV, by rw [← unhide HV]; exact unhide R2, R9⟩
      case measure => simp [intOf]; omega
    · obtain rfl : k = n := by omega
      rw [List.take_of_length_le (by have := unhide HN; omega), ← unhide HP] at hown
      have hkf : decide ((k : Int) < (k : Int)) = false := by simp
      have hlen : (pI s).length = k := by rw [unhide HP, List.length_map]; exact (unhide HN).symm
      have hgood : ∀ x ∈ pI s, good x := by
        rw [unhide HP]
        intro x hx
        obtain ⟨p, hp, rfl⟩ := List.mem_map.1 hx
        have h1 := unhide HS p hp
        have h2 := cutE_size p
        exact ⟨by unfold maxLen; omega, by unfold maxLen; omega⟩
      obtain ⟨L, hL⟩ : ∃ L, L = pI s := ⟨_, rfl⟩
      rw [← hL] at hown hlen hgood
      have hIs : Is wr (.slice pa k pc) L := by rw [← hlen]; exact lies_of_own (by rw [hlen]; exact hown)
      have HI := hide (impl_put hIs hgood)
      have HIs := hide hIs
      have HL := hide hL
      have b02 := b1.trans (hbel.mono z1)
      clear hown hlen hgood hIs hL hkf
      go_wp2_with fail
      refine (unhide HI).mono ?_
      rintro e w3 ⟨rfl, b3⟩
      have b03 := b02.trans (b3.mono b02.size)
      have HIs3 := hide ((unhide HIs).below b3)
      clear HIs HI b3 b02 hbel
      by_cases hp : put L = s
      · have hG2 := (unhide HG).trans (getB_of hp (unhide HS0))
        have HCp := hide (copy_any (unhide HIs3) (ok_small (of_put hp (unhide HS0))))
        have HGG := hide hG2
        have hqq : (s.toList == s.toList) = true := by simp
        clear hG2 HG HL
        rw [hp]
        clear hp
        go_wp2_with fail
        refine (unhide HCp).mono ?_
        rintro e w4 ⟨r, rfl, orr, b4⟩
        have OR := hide (own_mono orr b03.size)
        have b04 := b03.trans (b4.mono b03.size)
        clear orr b4 HCp
        go_wp2_with fail
        go_ret2
        obtain rfl := unhide HGG
        exact ⟨_, rfl, unhide OR, b04⟩
      · have HGG := hide ((unhide HG).trans (getB_put_ne (by rw [← unhide HL]; exact hp)))
        have hne : ((put L).toList == s.toList) = false := Mat.sameS_no.2 hp
        clear hp HG HL
        generalize put L = P1 at hne ⊢
        go_wp2_with fail
        go_ret2
        obtain rfl := unhide HGG
        exact ⟨_, rfl, World.ownsRow_nil _ _ _ _, b03⟩
end Go.Proofs.YtkmoekbicbjdmaaDoor.Lab

/- MatchesPut of the program, at every slice of matches. -/
namespace Go.Proofs.YtkmoekbicbjdmaaDoor.Mat
open Go.RowKit Rw PutMath
open Lab (flatS flatS_append info_str nameB wordB)
set_option linter.unusedVariables false
attribute [local go_sem ↓] Go.wp_at_zero Go.wp_at_succ
def signB (k : Int) : ByteArray := if k = 1 then ⟨#[61]⟩ else if k = 2 then ⟨#[33]⟩ else if k = 3 then ⟨#[94]⟩ else ⟨#[126]⟩
theorem sign_size (k : Int) : (signB k).size = 1 := by unfold signB; split <;> (try split) <;> (try split) <;> rfl
def partOf (x : E) : ByteArray := x.2.1 ++ signB x.1 ++ x.2.2
def parts (zs : List E) : List ByteArray := zs.map partOf
theorem parts_snoc (zs : List E) (k : Nat) (h : k < zs.length) : parts (zs.take (k + 1)) = parts (zs.take k) ++ [partOf (at' zs k)] := by unfold parts; rw [at_snoc zs k h, List.map_append]; rfl
theorem parts_length (zs : List E) : (parts zs).length = zs.length := by simp [parts]
def small (zs : List E) : Prop := zs.length ≤ 1000 ∧ ∀ x ∈ zs, 1 ≤ x.1 ∧ x.1 ≤ 4 ∧ x.2.1.size ≤ 1000 ∧ x.2.2.size ≤ 1000
theorem part_size {zs : List E} (h : small zs) (k : Nat) : ∀ p ∈ parts (zs.take k), p.size ≤ 2001 := by
  intro p hp
  obtain ⟨x, hx, rfl⟩ := List.mem_map.1 hp
  have := h.2 x (List.mem_of_mem_take hx)
  unfold partOf
  rw [app_size, app_size, sign_size]
  omega
theorem join_small {zs : List E} (h : small zs) (k : Nat) : (joinB (parts (zs.take k))).length ≤ 2002000 := by
  have h1 := joinB_len (parts (zs.take k)) 2001 (part_size h k)
  rw [parts_length] at h1
  have h2 : (zs.take k).length ≤ 1000 := by have := List.length_take_le k zs; have := h.1; simp; omega
  have := Nat.mul_le_mul_right 2002 h2
  omega
theorem ok_small {zs : List E} (h : ok zs = true) : small zs := by
  unfold ok at h
  simp only [Bool.and_eq_true, decide_eq_true_eq] at h
  refine ⟨by omega, fun x hx => ?_⟩
  obtain ⟨k, hk, rfl⟩ := List.getElem_of_mem hx
  have hs := List.all_eq_true.1 (show (List.range zs.length).all (stepOk zs) = true from h.1) k (List.mem_range.2 hk)
  rw [← at_get zs k hk]
  unfold stepOk nameB wordB at hs
  simp only [Bool.and_eq_true, decide_eq_true_eq] at hs
  exact ⟨hs.1.1.1, hs.1.1.2, by have := hs.1.2.1.2; omega, by have := hs.2.1; omega⟩
def put (zs : List E) : ByteArray := if ok zs = true then wrap 91 93 (parts zs) else ByteArray.empty
theorem as00 (v : Value) (W : World) : (Instr.typeAssert (.iface 90 v) 64 90 true).run Tryd.prog W = .ok (.tuple #[v, .bool true]) W := by kernel_rfl
theorem as10 (v : Value) (W : World) : (Instr.typeAssert (.iface 91 v) 64 90 true).run Tryd.prog W = .ok (.tuple #[.string ByteArray.empty, .bool false]) W := by kernel_rfl
theorem as11 (v : Value) (W : World) : (Instr.typeAssert (.iface 91 v) 64 91 true).run Tryd.prog W = .ok (.tuple #[v, .bool true]) W := by kernel_rfl
theorem as20 (v : Value) (W : World) : (Instr.typeAssert (.iface 92 v) 64 90 true).run Tryd.prog W = .ok (.tuple #[.string ByteArray.empty, .bool false]) W := by kernel_rfl
theorem as21 (v : Value) (W : World) : (Instr.typeAssert (.iface 92 v) 64 91 true).run Tryd.prog W = .ok (.tuple #[.string ByteArray.empty, .bool false]) W := by kernel_rfl
theorem as22 (v : Value) (W : World) : (Instr.typeAssert (.iface 92 v) 64 92 true).run Tryd.prog W = .ok (.tuple #[v, .bool true]) W := by kernel_rfl
theorem as30 (v : Value) (W : World) : (Instr.typeAssert (.iface 93 v) 64 90 true).run Tryd.prog W = .ok (.tuple #[.string ByteArray.empty, .bool false]) W := by kernel_rfl
theorem as31 (v : Value) (W : World) : (Instr.typeAssert (.iface 93 v) 64 91 true).run Tryd.prog W = .ok (.tuple #[.string ByteArray.empty, .bool false]) W := by kernel_rfl
theorem as32 (v : Value) (W : World) : (Instr.typeAssert (.iface 93 v) 64 92 true).run Tryd.prog W = .ok (.tuple #[.string ByteArray.empty, .bool false]) W := by kernel_rfl
theorem as33 (v : Value) (W : World) : (Instr.typeAssert (.iface 93 v) 64 93 true).run Tryd.prog W = .ok (.tuple #[v, .bool true]) W := by kernel_rfl
set_option maxRecDepth 100000 in
theorem signOf_any (k : Int) (s : ByteArray) (w : World) (h1 : 1 ≤ k) (h4 : k ≤ 4) : Calls Tryd.prog 48 #[.iface (ruleT k) (.string s)] w fun e w' => e = .returned (.string (signB k)) ∧ w' = w := by
  rcases (show k = 1 ∨ k = 2 ∨ k = 3 ∨ k = 4 from by omega) with rfl | rfl | rfl | rfl
  · clear h1 h4
    show Calls Tryd.prog 48 #[.iface 90 (.string s)] w fun e w' => e = .returned (.string ⟨#[61]⟩) ∧ w' = w
    have t0 := as00 (.string s)
    go_enter Tryd.func48, Tryd.ntmps48
    go_wp2
    go_ret
    exact ⟨rfl, rfl⟩
  · clear h1 h4
    show Calls Tryd.prog 48 #[.iface 91 (.string s)] w fun e w' => e = .returned (.string ⟨#[33]⟩) ∧ w' = w
    have t0 := as10 (.string s)
    have t1 := as11 (.string s)
    go_enter Tryd.func48, Tryd.ntmps48
    go_wp2
    go_ret
    exact ⟨rfl, rfl⟩
  · clear h1 h4
    show Calls Tryd.prog 48 #[.iface 92 (.string s)] w fun e w' => e = .returned (.string ⟨#[94]⟩) ∧ w' = w
    have t0 := as20 (.string s)
    have t1 := as21 (.string s)
    have t2 := as22 (.string s)
    go_enter Tryd.func48, Tryd.ntmps48
    go_wp2
    go_ret
    exact ⟨rfl, rfl⟩
  · clear h1 h4
    show Calls Tryd.prog 48 #[.iface 93 (.string s)] w fun e w' => e = .returned (.string ⟨#[126]⟩) ∧ w' = w
    have t0 := as30 (.string s)
    have t1 := as31 (.string s)
    have t2 := as32 (.string s)
    have t3 := as33 (.string s)
    go_enter Tryd.func48, Tryd.ntmps48
    go_wp2
    go_ret
    exact ⟨rfl, rfl⟩
set_option maxRecDepth 100000 in
theorem l3Sign_any (k : Int) (w : World) (h1 : 1 ≤ k) (h4 : k ≤ 4) : Calls Tryd.prog 70 #[.int .i64 k] w fun e w' => e = .returned (.string (signB k)) ∧ Below w.heap.size w w' := by
  rcases (show k = 1 ∨ k = 2 ∨ k = 3 ∨ k = 4 from by omega) with rfl | rfl | rfl | rfl
  all_goals
    clear h1 h4
    simp only [signB]
    go_enter Tryd.func70, Tryd.ntmps70
    go_wp2
    go_ret
    exact ⟨rfl, (Below.refl _ _).alloc (Nat.le_refl _) _⟩
set_option maxRecDepth 100000 in
set_option maxHeartbeats 4000000 in
theorem impl_put {w : World} {v : Value} {zs : List E} (h : Is w v zs) (hg : ∀ x ∈ zs, good x) (hz : zs.length ≤ maxLen) : Calls Tryd.prog 17 #[v] w fun e w' => e = .returned (.string (put zs)) ∧ Below w.heap.size w w' := by
  obtain ⟨i0, hi, hz0, hz1, hz2⟩ := info_parts info_str
  have H1 := hide (impl_ok h hg hz)
  cases ho : ok zs
  · have HR := hide (show put zs = ByteArray.empty by unfold put; rw [ho]; rfl)
    rw [ho] at H1
    clear ho h hg
    go_enter Tryd.func17, Tryd.ntmps17
    go_wp2_with fail
    refine (unhide H1).mono ?_
    rintro e w1 ⟨rfl, b1⟩
    go_wp2_with fail
    go_ret
    exact ⟨ret_string (unhide HR).symm, b1⟩
  have HR := hide (show put zs = wrap 91 93 (parts zs) by unfold put; rw [ho]; rfl)
  have hsm := ok_small ho
  rw [ho] at H1
  clear ho hg
  obtain ⟨-, a, cap, rfl, hc, hm, -, hr⟩ := h
  unfold maxLen at hm
  obtain ⟨n, hn⟩ : ∃ n, n = zs.length := ⟨_, rfl⟩
  have hn2 : n ≤ 1000 := by rw [hn]; exact hsm.1
  rw [← hn] at hc hr H1 ⊢
  have HN := hide hn
  have HSM := hide hsm
  clear hn hsm hz
  obtain ⟨R, hR⟩ : ∃ R, R = put zs := ⟨_, rfl⟩
  rw [← hR] at HR ⊢
  clear hR
  go_enter Tryd.func17, Tryd.ntmps17
  go_wp2_with fail
  refine (unhide H1).mono ?_
  rintro e w1 ⟨rfl, b1⟩
  go_wp2_with fail
  go_loopw [3, 11] (fun pv i wr => ∃ (k : Nat) (ap : Option Addr) (cp : Nat), k ≤ n ∧ i = .int .i64 k ∧ pv = .slice ap k cp ∧ wr.ownsRow w.heap.size 9 1 pv k (flatS (parts (zs.take k))) ∧ Below w.heap.size w wr) (fun _ i _ => n - (intOf i).toNat)
  case atStart => exact ⟨0, none, 0, Nat.zero_le _, rfl, rfl, World.ownsRow_nil _ _ _ _, b1⟩
  case round =>
    clear b1 H1
    obtain ⟨k, ap, cp, hk, rfl, rfl, hown, hbel⟩ := hrel
    have hsz := hbel.size
    have hk0 : (0 : Int) ≤ (k : Int) := Int.natCast_nonneg _
    by_cases hlt : k < n
    · obtain ⟨b, off, rfl, hl, hcells⟩ := hr (by omega)
      have fa := flat_at zs k (by have := unhide HN; omega)
      have gd := (unhide HSM).2 (at' zs k) (by rw [at_get zs k (by have := unhide HN; omega)]; exact List.getElem_mem _)
      have HPS := parts_snoc zs k (by have := unhide HN; omega)
      obtain ⟨K, A, B, hX⟩ : ∃ K A B, (K, A, B) = at' zs k := ⟨_, _, _, rfl⟩
      rw [← hX] at fa gd HPS
      simp only at gd
      have hc0 : wr.cell? ⟨b, off + k * 3, none⟩ = some (.int .i64 K) := (hbel.cell (p := ⟨b, _, none⟩) hl).trans (hcells (k * 3) _ fa.1)
      have hc1 : wr.cell? ⟨b, off + k * 3 + 1, none⟩ = some (.string A) := (hbel.cell (p := ⟨b, _, none⟩) hl).trans (hcells (k * 3 + 1) _ fa.2.1)
      have hc2 : wr.cell? ⟨b, off + k * 3 + 2, none⟩ = some (.string B) := (hbel.cell (p := ⟨b, _, none⟩) hl).trans (hcells (k * 3 + 2) _ fa.2.2)
      have HQ := hide (show partOf (K, A, B) = A ++ signB K ++ B from rfl)
      have HRu := hide (fun W => ruleOf_yes K B W gd.1 gd.2.1)
      have HSi := hide (fun W => signOf_any K B W gd.1 gd.2.1)
      have ss := sign_size K
      have s1 : ∀ W, (Op.stringOp .add A (signB K)).run Tryd.prog W = .ok (.string (A ++ signB K)) W := fun W => run_string_add_sum W _ _ (by rw [ss]; omega)
      have s2 : ∀ W, (Op.stringOp .add (A ++ signB K) B).run Tryd.prog W = .ok (.string (A ++ signB K ++ B)) W := fun W => run_string_add_sum W _ _ (by rw [app_size, ss]; omega)
      rw [← unhide HQ] at s2
      generalize A ++ signB K = P1 at s1 s2
      have HPS' := hide HPS
      generalize partOf (K, A, B) = P2 at s2 HPS'
      clear hX fa gd HPS HQ ss
      generalize signB K = SG at s1 HSi
      generalize ruleT K = RT at HRu HSi
      have hk1 : (k : Int) < (n : Int) := by omega
      have hmx : 1 ≤ maxLen := by unfold maxLen; omega
      go_wp2_with fail
      have hob := fun e => Nat.lt_irrefl _ (own_block_lt hown wr.heap.size (Eq.symm e))
      go_region_held3 (fun w' => w'.cell? ⟨wr.heap.size, 0, none⟩ = some (.int .i64 K) ∧ w'.cell? ⟨wr.heap.size, 1, none⟩ = some (.string A) ∧ w'.cell? ⟨wr.heap.size, 2, none⟩ = some (.string B)) (first | go_keep | (go_split_ands; refine ⟨?_, ?_, ?_⟩ <;> (rw [gn.cell_far _ (by simp <;> omega) hob]; simp))) ((first | (go_at_call 49; refine (unhide HRu _).mono ?_; rintro e w7 ⟨rfl, hw7⟩; subst hw7) | (go_at_call 48; refine (unhide HSi _).mono ?_; rintro e w7 ⟨rfl, hw7⟩; subst hw7) | (refine app_step _ (by rfl) _ _ _ (by rfl) w.heap.size 9 i0 _ 1 16 Tryd.underlying45 hi hz0 hz1 hz2 rfl (by omega) _ k _ (by rfl) (World.ownsRow.drew (World.ownsRow.alloc (World.ownsRow.alloc hown _) _)) _ 1 [.string P2] (by rfl) (Lies.drew (lies_new (w := wr.alloc _) (by simp) rfl hmx)) (by simp [Value.oneCell']) (by unfold maxLen; omega) (by omega) (by simp <;> omega) ?_; intro vn wn on gn an)))
      have R9 : Below w.heap.size w wn := below_grown (((hbel.alloc hsz _).alloc (by simp <;> omega) _).drew) (by simp <;> omega) gn (own_ge hown)
      have R2 := hide (show wn.ownsRow w.heap.size 9 1 vn (k + 1) (flatS (parts (zs.take (k + 1)))) by rw [unhide HPS', flatS_append]; exact on)
      obtain ⟨an', cn, hvn⟩ : ∃ a c, vn = .slice a (k + 1) c := by obtain ⟨-, a, c, e, -⟩ := lies_of_own on; exact ⟨a, c, e⟩
      have HV := hide hvn
      clear on gn an hown hvn hob
      go_wp2_with fail
      go_roundw
      case rel => exact ⟨k + 1, an', cn, by omega, by go_num, unhide HV, unhide R2, R9⟩
      case measure => simp [intOf]; omega
    · obtain rfl : k = n := by omega
      have hkf : decide ((k : Int) < (k : Int)) = false := by simp
      rw [List.take_of_length_le (by have := unhide HN; omega)] at hown
      have JS := join_small (unhide HSM) k
      rw [List.take_of_length_le (by have := unhide HN; omega)] at JS
      have HL : (parts zs).length = k := by rw [parts_length]; exact (unhide HN).symm
      have HJ2 := hide (show Calls Tryd.prog 33 #[.slice ap k cp, .string ⟨#[44]⟩] wr fun e w' => e = .returned (.string ⟨(joinB (parts zs)).toArray⟩) ∧ Below wr.heap.size wr w' from by
        rcases Nat.eq_zero_or_pos k with h0 | h0
        · subst h0
          have e0 : parts zs = [] := List.eq_nil_of_length_eq_zero HL
          rw [e0]
          refine (Tryd.strings_Join_none ap cp ⟨#[44]⟩ wr).mono ?_
          rintro e w' ⟨rfl, rfl⟩
          exact ⟨rfl, Below.refl _ _⟩
        · obtain ⟨g, cp', e, hgb, hgl⟩ := hown.form h0
          simp only [Value.slice.injEq, true_and] at e
          obtain ⟨rfl, rfl⟩ := e
          have hcp : k ≤ cp := by obtain ⟨-, a', c', e, h2, -⟩ := lies_of_own hown; simp only [Value.slice.injEq, true_and] at e; omega
          have := Tryd.strings_Join g 0 cp (parts zs) ⟨#[44]⟩ wr (fun j x hj => by
            have hj' := (List.getElem?_eq_some_iff.1 hj).1
            rw [Nat.zero_add, hown.cellAt j (by omega)]
            simp [flatS, hj]) hgl (by omega) (by omega) (by show (joinB (parts zs)).length ≤ _; omega)
          rw [HL] at this
          exact this)
      have e1 : (⟨#[91]⟩ : ByteArray).size = 1 := rfl
      have e2 : (⟨#[93]⟩ : ByteArray).size = 1 := rfl
      have HW := hide (wrap_join 91 93 (parts zs))
      have sJ := size_of (joinB (parts zs))
      have s1 : ∀ W, (Op.stringOp .add ⟨#[91]⟩ ⟨(joinB (parts zs)).toArray⟩).run Tryd.prog W = .ok (.string (⟨#[91]⟩ ++ ⟨(joinB (parts zs)).toArray⟩)) W := fun W => run_string_add_sum W _ _ (by rw [e1, sJ]; omega)
      have s2 : ∀ W, (Op.stringOp .add (⟨#[91]⟩ ++ ⟨(joinB (parts zs)).toArray⟩) ⟨#[93]⟩).run Tryd.prog W = .ok (.string (⟨#[91]⟩ ++ ⟨(joinB (parts zs)).toArray⟩ ++ ⟨#[93]⟩)) W := fun W => run_string_add_sum W _ _ (by rw [app_size, e1, e2, sJ]; omega)
      rw [unhide HW, ← unhide HR] at s2
      clear HL hown JS sJ e1 e2 HW
      generalize (⟨(joinB (parts zs)).toArray⟩ : ByteArray) = J at HJ2 s1 s2
      generalize (⟨#[91]⟩ : ByteArray) ++ J = P1 at s1 s2
      go_wp2_with fail
      refine (unhide HJ2).mono ?_
      rintro e w5 ⟨rfl, b5⟩
      have c5 := hbel.trans (b5.mono hsz)
      go_wp2_with fail
      go_ret
      exact ⟨rfl, c5⟩
end Go.Proofs.YtkmoekbicbjdmaaDoor.Mat

/- Matches read from a text, as plain mathematics: what was put is read back, and only that is read. No condition. -/
namespace Go.Proofs.YtkmoekbicbjdmaaDoor.Mat
open PutMath CutText
open Lab (mid ofL ofL_list list_ofL letter letters ext_list)
set_option linter.unusedVariables false
def zE : E := (0, ByteArray.empty, ByteArray.empty)
def kindB (b : UInt8) : Int := if b = 61 then 1 else if b = 33 then 2 else if b = 94 then 3 else if b = 126 then 4 else 0
def sgn (k : Int) : UInt8 := if k = 1 then 61 else if k = 2 then 33 else if k = 3 then 94 else 126
theorem sign_of (k : Int) : signB k = ofL [sgn k] := by unfold signB sgn; split <;> (try split) <;> (try split) <;> rfl
theorem kind_sgn {k : Int} (h1 : 1 ≤ k) (h4 : k ≤ 4) : kindB (sgn k) = k := by
  rcases (show k = 1 ∨ k = 2 ∨ k = 3 ∨ k = 4 from by omega) with rfl | rfl | rfl | rfl <;> rfl
theorem kind_letter {b : UInt8} (h : letter b = true) : kindB b = 0 := by
  unfold kindB
  split
  · rename_i e; subst e; exact absurd h (by decide)
  · split
    · rename_i e; subst e; exact absurd h (by decide)
    · split
      · rename_i e; subst e; exact absurd h (by decide)
      · split
        · rename_i e; subst e; exact absurd h (by decide)
        · rfl
theorem sgn_letter (k : Int) : letter (sgn k) = false := by unfold sgn; split <;> (try split) <;> (try split) <;> decide
theorem kind_range (b : UInt8) : 0 ≤ kindB b ∧ kindB b ≤ 4 := by unfold kindB; split <;> (try split) <;> (try split) <;> (try split) <;> omega
theorem kind_eq {b : UInt8} {k : Int} (h1 : 1 ≤ k) (h4 : k ≤ 4) : kindB b = k ↔ sgn k = b := by
  constructor
  · intro h
    unfold kindB at h
    split at h
    · subst h; rename_i e; rw [e]; rfl
    · split at h
      · subst h; rename_i e; rw [e]; rfl
      · split at h
        · subst h; rename_i e; rw [e]; rfl
        · split at h
          · subst h; rename_i e; rw [e]; rfl
          · omega
  · intro h; rw [← h]; exact kind_sgn h1 h4
/-- the byte at a place -/
def bAt (p : ByteArray) (i : Nat) : UInt8 := p.data.toList.getD i 0
theorem one_ext {p : ByteArray} {i : Nat} (h : i < p.size) : p.extract i (i + 1) = ofL [bAt p i] := by
  apply Go.WideShapes.bytes_inj
  have hl : p.data.toList.length = p.size := Array.length_toList
  rw [ext_list, ofL_list, List.drop_eq_getElem_cons (by omega), show i + 1 - i = 1 by omega]
  simp [bAt, List.getD, List.getElem?_eq_getElem (show i < p.data.toList.length by omega)]
theorem sign_ext {p : ByteArray} {i : Nat} {k : Int} (h : i < p.size) : sameS (p.extract i (i + 1)) (signB k) = decide (sgn k = bAt p i) := by
  rw [one_ext h, sign_of]
  by_cases e : sgn k = bAt p i
  · rw [e, sameS_self]; simp
  · rw [decide_eq_false e]
    refine sameS_no.2 (fun h2 => e ?_)
    have h3 := congrArg (fun x : ByteArray => x.data.toList) h2
    simp only [ofL_list] at h3
    exact (List.cons.inj h3).1.symm
/-- how many letters stand ahead -/
def lead (p : ByteArray) : Nat := (p.data.toList.takeWhile letter).length
def cutAt (p : ByteArray) (i : Nat) : E := (kindB (bAt p i), p.extract 0 i, p.extract (i + 1) p.size)
/-- the program's reading of a part -/
def matchE (p : ByteArray) : E := if letters p = true then zE else if kindB (bAt p (lead p)) = 0 then zE else cutAt p (lead p)
/-- the model's -/
def scan (p : ByteArray) : Nat → Nat → Option E
  | 0, _ => none
  | f + 1, i => if kindB (bAt p i) = 0 then scan p f (i + 1) else some (cutAt p i)
def matchS (p : ByteArray) : Option E := scan p p.size 0
theorem scan_skip {p : ByteArray} : ∀ (i : Nat), i ≤ p.size → (∀ j, j < i → kindB (bAt p j) = 0) → matchS p = scan p (p.size - i) i
  | 0, _, _ => rfl
  | i + 1, h, hz => by
    rw [scan_skip i (by omega) (fun j hj => hz j (by omega)), show p.size - i = (p.size - (i + 1)) + 1 by omega, scan, if_pos (hz i (by omega))]
theorem matchS_none {p : ByteArray} (h : ∀ j, j < p.size → kindB (bAt p j) = 0) : matchS p = none := by
  rw [scan_skip p.size (Nat.le_refl _) h, Nat.sub_self]; rfl
theorem matchS_hit {p : ByteArray} {i : Nat} (hi : i < p.size) (h : ∀ j, j < i → kindB (bAt p j) = 0) (hk : kindB (bAt p i) ≠ 0) : matchS p = some (cutAt p i) := by
  rw [scan_skip i (by omega) h, show p.size - i = (p.size - (i + 1)) + 1 by omega, scan, if_neg hk]
theorem tw_app {q : UInt8 → Bool} {b : UInt8} {r : List UInt8} : ∀ {p : List UInt8}, p.all q = true → q b = false → (p ++ b :: r).takeWhile q = p
  | [], _, hb => by simp [hb]
  | x :: p, h, hb => by
    simp only [List.all_cons, Bool.and_eq_true] at h
    rw [List.cons_append, List.takeWhile_cons, if_pos h.1, tw_app h.2 hb]
theorem all_not {q : UInt8 → Bool} {b : UInt8} {p r : List UInt8} (hb : q b = false) : (p ++ b :: r).all q = false := by
  rw [List.all_append, List.all_cons, hb]; simp
theorem part_list (x : E) : (partOf x).data.toList = x.2.1.data.toList ++ sgn x.1 :: x.2.2.data.toList := by
  unfold partOf
  rw [app_toList, app_toList, sign_of, ofL_list]; simp
theorem ok_each {zs : List E} (h : ok zs = true) : ∀ x ∈ zs, 1 ≤ x.1 ∧ x.1 ≤ 4 ∧ letters x.2.1 = true ∧ letters x.2.2 = true ∧ x.2.1.size ≤ 6 ∧ x.2.2.size ≤ 8 := by
  unfold ok at h
  simp only [Bool.and_eq_true, decide_eq_true_eq] at h
  intro x hx
  obtain ⟨k, hk, rfl⟩ := List.getElem_of_mem hx
  have hs := List.all_eq_true.1 (show (List.range zs.length).all (stepOk zs) = true from h.1) k (List.mem_range.2 hk)
  rw [← at_get zs k hk]
  unfold stepOk Lab.nameB Lab.wordB at hs
  simp only [Bool.and_eq_true, decide_eq_true_eq] at hs
  exact ⟨hs.1.1.1, hs.1.1.2, hs.1.2.2, hs.2.2, hs.1.2.1.2, hs.2.1⟩
theorem ok_len {zs : List E} (h : ok zs = true) : zs.length ≤ 4 := by
  unfold ok at h
  simp only [Bool.and_eq_true, decide_eq_true_eq] at h
  exact h.2
theorem at_app {p : ByteArray} {a : List UInt8} {b : UInt8} {r : List UInt8} (h : p.data.toList = a ++ b :: r) : bAt p a.length = b ∧ p.extract 0 a.length = ofL a ∧ p.extract (a.length + 1) p.size = ofL r ∧ a.length < p.size ∧ ∀ j (hj : j < a.length), bAt p j = a[j] := by
  have hl : p.data.toList.length = p.size := Array.length_toList
  have hl2 := hl
  rw [h] at hl2
  simp only [List.length_append, List.length_cons] at hl2
  refine ⟨by unfold bAt; rw [h]; simp, ?_, ?_, by omega, fun j hj => ?_⟩
  · apply Go.WideShapes.bytes_inj
    rw [ext_list, ofL_list, h]; simp
  · apply Go.WideShapes.bytes_inj
    rw [ext_list, ofL_list, h, List.drop_append, List.drop_of_length_le (by omega), show a.length + 1 - a.length = 1 by omega, List.nil_append, List.drop_succ_cons, List.drop_zero]
    exact List.take_of_length_le (by omega)
  · unfold bAt
    rw [h, List.getD, List.getElem?_append_left hj, List.getElem?_eq_getElem hj]; rfl
theorem cut_part {x : E} (h1 : 1 ≤ x.1) (h4 : x.1 ≤ 4) : cutAt (partOf x) x.2.1.data.toList.length = x := by
  obtain ⟨e1, e2, e3, -, -⟩ := at_app (part_list x)
  unfold cutAt
  rw [e1, e2, e3, kind_sgn h1 h4, list_ofL, list_ofL]
theorem matchE_part {x : E} (h1 : 1 ≤ x.1) (h4 : x.1 ≤ 4) (hl : letters x.2.1 = true) : matchE (partOf x) = x := by
  have hL : lead (partOf x) = x.2.1.data.toList.length := by unfold lead; rw [part_list, tw_app hl (sgn_letter _)]
  have hn : letters (partOf x) = false := by unfold letters; rw [part_list]; exact all_not (sgn_letter _)
  unfold matchE
  rw [if_neg (by rw [hn]; simp), hL, (at_app (part_list x)).1, if_neg (by rw [kind_sgn h1 h4]; omega), cut_part h1 h4]
theorem matchS_part {x : E} (h1 : 1 ≤ x.1) (h4 : x.1 ≤ 4) (hl : letters x.2.1 = true) : matchS (partOf x) = some x := by
  obtain ⟨e1, -, -, e4, e5⟩ := at_app (part_list x)
  rw [matchS_hit e4 (fun j hj => by rw [e5 j hj]; exact kind_letter (List.all_eq_true.1 hl _ (List.getElem_mem _))) (by rw [e1, kind_sgn h1 h4]; omega), cut_part h1 h4]
def pI (s : ByteArray) : List E := (Lab.partsI s).map matchE
/-- what a text is read as -/
def getB (s : ByteArray) : List E × Bool := if s.size ≠ 0 ∧ put (pI s) = s then (pI s, true) else ([], false)
theorem no44 {zs : List E} (h : ok zs = true) : ∀ p ∈ parts zs, (44 : UInt8) ∉ p.data.toList := by
  intro p hp
  obtain ⟨x, hx, rfl⟩ := List.mem_map.1 hp
  obtain ⟨-, -, h1, h2, -⟩ := ok_each h x hx
  rw [part_list]
  intro hm
  rcases List.mem_append.1 hm with hm | hm
  · exact Lab.letters_no h1 (by decide) hm
  · rcases List.mem_cons.1 hm with e | hm
    · exact absurd e (by unfold sgn; split <;> (try split) <;> (try split) <;> decide)
    · exact Lab.letters_no h2 (by decide) hm
theorem put_list {zs : List E} (h : ok zs = true) : (put zs).data.toList = 91 :: joinB (parts zs) ++ [93] := by
  unfold put wrap
  rw [if_pos h, of_toList]
theorem mid_put {zs : List E} (h : ok zs = true) : mid (put zs) = joinB (parts zs) := by
  unfold mid
  rw [put_list h]
  simp
theorem cut_parts {zs : List E} (h : ok zs = true) (h0 : zs ≠ []) : cutL 44 (mid (put zs)) = (parts zs).map (·.data.toList) := by
  rw [mid_put h]
  exact cutL_joinB (fun e => h0 (List.eq_nil_of_length_eq_zero (by have := parts_length zs; rw [e, List.length_nil] at this; exact this.symm))) (no44 h)
theorem join_ne {zs : List E} (h : ok zs = true) (h0 : zs ≠ []) : mid (put zs) ≠ [] := by
  intro e
  have h1 := cut_parts h h0
  rw [e] at h1
  simp only [cutL] at h1
  have h2 := congrArg List.length h1
  rw [List.length_map, parts_length] at h2
  simp at h2
  obtain ⟨x, rfl⟩ : ∃ x, zs = [x] := by
    match zs, h2 with
    | [x], _ => exact ⟨x, rfl⟩
  have h3 : [[]] = [(partOf x).data.toList] := h1
  rw [part_list] at h3
  simp at h3
theorem partsI_put {zs : List E} (h : ok zs = true) : Lab.partsI (put zs) = parts zs := by
  unfold Lab.partsI
  by_cases h0 : zs = []
  · subst h0
    rw [if_pos (by rw [mid_put h]; rfl)]; rfl
  · rw [if_neg (join_ne h h0), cut_parts h h0, List.map_map]
    conv => rhs; rw [← List.map_id (parts zs)]
    exact List.map_congr_left (fun p _ => list_ofL p)
theorem pI_put {zs : List E} (h : ok zs = true) : pI (put zs) = zs := by
  unfold pI
  rw [partsI_put h]
  unfold parts
  rw [List.map_map]
  conv => rhs; rw [← List.map_id zs]
  exact List.map_congr_left (fun x hx => have e := ok_each h x hx; matchE_part e.1 e.2.1 e.2.2.1)
theorem put_size {zs : List E} (h : ok zs = true) : 2 ≤ (put zs).size ∧ (put zs).size ≤ 200 := by
  have e : (put zs).size = (joinB (parts zs)).length + 2 := by
    unfold put wrap
    rw [if_pos h, size_of]
    simp
  have hl := joinB_len (parts zs) 15 (fun p hp => by
    obtain ⟨x, hx, rfl⟩ := List.mem_map.1 hp
    obtain ⟨-, -, -, -, h3, h4⟩ := ok_each h x hx
    unfold partOf
    rw [app_size, app_size, sign_size]
    omega)
  rw [parts_length] at hl
  have := ok_len h
  omega
theorem of_put {zs : List E} {s : ByteArray} (h : put zs = s) (hs : s.size ≠ 0) : ok zs = true := by
  cases e : ok zs
  · exfalso
    unfold put at h
    rw [e] at h
    rw [← h] at hs
    exact hs rfl
  · rfl
theorem getB_put {zs : List E} (h : ok zs = true) : getB (put zs) = (zs, true) := by
  unfold getB
  rw [pI_put h, if_pos ⟨by have := (put_size h).1; omega, rfl⟩]
theorem getB_of {zs : List E} {s : ByteArray} (h : put zs = s) (hs : s.size ≠ 0) : getB s = (zs, true) := by
  have := getB_put (of_put h hs)
  rwa [h] at this
theorem getB_no {s : ByteArray} (h : ∀ zs, ok zs = true → put zs ≠ s) : getB s = ([], false) := by
  unfold getB
  rw [if_neg (fun ⟨h1, h2⟩ => h _ (of_put h2 h1) h2)]
theorem getB_true {s : ByteArray} {L : List E} (h : getB s = (L, true)) : ok L = true ∧ put L = s := by
  unfold getB at h
  split at h
  · rename_i hc
    obtain ⟨h1, h2⟩ := hc
    simp only [Prod.mk.injEq, and_true] at h
    subst h
    exact ⟨of_put h2 h1, h2⟩
  · simp at h
theorem getB_last {s : ByteArray} (h : ∀ r, s.data.toList ≠ 91 :: r ++ [93]) : getB s = ([], false) := getB_no (fun zs hz e => by
  have := put_list hz
  rw [e] at this
  exact h _ this)
theorem getB_put_ne {s : ByteArray} (h : put (pI s) ≠ s) : getB s = ([], false) := by
  unfold getB
  rw [if_neg (fun h2 => h h2.2)]
theorem getB_len {s : ByteArray} (h : s.size < 2 ∨ 200 < s.size) : getB s = ([], false) := getB_no (fun zs hz e => by
  have := put_size hz
  rw [e] at this
  omega)
def nilT : ByteArray := ⟨#[91, 93]⟩
theorem put_nil : put [] = nilT := by
  apply Go.WideShapes.bytes_inj
  rw [put_list rfl]; rfl
theorem getB_nil : getB nilT = ([], true) := by rw [← put_nil]; exact getB_put rfl
theorem ne_nil {zs : List E} {s : ByteArray} (h : put zs = s) (hs : s ≠ nilT) : zs ≠ [] := fun e => hs (by rw [← h, e, put_nil])
theorem getB_part {s : ByteArray} {p : List UInt8} (hs : s ≠ nilT) (hp : p ∈ cutL 44 (mid s)) (h : matchS (ofL p) = none) : getB s = ([], false) := getB_no (fun zs hz e => by
  rw [← e, cut_parts hz (ne_nil e hs)] at hp
  obtain ⟨q, hq, rfl⟩ := List.mem_map.1 hp
  obtain ⟨x, hx, rfl⟩ := List.mem_map.1 hq
  have h3 := ok_each hz x hx
  rw [list_ofL, matchS_part h3.1 h3.2.1 h3.2.2.1] at h
  cases h)
def oneS (p : List UInt8) : E := (matchS (ofL p)).getD zE
theorem one_put {zs : List E} (hz : ok zs = true) (h0 : zs ≠ []) : (cutL 44 (mid (put zs))).map oneS = zs := by
  rw [cut_parts hz h0]
  unfold parts
  rw [List.map_map, List.map_map]
  conv => rhs; rw [← List.map_id zs]
  refine List.map_congr_left (fun x hx => ?_)
  have h3 := ok_each hz x hx
  show oneS (partOf x).data.toList = x
  unfold oneS
  rw [list_ofL, matchS_part h3.1 h3.2.1 h3.2.2.1]; rfl
theorem getB_one_ne {s : ByteArray} (hs : s ≠ nilT) (h : put ((cutL 44 (mid s)).map oneS) ≠ s) : getB s = ([], false) := getB_no (fun zs hz e => by
  rw [← e, one_put hz (ne_nil e hs)] at h
  exact h rfl)
theorem cut_sizes (p : ByteArray) (i : Nat) : (cutAt p i).2.1.size ≤ p.size ∧ (cutAt p i).2.2.size ≤ p.size ∧ 0 ≤ (cutAt p i).1 ∧ (cutAt p i).1 ≤ 4 := by
  unfold cutAt
  exact ⟨by simp only [ByteArray.size_extract]; omega, by simp only [ByteArray.size_extract]; omega, (kind_range _).1, (kind_range _).2⟩
theorem zE_sizes (n : Nat) : zE.2.1.size ≤ n ∧ zE.2.2.size ≤ n ∧ 0 ≤ zE.1 ∧ zE.1 ≤ 4 := ⟨Nat.zero_le _, Nat.zero_le _, Int.le_refl _, by decide⟩
theorem matchE_sizes (p : ByteArray) : (matchE p).2.1.size ≤ p.size ∧ (matchE p).2.2.size ≤ p.size ∧ 0 ≤ (matchE p).1 ∧ (matchE p).1 ≤ 4 := by
  unfold matchE
  split
  · exact zE_sizes _
  · split
    · exact zE_sizes _
    · exact cut_sizes _ _
theorem scan_sizes (p : ByteArray) : ∀ (f i : Nat), ∀ x, scan p f i = some x → x.2.1.size ≤ p.size ∧ x.2.2.size ≤ p.size ∧ 0 ≤ x.1 ∧ x.1 ≤ 4
  | 0, i, x, h => by cases h
  | f + 1, i, x, h => by
    unfold scan at h
    split at h
    · exact scan_sizes p f (i + 1) x h
    · cases h; exact cut_sizes _ _
theorem oneS_sizes (p : List UInt8) : (oneS p).2.1.size ≤ p.length ∧ (oneS p).2.2.size ≤ p.length ∧ 0 ≤ (oneS p).1 ∧ (oneS p).1 ≤ 4 := by
  have e : (ofL p).size = p.length := size_of p
  unfold oneS
  cases h : matchS (ofL p) with
  | none => exact zE_sizes _
  | some x => have := scan_sizes (ofL p) _ _ x h; rw [e] at this; exact this
theorem good_of {x : E} {n : Nat} (h : x.2.1.size ≤ n ∧ x.2.2.size ≤ n ∧ 0 ≤ x.1 ∧ x.1 ≤ 4) (hn : n ≤ maxLen) : good x := by
  refine ⟨?_, by omega, by omega⟩
  obtain ⟨-, -, h1, h2⟩ := h
  simp [Lit.wf, IntKind.min, IntKind.max, IntKind.signed, IntKind.bits]
  omega
theorem idx_val (s : ByteArray) : ∀ (f pos : Nat), s.size ≤ pos + f → Lib.idxFuncFrom Lab.notL true s f pos = if (s.data.toList.drop pos).all letter = true then -1 else ((pos + ((s.data.toList.drop pos).takeWhile letter).length : Nat) : Int)
  | 0, pos, h => by
    have hl : s.data.toList.length = s.size := Array.length_toList
    have e : s.data.toList.drop pos = [] := List.drop_eq_nil_of_le (by omega)
    rw [e]
    rfl
  | f + 1, pos, h => by
    have hl : s.data.toList.length = s.size := Array.length_toList
    unfold Lib.idxFuncFrom
    by_cases hp : pos < s.size
    · rw [if_pos hp, List.drop_eq_getElem_cons (by omega), List.all_cons, List.takeWhile_cons]
      have eb : s.data.toList[pos]'(by omega) = s[pos]'hp := rfl
      rw [eb]
      by_cases ha : (s[pos]'hp).toNat < 128
      · rw [decode_ascii s pos hp ha]
        have hn := Lab.notL_of (b := s[pos]'hp)
        rw [hn]
        cases hc : letter (s[pos]'hp)
        · simp
        · simp only [Bool.not_true, Bool.false_eq_true, if_false, Bool.true_and, if_true, List.length_cons]
          rw [idx_val s f (pos + 1) (by omega)]
          split
          · rfl
          · congr 1; omega
      · have hd := decode_high s pos hp (by omega)
        have hn : Lab.notL (Utf8.decode s pos).1 = true := by
          have : 122 < (Utf8.decode s pos).1 := by omega
          simp [Lab.notL, this]
        rw [if_pos hn]
        have hc : letter (s[pos]'hp) = false := by
          have : ¬ (s[pos]'hp).toNat ≤ 122 := by omega
          simp [Lab.letter, this]
        simp [hc]
    · rw [if_neg hp, List.drop_eq_nil_of_le (by omega)]
      rfl
theorem idx_lead (s : ByteArray) : Lib.idxFunc Lab.notL true s = if letters s = true then -1 else (lead s : Int) := by
  have := idx_val s s.size 0 (by omega)
  rw [List.drop_zero, Nat.zero_add] at this
  exact this
theorem lead_lt {s : ByteArray} (h : letters s = false) : lead s < s.size := by
  have hl : s.data.toList.length = s.size := Array.length_toList
  unfold lead
  rw [← hl]
  have t : ∀ l : List UInt8, l.all letter = false → (l.takeWhile letter).length < l.length := by
    intro l
    induction l with
    | nil => intro h; simp at h
    | cons x l ih =>
      intro h
      rw [List.takeWhile_cons]
      cases hx : letter x
      · simp
      · rw [List.all_cons, hx, Bool.true_and] at h
        have := ih h
        simp; omega
  exact t _ h
end Go.Proofs.YtkmoekbicbjdmaaDoor.Mat

/- A region that draws its order, walked operation by operation: what is wanted and yields, what is not wanted, what is carried out alone. No condition. -/
namespace Go.Proofs.YtkmoekbicbjdmaaDoor.Grl
open Go.RowKit
section
variable {P : Program} {l : List Oper} {Q : Exit → Act → World → Prop} {md : Region.Mode} {S : World → Prop}
theorem yes (i : Nat) {oi : Oper} {v : Value} {fuel : Nat} {listed : Array Bool} {a : Act} {w : World} (hi : l[i]? = some oi)
    (hs : Region.noSelect l.toArray = true) (hf : Region.free md l.toArray listed i = true) (hr : (Region.ready md l.toArray listed).contains i = true)
    (hQ : ∀ c a w, Q (.panic c) (a.put oi.dst v) w → Q (.panic c) a w) (hw : Region.wanted oi (yielded l.toArray a.tmps) = true) (hy : ∀ w, S w → (execOp a.eval oi).run P w = .ok (.value v) w) (hS : S w)
    (h : wpAnyH P md l.toArray Q S fuel (listed.setIfInBounds i true) (a.put oi.dst v) w) : wpAnyH P md l.toArray Q S (fuel + 1) listed a w :=
  wpAnyH_take (by simpa using hi) hs hf hr hQ (.inl ⟨hw, hy⟩) hS h
theorem no (i : Nat) {oi : Oper} {fuel : Nat} {listed : Array Bool} {a : Act} {w : World} (hi : l[i]? = some oi)
    (hs : Region.noSelect l.toArray = true) (hf : Region.free md l.toArray listed i = true) (hr : (Region.ready md l.toArray listed).contains i = true)
    (hQ : ∀ c a w, Q (.panic c) (a.put oi.dst undef) w → Q (.panic c) a w) (hw : Region.wanted oi (yielded l.toArray a.tmps) = false) (hS : S w)
    (h : wpAnyH P md l.toArray Q S fuel (listed.setIfInBounds i true) (a.put oi.dst undef) w) : wpAnyH P md l.toArray Q S (fuel + 1) listed a w :=
  wpAnyH_take (by simpa using hi) hs hf hr hQ (.inr ⟨hw, rfl⟩) hS h
theorem one (i : Nat) {o : Oper} {fuel : Nat} {listed : Array Bool} {a : Act} {w : World} (hi : l[i]? = some o) (hr : Region.ready md l.toArray listed = [i])
    (h : ∀ K' : Act → World → Prop, Shut (∀ a w, S w → (S w → wpAnyH P md l.toArray Q S fuel (listed.setIfInBounds i true) a w) → K' a w) → if Region.wanted o (yielded l.toArray a.tmps) = true then Oper.wp P o a w K' Q else K' (a.put o.dst undef) w) :
    wpAnyH P md l.toArray Q S (fuel + 1) listed a w :=
  wpAnyH_ready hr (by simp) (AllReadyH.cons (by simpa using hi) h AllReadyH.nil)
theorem two (i j : Nat) {oi oj : Oper} {fuel : Nat} {listed : Array Bool} {a : Act} {w : World} (hi : l[i]? = some oi) (hj : l[j]? = some oj) (hr : Region.ready md l.toArray listed = [i, j])
    (h1 : ∀ K' : Act → World → Prop, Shut (∀ a w, S w → (S w → wpAnyH P md l.toArray Q S fuel (listed.setIfInBounds i true) a w) → K' a w) → if Region.wanted oi (yielded l.toArray a.tmps) = true then Oper.wp P oi a w K' Q else K' (a.put oi.dst undef) w)
    (h2 : ∀ K' : Act → World → Prop, Shut (∀ a w, S w → (S w → wpAnyH P md l.toArray Q S fuel (listed.setIfInBounds j true) a w) → K' a w) → if Region.wanted oj (yielded l.toArray a.tmps) = true then Oper.wp P oj a w K' Q else K' (a.put oj.dst undef) w) :
    wpAnyH P md l.toArray Q S (fuel + 1) listed a w :=
  wpAnyH_ready hr (by simp) (AllReadyH.cons (by simpa using hi) h1 (AllReadyH.cons (by simpa using hj) h2 AllReadyH.nil))
theorem start {id : Nat} {a : Act} {w : World} (hm : P.follows .mixedOrders = true) (hS : S w.drew)
    (h : S w.drew → wpAnyH P .any l.toArray Q S l.length (Array.replicate l.length false) a w.drew) : (Code.region id l.toArray true).wp P Q a w :=
  wp_region_held_drew hm hS (by simpa using h)
end
theorem wrap_ok {n : Int} (h0 : -4611686018427387904 ≤ n) (h1 : n ≤ 4611686018427387904) : IntKind.i64.wrap n = n := by
  have hb : (2 : Int) ^ IntKind.i64.bits = 18446744073709551616 := by decide
  have hb' : (2 : Int) ^ (IntKind.i64.bits - 1) = 9223372036854775808 := by decide
  unfold IntKind.wrap
  simp only [hb, hb']
  have hs : IntKind.i64.signed = true := rfl
  simp only [hs, Bool.true_and, decide_eq_true_eq]
  split <;> omega
end Go.Proofs.YtkmoekbicbjdmaaDoor.Grl
