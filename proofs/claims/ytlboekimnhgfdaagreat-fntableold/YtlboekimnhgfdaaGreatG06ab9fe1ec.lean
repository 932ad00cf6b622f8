/- My own texts of one claim, laid together by program: TrialOther, TabOneE, TrialCode, TrialWrite. -/
import Derived.Test.YtlboekimnhgfdaaGreatGa36464ee95
import Derived.Test.YtlboekimnhgfdaaGreatG7c8bd49666
import Derived.Test.YtlboekimnhgfdaaGreatG7e0030f2cd
import Derived.Test.YtlboekimnhgfdaaGreatG0fdbb44230
import Derived.WalkLawsBesides
/- Whether another number is there already: otherThere of the program. -/
namespace Go.Proofs.YtlboekimnhgfdaaGreat.Tab
open Go.RowKit Rw
set_option linter.unusedVariables false
set_option linter.unusedSimpArgs false
attribute [local go_sem ↓] Go.wp_at_zero Go.wp_at_succ
def firstT (T : Int) (xs : List Sam.E) : Option Sam.E := xs.find? fun z => decide (z.1 = T)
def otherI (ls : List Lab.E) (T V : Int) : List Row.E → Bool
  | [] => false
  | x :: L => if Lab.cmpL x.1 ls = 0 then (match firstT T x.2 with | some z => decide (z.2 ≠ V) | none => otherI ls T V L) else otherI ls T V L
theorem otherI_no {ls : List Lab.E} {T V : Int} : ∀ {L : List Row.E}, (∀ y ∈ L, 0 < Lab.cmpL y.1 ls) → otherI ls T V L = false
  | [], _ => rfl
  | x :: L, h => by rw [otherI, if_neg (by have := h x (List.mem_cons_self ..); omega)]; exact otherI_no (fun y hy => h y (List.mem_cons_of_mem _ hy))
theorem cut_first (T V : Int) (xs : List Sam.E) : (match Samp.cutL xs T (T + 1) with | [] => false | x :: _ => decide (x.2 ≠ V)) = (match firstT T xs with | some z => decide (z.2 ≠ V) | none => false) := by
  have e : Samp.inT T (T + 1) = fun z => decide (z.1 = T) := by
    funext z
    unfold Samp.inT
    rw [Bool.eq_iff_iff]
    simp only [Bool.and_eq_true, decide_eq_true_eq]
    omega
  unfold Samp.cutL firstT
  rw [e, ← List.head?_filter]
  cases List.filter (fun z : Sam.E => decide (z.1 = T)) xs <;> rfl
theorem behind {ls : List Lab.E} {x : Row.E} {L : List Row.E} (up : ∀ y ∈ L, Lab.cmpL x.1 y.1 < 0) (hc : 0 ≤ Lab.cmpL x.1 ls) : ∀ y ∈ L, 0 < Lab.cmpL y.1 ls := fun y hy => by
  have h1 := Lab.ordL.anti x.1 ls
  have h2 := Lab.ordL.trans ls x.1 y.1 (by omega) (by have := up y hy; omega)
  have h3 := Lab.ordL.anti ls y.1
  by_cases h0 : Lab.cmpL ls y.1 = 0
  · have := Lab.ordL.zero _ _ h0
    rw [this] at hc
    have := up y hy
    omega
  · omega
theorem otherI_is {ls : List Lab.E} {T V : Int} : ∀ {L : List Row.E}, Row.Fine L → otherI ls T V L = otherE L ls T V
  | [], _ => by simp [otherI, otherE, Row.there, Row.place]
  | x :: L, h => by
    have ih := otherI_is (ls := ls) (T := T) (V := V) (Row.fine_tail h)
    have up := (List.pairwise_cons.1 h.up).1
    rcases Int.lt_trichotomy (Lab.cmpL x.1 ls) 0 with hc | hc | hc
    · have hp : Row.place (x :: L) ls = Row.place L ls + 1 := by rw [Row.place, if_pos hc]
      have ha : Row.at' (x :: L) (Row.place L ls + 1) = Row.at' L (Row.place L ls) := by simp [Row.at']
      have ht : Row.there (x :: L) ls = Row.there L ls := by unfold Row.there; rw [hp, ha]; simp
      rw [otherI, if_neg (by omega), ih]
      unfold otherE
      rw [ht, hp, ha]
    · have hp : Row.place (x :: L) ls = 0 := by rw [Row.place, if_neg (by omega)]
      have ht : Row.there (x :: L) ls = true := by unfold Row.there; rw [hp]; simp [Row.at', hc]
      have hno : otherI ls T V L = false := otherI_no (behind up (by omega))
      rw [otherI, if_pos hc, hno]
      unfold otherE
      rw [ht, hp, show Row.at' (x :: L) 0 = x from rfl, Bool.true_and]
      exact (cut_first T V x.2).symm
    · have hp : Row.place (x :: L) ls = 0 := by rw [Row.place, if_neg (by omega)]
      have ht : Row.there (x :: L) ls = false := by unfold Row.there; rw [hp]; simp [Row.at']; omega
      have hno : otherI ls T V L = false := otherI_no (behind up (by omega))
      rw [otherI, if_neg (by omega), hno]
      unfold otherE
      rw [ht]; rfl
theorem drop_row {L : List Row.E} {j : Nat} (h : j < L.length) : L.drop j = Row.at' L j :: L.drop (j + 1) := by rw [List.drop_eq_getElem_cons h, Row.at_get L j h]
theorem drop_sam {L : List Sam.E} {j : Nat} (h : j < L.length) : L.drop j = Sam.at' L j :: L.drop (j + 1) := by rw [List.drop_eq_getElem_cons h, Sam.at_get L j h]
theorem firstT_no {T : Int} {xs : List Sam.E} {k : Nat} (hk : k < xs.length) (h : firstT T (xs.drop k) = firstT T xs) (hne : (Sam.at' xs k).1 ≠ T) : firstT T (xs.drop (k + 1)) = firstT T xs := by
  rw [← h, drop_sam hk]
  unfold firstT
  rw [List.find?_cons_of_neg (by simpa using hne)]
theorem firstT_yes {T : Int} {xs : List Sam.E} {k : Nat} (hk : k < xs.length) (h : firstT T (xs.drop k) = firstT T xs) (he : (Sam.at' xs k).1 = T) : firstT T xs = some (Sam.at' xs k) := by
  rw [← h, drop_sam hk]
  unfold firstT
  rw [List.find?_cons_of_pos (by simpa using he)]
set_option maxRecDepth 100000 in
set_option maxHeartbeats 8000000 in
theorem other_any {w : World} {u : Value} {L : List Row.E} {ls : List Lab.E} (tb : Nat) (va : Option Addr) (vn vq : Nat) (T V : Int) (htb : tb < w.heap.size) (hc : w.cell? ⟨tb, 0, none⟩ = some (.slice va vn vq)) (h : Row.Is w (.slice va vn vq) L) (hok : Row.ok L = true) (hl : Lab.Is w u ls) (hlo : Lab.ok ls = true) (hlg : ∀ x ∈ ls, Lab.good x) (hll : ls.length ≤ maxLen) :
    Calls Tryz.prog 149 #[.pointer (some ⟨tb, 0, none⟩), .agg #[u, .int .i64 T, .int .i64 V]] w fun e w' => e = .returned (.bool (otherE L ls T V)) ∧ Below w.heap.size w w' := by
  obtain ⟨au, nu, qu, rfl⟩ : ∃ a n q, u = .slice a n q := by obtain ⟨-, a, q, e, -⟩ := hl; exact ⟨a, _, q, e⟩
  obtain ⟨W, hW⟩ : ∃ W, w.alloc (.cells #[.slice au nu qu, .int .i64 T, .int .i64 V] 62) = W := ⟨_, rfl⟩
  have bW : Below w.heap.size w W := by rw [← hW]; exact (Below.refl _ _).alloc (Nat.le_refl _) _
  have zW : w.heap.size < W.heap.size := by rw [← hW]; simp
  have q0 : W.cell? ⟨w.heap.size, 0, none⟩ = some (.slice au nu qu) := by rw [← hW]; simp [go_sem]
  have q1 : W.cell? ⟨w.heap.size, 1, none⟩ = some (.int .i64 T) := by rw [← hW]; simp [go_sem]
  have q2 : W.cell? ⟨w.heap.size, 2, none⟩ = some (.int .i64 V) := by rw [← hW]; simp [go_sem]
  have hcW : W.cell? ⟨tb, 0, none⟩ = some (.slice va vn vq) := (bW.cell (p := ⟨tb, 0, none⟩) htb).trans hc
  have hI := hide (Row.fine_ok hok)
  have HLab := hide (fun j (hj : j < L.length) (X : World) (v : Value) (hv : Lab.Is X v (Row.at' L j).1) (hu : Lab.Is X (.slice au nu qu) ls) => show Calls Tryz.prog 110 #[v, .slice au nu qu] X (fun e w' => e = .returned (.int .i64 (Lab.cmpL (Row.at' L j).1 ls)) ∧ Below X.heap.size X w') from by
    have hg := Row.fine_good (unhide hI) _ (Row.at_mem L j hj)
    have hx := Lab.impl_cmp hv hu hg.1.2 hlg hg.1.1 hll
    rwa [Lab.cmp_ok ((unhide hI).lab _ (Row.at_mem L j hj)) hlo] at hx)
  have HLs := hide (hl.below bW)
  have HOI := hide (otherI_is (ls := ls) (T := T) (V := V) (unhide hI))
  obtain ⟨cs, hcs, hL, hE⟩ := h.below bW
  have HE := hide hE
  obtain ⟨-, a, cap, ee, hcp, hm, -, hr⟩ := hL
  simp only [Value.slice.injEq] at ee
  obtain ⟨rfl, hvn, rfl⟩ := ee
  unfold maxLen at hm
  rw [← hvn] at hcp hr hcs
  have HN := hide hvn
  have HC := hide hcs
  obtain ⟨R, hR⟩ : ∃ R, R = otherE L ls T V := ⟨_, rfl⟩
  rw [← hR] at HOI ⊢
  clear h hok hl hlo hlg hll hvn hE hcs hR hc hI
  go_enter Tryz.func149, Tryz.ntmps149
  go_wp2_with fail
  go_loopw [15] (fun i wr => ∃ (j : Nat), j ≤ vn ∧ i = .int .i64 j ∧ Hid (otherI ls T V (L.drop j) = R) ∧ Below W.heap.size W wr) (fun i _ => vn - (intOf i).toNat)
  case atStart => exact ⟨0, Nat.zero_le _, rfl, HOI, Below.refl _ _⟩
  case round =>
    obtain ⟨j, hj, rfl, HO, hbel⟩ := hrel
    clear HOI
    obtain ⟨wo, hwo⟩ : ∃ wo, wo = wr := ⟨_, rfl⟩
    subst hwo
    have hsz := hbel.size
    have q0o : wo.cell? ⟨w.heap.size, 0, none⟩ = some (.slice au nu qu) := (hbel.cell (p := ⟨w.heap.size, 0, none⟩) zW).trans q0
    by_cases hlt : j < vn
    · obtain ⟨b, off, rfl, hlb, hcells⟩ := hr (by omega)
      have hjL : j < L.length := by have := unhide HN; omega
      have fa := Row.flat_at cs j (by have := unhide HC; omega)
      have hc1 : wo.cell? ⟨b, off + j * 2 + 1, none⟩ = some (Row.cat cs j).2 := (hbel.cell (p := ⟨b, _, none⟩) hlb).trans (hcells (j * 2 + 1) _ fa.2)
      have hc0 : wo.cell? ⟨b, off + j * 2, none⟩ = some (Row.cat cs j).1 := (hbel.cell (p := ⟨b, _, none⟩) hlb).trans (hcells (j * 2) _ fa.1)
      have hEj := (unhide HE j hjL).below hbel
      obtain ⟨-, a2, q2', f2, g2, g2', -, hr2⟩ := id hEj.2
      obtain ⟨l2, hl2⟩ : ∃ l, l = (Row.at' L j).2.length := ⟨_, rfl⟩
      unfold maxLen at g2'
      rw [f2, ← hl2] at hc1
      rw [← hl2] at g2 hr2
      have HL2 := hide hl2
      have hk0 : (0 : Int) ≤ (j : Int) := Int.natCast_nonneg _
      have hk1 : (j : Int) < (vn : Int) := by omega
      obtain ⟨-, a1, q1', f1, -⟩ := id hEj.1
      obtain ⟨l1, hl1⟩ : ∃ l, l = (Row.at' L j).1.length := ⟨_, rfl⟩
      rw [f1, ← hl1] at hc0
      have hEj1 := hEj.1
      rw [f1, ← hl1] at hEj1
      have ba : Below wo.heap.size wo (wo.alloc (.cells #[.slice a1 l1 q1', .slice a2 l2 q2'] 93)) := (Below.refl _ _).alloc (Nat.le_refl _) _
      have HCmp := hide (unhide HLab j hjL _ _ (hEj1.below ba) (((unhide HLs).below hbel).below ba))
      have HD := hide (drop_row hjL)
      have hno : wo.heap.size ≠ w.heap.size := by omega
      have hno' : w.heap.size ≠ wo.heap.size := by omega
      have hlo' : w.heap.size < wo.heap.size := by omega
      obtain ⟨c, hcc⟩ : ∃ c, c = Lab.cmpL (Row.at' L j).1 ls := ⟨_, rfl⟩
      rw [← hcc] at HCmp
      have HCC := hide hcc
      clear fa hEj hEj1 f1 f2 hl1 hl2 hcc
      go_wp2_with fail
      refine (unhide HCmp).mono ?_
      rintro e w1 ⟨rfl, b1⟩
      have b01 : Below wo.heap.size wo w1 := ba.trans (b1.mono ba.size)
      have z1 := b1.size
      simp only [World.size_alloc] at z1
      have bW1 := hbel.trans (b01.mono hsz)
      have r1 : w1.cell? ⟨wo.heap.size, 1, none⟩ = some (.slice a2 l2 q2') := (b1.cell (p := ⟨wo.heap.size, 1, none⟩) (by simp)).trans (by simp [go_sem])
      have q0' : w1.cell? ⟨w.heap.size, 0, none⟩ = some (.slice au nu qu) := (bW1.cell (p := ⟨w.heap.size, 0, none⟩) zW).trans q0
      clear HCmp b1 ba
      by_cases h0 : c = 0
      · have hcb : (c != 0) = false := by simp [h0]
        have HI := hide (show (match firstT T (Row.at' L j).2 with | some z => decide (z.2 ≠ V) | none => otherI ls T V (L.drop (j + 1))) = R from by
          have := unhide HO
          rw [unhide HD, otherI, if_pos (by rw [← unhide HCC]; exact h0)] at this
          exact this)
        clear h0 HO
        go_wp2_with fail
        go_loopw [28] (fun i wr => ∃ (k : Nat), k ≤ l2 ∧ i = .int .i64 k ∧ Hid (firstT T ((Row.at' L j).2.drop k) = firstT T (Row.at' L j).2) ∧ Below wo.heap.size wo wr) (fun i _ => l2 - (intOf i).toNat)
        case atStart => exact ⟨0, Nat.zero_le _, rfl, hide rfl, b01⟩
        case round =>
          obtain ⟨k, hk, rfl, HK, hbel2⟩ := hrel
          have hsz2 := hbel2.size
          have hbw : Below W.heap.size W wr := hbel.trans (hbel2.mono hsz)
          by_cases hlt2 : k < l2
          · obtain ⟨b2, off2, rfl, hlb2, hcells2⟩ := hr2 (by omega)
            have hkL : k < (Row.at' L j).2.length := by have := unhide HL2; omega
            have fs := Sam.flat_at (Row.at' L j).2 k hkL
            have hx0 : wr.cell? ⟨b2, off2 + k * 2, none⟩ = some (.int .i64 (Sam.at' (Row.at' L j).2 k).1) := (hbel2.cell (p := ⟨b2, _, none⟩) hlb2).trans (hcells2 (k * 2) _ fs.1)
            have hx1 : wr.cell? ⟨b2, off2 + k * 2 + 1, none⟩ = some (.int .i64 (Sam.at' (Row.at' L j).2 k).2) := (hbel2.cell (p := ⟨b2, _, none⟩) hlb2).trans (hcells2 (k * 2 + 1) _ fs.2)
            have HNo := hide (fun h => firstT_no (T := T) hkL (unhide HK) h)
            have HYes := hide (fun h => firstT_yes (T := T) hkL (unhide HK) h)
            obtain ⟨S, hS⟩ : ∃ S, S = Sam.at' (Row.at' L j).2 k := ⟨_, rfl⟩
            rw [← hS] at hx0 hx1 HNo HYes
            obtain ⟨ST, SV⟩ := S
            simp only at hx0 hx1
            have q1r : wr.cell? ⟨w.heap.size, 1, none⟩ = some (.int .i64 T) := (hbw.cell (p := ⟨w.heap.size, 1, none⟩) zW).trans q1
            have q2r : wr.cell? ⟨w.heap.size, 2, none⟩ = some (.int .i64 V) := (hbw.cell (p := ⟨w.heap.size, 2, none⟩) zW).trans q2
            have hlr : w.heap.size < wr.heap.size := by omega
            have hnr : w.heap.size ≠ wr.heap.size := by omega
            have hnr' : wr.heap.size ≠ w.heap.size := by omega
            clear hS fs
            have hm0 : (0 : Int) ≤ (k : Int) := Int.natCast_nonneg _
            have hm1 : (k : Int) < (l2 : Int) := by omega
            have hb9 := bW.trans ((hbw.alloc hbw.size (.cells #[.int .i64 ST, .int .i64 SV] 106)).mono bW.size)
            have hb8 := hbel2.alloc hbel2.size (.cells #[.int .i64 ST, .int .i64 SV] 106)
            by_cases he : ST = T
            · have HF := hide (show (SV != V) = R from by
                have := unhide HI
                rw [unhide HYes he] at this
                simp only at this
                rw [← this, Bool.eq_iff_iff]; simp)
              have heb : (ST == T) = true := by simp [he]
              rw [he] at hb9
              go_wp2_with fail
              go_ret
              exact ⟨ret_bool (unhide HF), hb9⟩
            · have HU := hide (unhide HNo he)
              have heb : (ST == T) = false := by simp [he]
              go_wp2
              go_roundw
              case rel => exact ⟨k + 1, by omega, by go_num, HU, hb8⟩
              case measure => simp [intOf]; omega
          · obtain rfl : k = l2 := by omega
            have HU := hide (show otherI ls T V (L.drop (j + 1)) = R from by
              have h1 := unhide HK
              rw [List.drop_of_length_le (by have := unhide HL2; omega)] at h1
              have := unhide HI
              rw [← h1] at this
              exact this)
            go_wp2
            go_roundw
            case rel => exact ⟨j + 1, by omega, by go_num, HU, hbw⟩
            case measure => simp [intOf]; omega
      · have hcb : (c != 0) = true := by simp [h0]
        have HU := hide (show otherI ls T V (L.drop (j + 1)) = R from by
          have := unhide HO
          rw [unhide HD, otherI, if_neg (by rw [← unhide HCC]; exact h0)] at this
          exact this)
        go_wp2
        go_roundw
        case rel => exact ⟨j + 1, by omega, by go_num, HU, bW1⟩
        case measure => simp [intOf]; omega
    · obtain rfl : j = vn := by omega
      have HU := hide (show R = false by
        have := unhide HO
        rw [List.drop_of_length_le (by have := unhide HN; omega)] at this
        exact this.symm)
      have hb9 := bW.trans (hbel.mono bW.size)
      go_wp2
      go_ret
      exact ⟨ret_bool (unhide HU).symm, hb9⟩
end Go.Proofs.YtlboekimnhgfdaaGreat.Tab

/- What writing one entry comes to, and several, as plain mathematics. No condition. -/
namespace Go.Proofs.YtlboekimnhgfdaaGreat.Tab
open Go.RowKit Rw
set_option linter.unusedVariables false
abbrev T3 := List Row.E × Int × Int
abbrev En := List Lab.E × Int × Int
def oneE (t : T3) (e : En) : T3 × Int :=
  if codeE t.2.1 t.2.2 e.1 e.2.1 e.2.2 ≠ 0 then (t, codeE t.2.1 t.2.2 e.1 e.2.1 e.2.2)
  else if otherE t.1 e.1 e.2.1 e.2.2 = true then (t, 3)
  else match Row.add t.1 (e.1, [(e.2.1, e.2.2)]) with
    | some R => ((R, if t.2.1 < e.2.1 then e.2.1 else t.2.1, t.2.2), 0)
    | none => (t, 4)
theorem code_zero {H F : Int} {ls : List Lab.E} {t v : Int} (h : codeE H F ls t v = 0) : Lab.ok ls = true ∧ SampMath.inR t v = true := by
  unfold codeE at h
  split at h
  · rename_i h1
    split at h
    · rename_i h2; exact ⟨h1, h2⟩
    · cases h
  · cases h
theorem one_none {t : T3} {e : En} (h : codeE t.2.1 t.2.2 e.1 e.2.1 e.2.2 ≠ 0) : oneE t e = (t, codeE t.2.1 t.2.2 e.1 e.2.1 e.2.2) := by unfold oneE; rw [if_pos h]
theorem one_other {t : T3} {e : En} (h : codeE t.2.1 t.2.2 e.1 e.2.1 e.2.2 = 0) (h2 : otherE t.1 e.1 e.2.1 e.2.2 = true) : oneE t e = (t, 3) := by unfold oneE; rw [if_neg (by rw [h]; decide), if_pos h2]
theorem one_many {t : T3} {e : En} (h : codeE t.2.1 t.2.2 e.1 e.2.1 e.2.2 = 0) (h2 : otherE t.1 e.1 e.2.1 e.2.2 = false) (h3 : Row.add t.1 (e.1, [(e.2.1, e.2.2)]) = none) : oneE t e = (t, 4) := by unfold oneE; rw [if_neg (by rw [h]; decide), if_neg (by rw [h2]; decide), h3]
theorem one_fine {t : T3} {e : En} {R : List Row.E} (h : codeE t.2.1 t.2.2 e.1 e.2.1 e.2.2 = 0) (h2 : otherE t.1 e.1 e.2.1 e.2.2 = false) (h3 : Row.add t.1 (e.1, [(e.2.1, e.2.2)]) = some R) : oneE t e = ((R, if t.2.1 < e.2.1 then e.2.1 else t.2.1, t.2.2), 0) := by unfold oneE; rw [if_neg (by rw [h]; decide), if_neg (by rw [h2]; decide), h3]
/-- a table whose rows are ok, and whose times may be -/
def tabB (t : T3) : Prop := Row.ok t.1 = true ∧ (-1 ≤ t.2.1 ∧ t.2.1 ≤ 9999) ∧ (0 ≤ t.2.2 ∧ t.2.2 ≤ 9999)
theorem add_ok {L R : List Row.E} {x : Row.E} (hL : Row.ok L = true) (hx : Row.Fine [x]) (h : Row.add L x = some R) : Row.ok R = true := Row.add_ok hL hx h
theorem one_tab {t : T3} {e : En} (h : tabB t) : tabB (oneE t e).1 := by
  by_cases h1 : codeE t.2.1 t.2.2 e.1 e.2.1 e.2.2 = 0
  · cases h2 : otherE t.1 e.1 e.2.1 e.2.2
    · cases h3 : Row.add t.1 (e.1, [(e.2.1, e.2.2)]) with
      | none => rw [one_many h1 h2 h3]; exact h
      | some R =>
        rw [one_fine h1 h2 h3]
        obtain ⟨c1, c2⟩ := code_zero h1
        have hr := SampMath.inR_iff.1 c2
        refine ⟨Row.add_ok h.1 (Row.fine_ok (Row.row_ok c1 c2)) h3, ?_, h.2.2⟩
        have := h.2.1
        show -1 ≤ (if t.2.1 < e.2.1 then e.2.1 else t.2.1) ∧ (if t.2.1 < e.2.1 then e.2.1 else t.2.1) ≤ 9999
        split <;> omega
    · rw [one_other h1 h2]; exact h
  · rw [one_none h1]; exact h
end Go.Proofs.YtlboekimnhgfdaaGreat.Tab

/- What is wrong with an entry: codeOf of the program. -/
namespace Go.Proofs.YtlboekimnhgfdaaGreat.Tab
open Go.RowKit Rw
set_option linter.unusedVariables false
set_option linter.unusedSimpArgs false
attribute [local go_sem ↓] Go.wp_at_zero Go.wp_at_succ
set_option maxHeartbeats 2000000 in
theorem sample_any {w : World} (ua : Option Addr) (un uq : Nat) (T V : Int) : Calls Tryz.prog 125 #[.agg #[.slice ua un uq, .int .i64 T, .int .i64 V]] w fun e w' => e = .returned (.agg #[.int .i64 T, .int .i64 V]) ∧ Below w.heap.size w w' := by
  obtain ⟨W, hW⟩ : ∃ W, (w.alloc (.cells #[.slice ua un uq, .int .i64 T, .int .i64 V] 62)).alloc (.cells #[.int .i64 0, .int .i64 0] 106) = W := ⟨_, rfl⟩
  have bW : Below w.heap.size w W := by rw [← hW]; exact ((Below.refl _ _).alloc (Nat.le_refl _) _).alloc (by simp) _
  have q1 : W.cell? ⟨w.heap.size, 1, none⟩ = some (.int .i64 T) := by rw [← hW]; simp [go_sem]
  have q2 : W.cell? ⟨w.heap.size, 2, none⟩ = some (.int .i64 V) := by rw [← hW]; simp [go_sem]
  have s0 : W.cell? ⟨w.heap.size + 1, 0, none⟩ = some (.int .i64 0) := by rw [← hW]; simp [go_sem]
  have s1 : W.cell? ⟨w.heap.size + 1, 1, none⟩ = some (.int .i64 0) := by rw [← hW]; simp [go_sem]
  have f0 : W.frozen? ⟨w.heap.size + 1, 0, none⟩ = false := by rw [← hW]; simp [go_sem]
  have f1 : W.frozen? ⟨w.heap.size + 1, 1, none⟩ = false := by rw [← hW]; simp [go_sem]
  have on : OnlyAt (w.heap.size + 1) W ((W.setCell ⟨w.heap.size + 1, 0, none⟩ (.int .i64 T)).setCell ⟨w.heap.size + 1, 1, none⟩ (.int .i64 V)) := ((OnlyAt.refl _ _).setCell 0 _).setCell 1 _
  have bn := bW.trans (on.below (show w.heap.size ≤ w.heap.size + 1 by omega))
  go_enter Tryz.func125, Tryz.ntmps125
  go_wp2_with fail
  refine bodyPost_ret (v := .agg #[.int .i64 T, .int .i64 V]) (by simp [results, Tryz.results125, go_sem, s0, s1]) rfl ⟨rfl, bn⟩
/-- the code of an entry, another number included -/
def codeI (L : List Row.E) (H F : Int) (ls : List Lab.E) (t v : Int) : Int := if codeE H F ls t v ≠ 0 then codeE H F ls t v else if otherE L ls t v = true then 3 else 0
set_option maxRecDepth 100000 in
set_option maxHeartbeats 8000000 in
theorem code_any {w : World} {u : Value} {L : List Row.E} {ls : List Lab.E} (tb : Nat) (va : Option Addr) (vn vq : Nat) (H F T V : Int) (htb : tb < w.heap.size) (c0 : w.cell? ⟨tb, 0, none⟩ = some (.slice va vn vq)) (c1 : w.cell? ⟨tb, 1, none⟩ = some (.int .i64 H)) (c2 : w.cell? ⟨tb, 2, none⟩ = some (.int .i64 F)) (h : Row.Is w (.slice va vn vq) L) (hok : Row.ok L = true) (hl : Lab.Is w u ls) (hlg : ∀ x ∈ ls, Lab.good x) (hll : ls.length ≤ maxLen) (hH : -1 ≤ H ∧ H ≤ 9999) :
    Calls Tryz.prog 123 #[.pointer (some ⟨tb, 0, none⟩), .agg #[u, .int .i64 T, .int .i64 V]] w fun e w' => e = .returned (.int .i64 (codeI L H F ls T V)) ∧ Below w.heap.size w w' := by
  obtain ⟨au, nu, qu, rfl⟩ : ∃ a n q, u = .slice a n q := by obtain ⟨-, a, q, e, -⟩ := hl; exact ⟨a, _, q, e⟩
  obtain ⟨W, hW⟩ : ∃ W, w.alloc (.cells #[.slice au nu qu, .int .i64 T, .int .i64 V] 62) = W := ⟨_, rfl⟩
  have bW : Below w.heap.size w W := by rw [← hW]; exact (Below.refl _ _).alloc (Nat.le_refl _) _
  have zW : w.heap.size < W.heap.size := by rw [← hW]; simp
  have q0 : W.cell? ⟨w.heap.size, 0, none⟩ = some (.slice au nu qu) := by rw [← hW]; simp [go_sem]
  have q1 : W.cell? ⟨w.heap.size, 1, none⟩ = some (.int .i64 T) := by rw [← hW]; simp [go_sem]
  have q2 : W.cell? ⟨w.heap.size, 2, none⟩ = some (.int .i64 V) := by rw [← hW]; simp [go_sem]
  have HS := hide (fun (X : World) (hb : Below W.heap.size W X) => show X.cell? ⟨tb, 0, none⟩ = some (.slice va vn vq) ∧ X.cell? ⟨tb, 1, none⟩ = some (.int .i64 H) ∧ X.cell? ⟨tb, 2, none⟩ = some (.int .i64 F) ∧ X.cell? ⟨w.heap.size, 0, none⟩ = some (.slice au nu qu) ∧ X.cell? ⟨w.heap.size, 1, none⟩ = some (.int .i64 T) ∧ X.cell? ⟨w.heap.size, 2, none⟩ = some (.int .i64 V) from
    have ht : tb < W.heap.size := Nat.lt_of_lt_of_le htb bW.size
    ⟨(hb.cell (p := ⟨tb, 0, none⟩) ht).trans ((bW.cell (p := ⟨tb, 0, none⟩) htb).trans c0), (hb.cell (p := ⟨tb, 1, none⟩) ht).trans ((bW.cell (p := ⟨tb, 1, none⟩) htb).trans c1), (hb.cell (p := ⟨tb, 2, none⟩) ht).trans ((bW.cell (p := ⟨tb, 2, none⟩) htb).trans c2), (hb.cell (p := ⟨w.heap.size, 0, none⟩) zW).trans q0, (hb.cell (p := ⟨w.heap.size, 1, none⟩) zW).trans q1, (hb.cell (p := ⟨w.heap.size, 2, none⟩) zW).trans q2⟩)
  have HL := hide (fun X (hb : Below W.heap.size W X) => Lab.impl_ok ((hl.below bW).below hb) hlg)
  have HO := hide (fun (hlo : Lab.ok ls = true) X (hb : Below W.heap.size W X) => other_any tb va vn vq T V (Nat.lt_of_lt_of_le (Nat.lt_of_lt_of_le htb bW.size) hb.size) (unhide HS X hb).1 ((h.below bW).below hb) hok ((hl.below bW).below hb) hlo hlg hll)
  obtain ⟨x0, x1, x2, e0, e1, e2⟩ := unhide HS W (Below.refl _ _)
  clear h hok hl hlg hll c0 c1 c2 q0 q1 q2
  go_enter Tryz.func123, Tryz.ntmps123
  go_wp2_with fail
  refine (unhide HL W (Below.refl _ _)).mono ?_
  rintro e w1 ⟨rfl, b1⟩
  cases hlo : Lab.ok ls
  · have HR := hide (show codeI L H F ls T V = 5 by unfold codeI codeE; rw [hlo]; rfl)
    have d1 := bW.trans (b1.mono bW.size)
    clear hlo
    go_wp2_with fail
    go_ret
    exact ⟨by rw [unhide HR]; rfl, d1⟩
  have HLO := hide hlo
  clear hlo x0 x1 x2 e0 e1 e2 HL
  obtain ⟨x0, x1, x2, e0, e1, e2⟩ := unhide HS w1 b1
  go_wp2_with fail
  refine (sample_any au nu qu T V).mono ?_
  rintro e w2 ⟨rfl, b2⟩
  have b12 := b1.trans (b2.mono b1.size)
  clear b2 x0 x1 x2 e0 e1 e2
  cases hr : SampMath.inR T V
  · have HR := hide (show codeI L H F ls T V = 1 by unfold codeI codeE; rw [unhide HLO, hr]; rfl)
    go_wp2_with fail
    refine (Samp.sampleOk_is T V false _ hr).mono ?_
    rintro e w3 ⟨rfl, b3⟩
    have d3 := bW.trans ((b12.trans (b3.mono b12.size)).mono bW.size)
    clear hr
    go_wp2_with fail
    go_ret
    exact ⟨by rw [unhide HR]; rfl, d3⟩
  have HR0 := hide hr
  have HSo := hide (Samp.sampleOk_is T V true w2 hr)
  clear hr
  go_wp2_with fail
  refine (unhide HSo).mono ?_
  rintro e w3 ⟨rfl, b3⟩
  have b13 := b12.trans (b3.mono b12.size)
  clear b12 b3 HSo
  obtain ⟨D, hD⟩ : ∃ D, H - 300 = D := ⟨_, rfl⟩
  have u1 := Grl.wrap_ok (n := D) (by omega) (by omega)
  have bD : Below W.heap.size W w3.drew := b13.drew
  by_cases hF : T < F
  · have HR := hide (show codeI L H F ls T V = 2 by unfold codeI codeE; rw [unhide HLO, unhide HR0]; simp [hF])
    obtain ⟨x0, x1, x2, e0, e1, e2⟩ := unhide HS w3 b13
    go_wp2_with fail
    clear x0 x1 x2 e0 e1 e2
    refine Grl.start (S := fun X => X.cell? ⟨tb, 0, none⟩ = some (.slice va vn vq) ∧ X.cell? ⟨tb, 1, none⟩ = some (.int .i64 H) ∧ X.cell? ⟨tb, 2, none⟩ = some (.int .i64 F) ∧ X.cell? ⟨w.heap.size, 0, none⟩ = some (.slice au nu qu) ∧ X.cell? ⟨w.heap.size, 1, none⟩ = some (.int .i64 T) ∧ X.cell? ⟨w.heap.size, 2, none⟩ = some (.int .i64 V)) (by kernel_rfl) (by exact unhide HS _ bD) (fun hHeld => ?_)
    refine Grl.yes 0 (v := ?_) rfl (by kernel_rfl) (by kernel_rfl) (by kernel_rfl) (fun _ _ _ h => h) (by kernel_rfl) ?_ (by assumption) ?_
    rotate_left
    · (intro w hSw; (try dsimp only at hSw); go_simp; try with_reducible rfl)
    simp only [Act.put, List.setIfInBounds_toArray, List.set_cons_zero, List.set_cons_succ]
    refine Grl.yes 1 (v := ?_) rfl (by kernel_rfl) (by kernel_rfl) (by kernel_rfl) (fun _ _ _ h => h) (by kernel_rfl) ?_ (by assumption) ?_
    rotate_left
    · (intro w hSw; (try dsimp only at hSw); go_simp; try with_reducible rfl)
    simp only [Act.put, List.setIfInBounds_toArray, List.set_cons_zero, List.set_cons_succ]
    refine Grl.yes 2 (v := ?_) rfl (by kernel_rfl) (by kernel_rfl) (by kernel_rfl) (fun _ _ _ h => h) (by kernel_rfl) ?_ (by assumption) ?_
    rotate_left
    · (intro w hSw; (try dsimp only at hSw); go_simp; try with_reducible rfl)
    simp only [Act.put, List.setIfInBounds_toArray, List.set_cons_zero, List.set_cons_succ]
    refine Grl.yes 3 (v := ?_) rfl (by kernel_rfl) (by kernel_rfl) (by kernel_rfl) (fun _ _ _ h => h) (by kernel_rfl) ?_ (by assumption) ?_
    rotate_left
    · (intro w hSw; (try dsimp only at hSw); go_simp; try with_reducible rfl)
    simp only [Act.put, List.setIfInBounds_toArray, List.set_cons_zero, List.set_cons_succ]
    refine Grl.yes 4 (v := ?_) rfl (by kernel_rfl) (by kernel_rfl) (by kernel_rfl) (fun _ _ _ h => h) (by kernel_rfl) ?_ (by assumption) ?_
    rotate_left
    · (intro w hSw; (try dsimp only at hSw); go_simp; try with_reducible rfl)
    simp only [Act.put, List.setIfInBounds_toArray, List.set_cons_zero, List.set_cons_succ]
    refine Grl.yes 5 (v := ?_) rfl (by kernel_rfl) (by kernel_rfl) (by kernel_rfl) (fun _ _ _ h => h) (by kernel_rfl) ?_ (by assumption) ?_
    rotate_left
    · (intro w hSw; (try dsimp only at hSw); go_simp; try with_reducible rfl)
    simp only [Act.put, List.setIfInBounds_toArray, List.set_cons_zero, List.set_cons_succ]
    refine Grl.yes 6 (v := ?_) rfl (by kernel_rfl) (by kernel_rfl) (by kernel_rfl) (fun _ _ _ h => h) (by kernel_rfl) ?_ (by assumption) ?_
    rotate_left
    · (intro w hSw; (try dsimp only at hSw); go_simp; try with_reducible rfl)
    simp only [Act.put, List.setIfInBounds_toArray, List.set_cons_zero, List.set_cons_succ]
    refine Grl.yes 7 (v := ?_) rfl (by kernel_rfl) (by kernel_rfl) (by kernel_rfl) (fun _ _ _ h => h) (by kernel_rfl) ?_ (by assumption) ?_
    rotate_left
    · (intro w hSw; (try dsimp only at hSw); go_simp; try with_reducible rfl)
    simp only [Act.put, List.setIfInBounds_toArray, List.set_cons_zero, List.set_cons_succ]
    refine Grl.yes 8 (v := ?_) rfl (by kernel_rfl) (by kernel_rfl) (by kernel_rfl) (fun _ _ _ h => h) (by kernel_rfl) ?_ (by assumption) ?_
    rotate_left
    · (intro w hSw; (try dsimp only at hSw); go_simp; try with_reducible rfl)
    simp only [Act.put, List.setIfInBounds_toArray, List.set_cons_zero, List.set_cons_succ]
    refine Grl.no 9 rfl (by kernel_rfl) (by kernel_rfl) (by kernel_rfl) (fun _ _ _ h => h) (by kernel_rfl) (by assumption) ?_
    simp only [Act.put, List.setIfInBounds_toArray, List.set_cons_zero, List.set_cons_succ]
    refine Grl.no 10 rfl (by kernel_rfl) (by kernel_rfl) (by kernel_rfl) (fun _ _ _ h => h) (by kernel_rfl) (by assumption) ?_
    simp only [Act.put, List.setIfInBounds_toArray, List.set_cons_zero, List.set_cons_succ]
    refine Grl.no 11 rfl (by kernel_rfl) (by kernel_rfl) (by kernel_rfl) (fun _ _ _ h => h) (by kernel_rfl) (by assumption) ?_
    simp only [Act.put, List.setIfInBounds_toArray, List.set_cons_zero, List.set_cons_succ]
    refine Grl.no 12 rfl (by kernel_rfl) (by kernel_rfl) (by kernel_rfl) (fun _ _ _ h => h) (by kernel_rfl) (by assumption) ?_
    simp only [Act.put, List.setIfInBounds_toArray, List.set_cons_zero, List.set_cons_succ]
    refine Grl.no 13 rfl (by kernel_rfl) (by kernel_rfl) (by kernel_rfl) (fun _ _ _ h => h) (by kernel_rfl) (by assumption) ?_
    simp only [Act.put, List.setIfInBounds_toArray, List.set_cons_zero, List.set_cons_succ]
    refine Grl.no 14 rfl (by kernel_rfl) (by kernel_rfl) (by kernel_rfl) (fun _ _ _ h => h) (by kernel_rfl) (by assumption) ?_
    simp only [Act.put, List.setIfInBounds_toArray, List.set_cons_zero, List.set_cons_succ]
    refine Grl.no 15 rfl (by kernel_rfl) (by kernel_rfl) (by kernel_rfl) (fun _ _ _ h => h) (by kernel_rfl) (by assumption) ?_
    simp only [Act.put, List.setIfInBounds_toArray, List.set_cons_zero, List.set_cons_succ]
    refine Grl.no 16 rfl (by kernel_rfl) (by kernel_rfl) (by kernel_rfl) (fun _ _ _ h => h) (by kernel_rfl) (by assumption) ?_
    simp only [Act.put, List.setIfInBounds_toArray, List.set_cons_zero, List.set_cons_succ]
    refine Grl.no 17 rfl (by kernel_rfl) (by kernel_rfl) (by kernel_rfl) (fun _ _ _ h => h) (by kernel_rfl) (by assumption) ?_
    simp only [Act.put, List.setIfInBounds_toArray, List.set_cons_zero, List.set_cons_succ]
    refine Grl.yes 18 (v := ?_) rfl (by kernel_rfl) (by kernel_rfl) (by kernel_rfl) (fun _ _ _ h => h) (by kernel_rfl) ?_ (by assumption) ?_
    rotate_left
    · (intro w hSw; (try dsimp only at hSw); go_simp; try with_reducible rfl)
    simp only [Act.put, List.setIfInBounds_toArray, List.set_cons_zero, List.set_cons_succ]
    refine Grl.yes 19 (v := ?_) rfl (by kernel_rfl) (by kernel_rfl) (by kernel_rfl) (fun _ _ _ h => h) (by kernel_rfl) ?_ (by assumption) ?_
    rotate_left
    · (intro w hSw; (try dsimp only at hSw); go_simp; try with_reducible rfl)
    simp only [Act.put, List.setIfInBounds_toArray, List.set_cons_zero, List.set_cons_succ]
    refine wpAnyH_done (by kernel_rfl) ?_ _
    have d9 := bW.trans (bD.mono bW.size)
    go_wp2_with fail
    go_ret
    exact ⟨by rw [unhide HR]; rfl, d9⟩
  have hF' : decide (T < F) = false := by simp; omega
  by_cases hW2 : T < D
  · have HR := hide (show codeI L H F ls T V = 2 by unfold codeI codeE; rw [unhide HLO, unhide HR0, hD]; simp [hW2])
    obtain ⟨x0, x1, x2, e0, e1, e2⟩ := unhide HS w3 b13
    go_wp2_with fail
    clear x0 x1 x2 e0 e1 e2
    refine Grl.start (S := fun X => X.cell? ⟨tb, 0, none⟩ = some (.slice va vn vq) ∧ X.cell? ⟨tb, 1, none⟩ = some (.int .i64 H) ∧ X.cell? ⟨tb, 2, none⟩ = some (.int .i64 F) ∧ X.cell? ⟨w.heap.size, 0, none⟩ = some (.slice au nu qu) ∧ X.cell? ⟨w.heap.size, 1, none⟩ = some (.int .i64 T) ∧ X.cell? ⟨w.heap.size, 2, none⟩ = some (.int .i64 V)) (by kernel_rfl) (by exact unhide HS _ bD) (fun hHeld => ?_)
    refine Grl.yes 0 (v := ?_) rfl (by kernel_rfl) (by kernel_rfl) (by kernel_rfl) (fun _ _ _ h => h) (by kernel_rfl) ?_ (by assumption) ?_
    rotate_left
    · (intro w hSw; (try dsimp only at hSw); go_simp; try with_reducible rfl)
    simp only [Act.put, List.setIfInBounds_toArray, List.set_cons_zero, List.set_cons_succ]
    refine Grl.yes 1 (v := ?_) rfl (by kernel_rfl) (by kernel_rfl) (by kernel_rfl) (fun _ _ _ h => h) (by kernel_rfl) ?_ (by assumption) ?_
    rotate_left
    · (intro w hSw; (try dsimp only at hSw); go_simp; try with_reducible rfl)
    simp only [Act.put, List.setIfInBounds_toArray, List.set_cons_zero, List.set_cons_succ]
    refine Grl.yes 2 (v := ?_) rfl (by kernel_rfl) (by kernel_rfl) (by kernel_rfl) (fun _ _ _ h => h) (by kernel_rfl) ?_ (by assumption) ?_
    rotate_left
    · (intro w hSw; (try dsimp only at hSw); go_simp; try with_reducible rfl)
    simp only [Act.put, List.setIfInBounds_toArray, List.set_cons_zero, List.set_cons_succ]
    refine Grl.yes 3 (v := ?_) rfl (by kernel_rfl) (by kernel_rfl) (by kernel_rfl) (fun _ _ _ h => h) (by kernel_rfl) ?_ (by assumption) ?_
    rotate_left
    · (intro w hSw; (try dsimp only at hSw); go_simp; try with_reducible rfl)
    simp only [Act.put, List.setIfInBounds_toArray, List.set_cons_zero, List.set_cons_succ]
    refine Grl.yes 4 (v := ?_) rfl (by kernel_rfl) (by kernel_rfl) (by kernel_rfl) (fun _ _ _ h => h) (by kernel_rfl) ?_ (by assumption) ?_
    rotate_left
    · (intro w hSw; (try dsimp only at hSw); go_simp; try with_reducible rfl)
    simp only [Act.put, List.setIfInBounds_toArray, List.set_cons_zero, List.set_cons_succ]
    refine Grl.yes 5 (v := ?_) rfl (by kernel_rfl) (by kernel_rfl) (by kernel_rfl) (fun _ _ _ h => h) (by kernel_rfl) ?_ (by assumption) ?_
    rotate_left
    · (intro w hSw; (try dsimp only at hSw); go_simp; try with_reducible rfl)
    simp only [Act.put, List.setIfInBounds_toArray, List.set_cons_zero, List.set_cons_succ]
    refine Grl.yes 6 (v := ?_) rfl (by kernel_rfl) (by kernel_rfl) (by kernel_rfl) (fun _ _ _ h => h) (by kernel_rfl) ?_ (by assumption) ?_
    rotate_left
    · (intro w hSw; (try dsimp only at hSw); go_simp; try with_reducible rfl)
    simp only [Act.put, List.setIfInBounds_toArray, List.set_cons_zero, List.set_cons_succ]
    refine Grl.yes 7 (v := ?_) rfl (by kernel_rfl) (by kernel_rfl) (by kernel_rfl) (fun _ _ _ h => h) (by kernel_rfl) ?_ (by assumption) ?_
    rotate_left
    · (intro w hSw; (try dsimp only at hSw); go_simp; try with_reducible rfl)
    simp only [Act.put, List.setIfInBounds_toArray, List.set_cons_zero, List.set_cons_succ]
    refine Grl.yes 8 (v := ?_) rfl (by kernel_rfl) (by kernel_rfl) (by kernel_rfl) (fun _ _ _ h => h) (by kernel_rfl) ?_ (by assumption) ?_
    rotate_left
    · (intro w hSw; (try dsimp only at hSw); go_simp; try with_reducible rfl)
    simp only [Act.put, List.setIfInBounds_toArray, List.set_cons_zero, List.set_cons_succ]
    refine Grl.yes 9 (v := ?_) rfl (by kernel_rfl) (by kernel_rfl) (by kernel_rfl) (fun _ _ _ h => h) (by kernel_rfl) ?_ (by assumption) ?_
    rotate_left
    · (intro w hSw; (try dsimp only at hSw); go_simp; try with_reducible rfl)
    simp only [Act.put, List.setIfInBounds_toArray, List.set_cons_zero, List.set_cons_succ]
    refine Grl.yes 10 (v := ?_) rfl (by kernel_rfl) (by kernel_rfl) (by kernel_rfl) (fun _ _ _ h => h) (by kernel_rfl) ?_ (by assumption) ?_
    rotate_left
    · (intro w hSw; (try dsimp only at hSw); go_simp; try with_reducible rfl)
    simp only [Act.put, List.setIfInBounds_toArray, List.set_cons_zero, List.set_cons_succ]
    refine Grl.yes 11 (v := ?_) rfl (by kernel_rfl) (by kernel_rfl) (by kernel_rfl) (fun _ _ _ h => h) (by kernel_rfl) ?_ (by assumption) ?_
    rotate_left
    · (intro w hSw; (try dsimp only at hSw); go_simp; try with_reducible rfl)
    simp only [Act.put, List.setIfInBounds_toArray, List.set_cons_zero, List.set_cons_succ]
    refine Grl.yes 12 (v := ?_) rfl (by kernel_rfl) (by kernel_rfl) (by kernel_rfl) (fun _ _ _ h => h) (by kernel_rfl) ?_ (by assumption) ?_
    rotate_left
    · (intro w hSw; (try dsimp only at hSw); go_simp; try with_reducible rfl)
    simp only [Act.put, List.setIfInBounds_toArray, List.set_cons_zero, List.set_cons_succ]
    refine Grl.yes 13 (v := ?_) rfl (by kernel_rfl) (by kernel_rfl) (by kernel_rfl) (fun _ _ _ h => h) (by kernel_rfl) ?_ (by assumption) ?_
    rotate_left
    · (intro w hSw; (try dsimp only at hSw); go_simp; try with_reducible rfl)
    simp only [Act.put, List.setIfInBounds_toArray, List.set_cons_zero, List.set_cons_succ]
    refine Grl.yes 14 (v := ?_) rfl (by kernel_rfl) (by kernel_rfl) (by kernel_rfl) (fun _ _ _ h => h) (by kernel_rfl) ?_ (by assumption) ?_
    rotate_left
    · (intro w hSw; (try dsimp only at hSw); go_simp; try with_reducible rfl)
    simp only [Act.put, List.setIfInBounds_toArray, List.set_cons_zero, List.set_cons_succ]
    refine Grl.yes 15 (v := ?_) rfl (by kernel_rfl) (by kernel_rfl) (by kernel_rfl) (fun _ _ _ h => h) (by kernel_rfl) ?_ (by assumption) ?_
    rotate_left
    · (intro w hSw; (try dsimp only at hSw); go_simp; try with_reducible rfl)
    simp only [Act.put, List.setIfInBounds_toArray, List.set_cons_zero, List.set_cons_succ]
    refine Grl.yes 16 (v := ?_) rfl (by kernel_rfl) (by kernel_rfl) (by kernel_rfl) (fun _ _ _ h => h) (by kernel_rfl) ?_ (by assumption) ?_
    rotate_left
    · (intro w hSw; (try dsimp only at hSw); go_simp; try with_reducible rfl)
    simp only [Act.put, List.setIfInBounds_toArray, List.set_cons_zero, List.set_cons_succ]
    refine Grl.yes 17 (v := ?_) rfl (by kernel_rfl) (by kernel_rfl) (by kernel_rfl) (fun _ _ _ h => h) (by kernel_rfl) ?_ (by assumption) ?_
    rotate_left
    · (intro w hSw; (try dsimp only at hSw); go_simp; try with_reducible rfl)
    simp only [Act.put, List.setIfInBounds_toArray, List.set_cons_zero, List.set_cons_succ]
    refine Grl.yes 18 (v := ?_) rfl (by kernel_rfl) (by kernel_rfl) (by kernel_rfl) (fun _ _ _ h => h) (by kernel_rfl) ?_ (by assumption) ?_
    rotate_left
    · (intro w hSw; (try dsimp only at hSw); go_simp; try with_reducible rfl)
    simp only [Act.put, List.setIfInBounds_toArray, List.set_cons_zero, List.set_cons_succ]
    refine Grl.yes 19 (v := ?_) rfl (by kernel_rfl) (by kernel_rfl) (by kernel_rfl) (fun _ _ _ h => h) (by kernel_rfl) ?_ (by assumption) ?_
    rotate_left
    · (intro w hSw; (try dsimp only at hSw); go_simp; try with_reducible rfl)
    simp only [Act.put, List.setIfInBounds_toArray, List.set_cons_zero, List.set_cons_succ]
    refine wpAnyH_done (by kernel_rfl) ?_ _
    have d9 := bW.trans (bD.mono bW.size)
    go_wp2_with fail
    go_ret
    exact ⟨by rw [unhide HR]; rfl, d9⟩
  have HC0 := hide (show codeE H F ls T V = 0 by unfold codeE; rw [unhide HLO, unhide HR0, hD]; simp; omega)
  obtain ⟨x0, x1, x2, e0, e1, e2⟩ := unhide HS w3 b13
  go_wp2_with fail
  clear x0 x1 x2 e0 e1 e2
  refine Grl.start (S := fun X => X.cell? ⟨tb, 0, none⟩ = some (.slice va vn vq) ∧ X.cell? ⟨tb, 1, none⟩ = some (.int .i64 H) ∧ X.cell? ⟨tb, 2, none⟩ = some (.int .i64 F) ∧ X.cell? ⟨w.heap.size, 0, none⟩ = some (.slice au nu qu) ∧ X.cell? ⟨w.heap.size, 1, none⟩ = some (.int .i64 T) ∧ X.cell? ⟨w.heap.size, 2, none⟩ = some (.int .i64 V)) (by kernel_rfl) (by exact unhide HS _ bD) (fun hHeld => ?_)
  refine Grl.yes 0 (v := ?_) rfl (by kernel_rfl) (by kernel_rfl) (by kernel_rfl) (fun _ _ _ h => h) (by kernel_rfl) ?_ (by assumption) ?_
  rotate_left
  · (intro w hSw; (try dsimp only at hSw); go_simp; try with_reducible rfl)
  simp only [Act.put, List.setIfInBounds_toArray, List.set_cons_zero, List.set_cons_succ]
  refine Grl.yes 1 (v := ?_) rfl (by kernel_rfl) (by kernel_rfl) (by kernel_rfl) (fun _ _ _ h => h) (by kernel_rfl) ?_ (by assumption) ?_
  rotate_left
  · (intro w hSw; (try dsimp only at hSw); go_simp; try with_reducible rfl)
  simp only [Act.put, List.setIfInBounds_toArray, List.set_cons_zero, List.set_cons_succ]
  refine Grl.yes 2 (v := ?_) rfl (by kernel_rfl) (by kernel_rfl) (by kernel_rfl) (fun _ _ _ h => h) (by kernel_rfl) ?_ (by assumption) ?_
  rotate_left
  · (intro w hSw; (try dsimp only at hSw); go_simp; try with_reducible rfl)
  simp only [Act.put, List.setIfInBounds_toArray, List.set_cons_zero, List.set_cons_succ]
  refine Grl.yes 3 (v := ?_) rfl (by kernel_rfl) (by kernel_rfl) (by kernel_rfl) (fun _ _ _ h => h) (by kernel_rfl) ?_ (by assumption) ?_
  rotate_left
  · (intro w hSw; (try dsimp only at hSw); go_simp; try with_reducible rfl)
  simp only [Act.put, List.setIfInBounds_toArray, List.set_cons_zero, List.set_cons_succ]
  refine Grl.yes 4 (v := ?_) rfl (by kernel_rfl) (by kernel_rfl) (by kernel_rfl) (fun _ _ _ h => h) (by kernel_rfl) ?_ (by assumption) ?_
  rotate_left
  · (intro w hSw; (try dsimp only at hSw); go_simp; try with_reducible rfl)
  simp only [Act.put, List.setIfInBounds_toArray, List.set_cons_zero, List.set_cons_succ]
  refine Grl.yes 5 (v := ?_) rfl (by kernel_rfl) (by kernel_rfl) (by kernel_rfl) (fun _ _ _ h => h) (by kernel_rfl) ?_ (by assumption) ?_
  rotate_left
  · (intro w hSw; (try dsimp only at hSw); go_simp; try with_reducible rfl)
  simp only [Act.put, List.setIfInBounds_toArray, List.set_cons_zero, List.set_cons_succ]
  refine Grl.yes 6 (v := ?_) rfl (by kernel_rfl) (by kernel_rfl) (by kernel_rfl) (fun _ _ _ h => h) (by kernel_rfl) ?_ (by assumption) ?_
  rotate_left
  · (intro w hSw; (try dsimp only at hSw); go_simp; try with_reducible rfl)
  simp only [Act.put, List.setIfInBounds_toArray, List.set_cons_zero, List.set_cons_succ]
  refine Grl.yes 7 (v := ?_) rfl (by kernel_rfl) (by kernel_rfl) (by kernel_rfl) (fun _ _ _ h => h) (by kernel_rfl) ?_ (by assumption) ?_
  rotate_left
  · (intro w hSw; (try dsimp only at hSw); go_simp; try with_reducible rfl)
  simp only [Act.put, List.setIfInBounds_toArray, List.set_cons_zero, List.set_cons_succ]
  refine Grl.yes 8 (v := ?_) rfl (by kernel_rfl) (by kernel_rfl) (by kernel_rfl) (fun _ _ _ h => h) (by kernel_rfl) ?_ (by assumption) ?_
  rotate_left
  · (intro w hSw; (try dsimp only at hSw); go_simp; try with_reducible rfl)
  simp only [Act.put, List.setIfInBounds_toArray, List.set_cons_zero, List.set_cons_succ]
  refine Grl.yes 9 (v := ?_) rfl (by kernel_rfl) (by kernel_rfl) (by kernel_rfl) (fun _ _ _ h => h) (by kernel_rfl) ?_ (by assumption) ?_
  rotate_left
  · (intro w hSw; (try dsimp only at hSw); go_simp; try with_reducible rfl)
  simp only [Act.put, List.setIfInBounds_toArray, List.set_cons_zero, List.set_cons_succ]
  refine Grl.yes 10 (v := ?_) rfl (by kernel_rfl) (by kernel_rfl) (by kernel_rfl) (fun _ _ _ h => h) (by kernel_rfl) ?_ (by assumption) ?_
  rotate_left
  · (intro w hSw; (try dsimp only at hSw); go_simp; try with_reducible rfl)
  simp only [Act.put, List.setIfInBounds_toArray, List.set_cons_zero, List.set_cons_succ]
  refine Grl.yes 11 (v := ?_) rfl (by kernel_rfl) (by kernel_rfl) (by kernel_rfl) (fun _ _ _ h => h) (by kernel_rfl) ?_ (by assumption) ?_
  rotate_left
  · (intro w hSw; (try dsimp only at hSw); go_simp; try with_reducible rfl)
  simp only [Act.put, List.setIfInBounds_toArray, List.set_cons_zero, List.set_cons_succ]
  refine Grl.yes 12 (v := ?_) rfl (by kernel_rfl) (by kernel_rfl) (by kernel_rfl) (fun _ _ _ h => h) (by kernel_rfl) ?_ (by assumption) ?_
  rotate_left
  · (intro w hSw; (try dsimp only at hSw); go_simp; try with_reducible rfl)
  simp only [Act.put, List.setIfInBounds_toArray, List.set_cons_zero, List.set_cons_succ]
  refine Grl.yes 13 (v := ?_) rfl (by kernel_rfl) (by kernel_rfl) (by kernel_rfl) (fun _ _ _ h => h) (by kernel_rfl) ?_ (by assumption) ?_
  rotate_left
  · (intro w hSw; (try dsimp only at hSw); go_simp; try with_reducible rfl)
  simp only [Act.put, List.setIfInBounds_toArray, List.set_cons_zero, List.set_cons_succ]
  refine Grl.yes 14 (v := ?_) rfl (by kernel_rfl) (by kernel_rfl) (by kernel_rfl) (fun _ _ _ h => h) (by kernel_rfl) ?_ (by assumption) ?_
  rotate_left
  · (intro w hSw; (try dsimp only at hSw); go_simp; try with_reducible rfl)
  simp only [Act.put, List.setIfInBounds_toArray, List.set_cons_zero, List.set_cons_succ]
  refine Grl.yes 15 (v := ?_) rfl (by kernel_rfl) (by kernel_rfl) (by kernel_rfl) (fun _ _ _ h => h) (by kernel_rfl) ?_ (by assumption) ?_
  rotate_left
  · (intro w hSw; (try dsimp only at hSw); go_simp; try with_reducible rfl)
  simp only [Act.put, List.setIfInBounds_toArray, List.set_cons_zero, List.set_cons_succ]
  refine Grl.yes 16 (v := ?_) rfl (by kernel_rfl) (by kernel_rfl) (by kernel_rfl) (fun _ _ _ h => h) (by kernel_rfl) ?_ (by assumption) ?_
  rotate_left
  · (intro w hSw; (try dsimp only at hSw); go_simp; try with_reducible rfl)
  simp only [Act.put, List.setIfInBounds_toArray, List.set_cons_zero, List.set_cons_succ]
  refine Grl.yes 17 (v := ?_) rfl (by kernel_rfl) (by kernel_rfl) (by kernel_rfl) (fun _ _ _ h => h) (by kernel_rfl) ?_ (by assumption) ?_
  rotate_left
  · (intro w hSw; (try dsimp only at hSw); go_simp; try with_reducible rfl)
  simp only [Act.put, List.setIfInBounds_toArray, List.set_cons_zero, List.set_cons_succ]
  refine Grl.yes 18 (v := ?_) rfl (by kernel_rfl) (by kernel_rfl) (by kernel_rfl) (fun _ _ _ h => h) (by kernel_rfl) ?_ (by assumption) ?_
  rotate_left
  · (intro w hSw; (try dsimp only at hSw); go_simp; try with_reducible rfl)
  simp only [Act.put, List.setIfInBounds_toArray, List.set_cons_zero, List.set_cons_succ]
  refine Grl.yes 19 (v := ?_) rfl (by kernel_rfl) (by kernel_rfl) (by kernel_rfl) (fun _ _ _ h => h) (by kernel_rfl) ?_ (by assumption) ?_
  rotate_left
  · (intro w hSw; (try dsimp only at hSw); go_simp; try with_reducible rfl)
  simp only [Act.put, List.setIfInBounds_toArray, List.set_cons_zero, List.set_cons_succ]
  refine wpAnyH_done (by kernel_rfl) ?_ _
  obtain ⟨x0, x1, x2, e0, e1, e2⟩ := unhide HS _ bD
  go_wp2_with fail
  refine (unhide HO (unhide HLO) _ bD).mono ?_
  rintro e w4 ⟨rfl, b4⟩
  have d4 := bW.trans ((bD.trans (b4.mono bD.size)).mono bW.size)
  cases ho : otherE L ls T V
  · have HR := hide (show codeI L H F ls T V = 0 by unfold codeI; rw [unhide HC0, ho]; rfl)
    go_wp2_with fail
    go_ret
    exact ⟨by rw [unhide HR]; rfl, d4⟩
  · have HR := hide (show codeI L H F ls T V = 3 by unfold codeI; rw [unhide HC0, ho]; rfl)
    go_wp2_with fail
    go_ret
    exact ⟨by rw [unhide HR]; rfl, d4⟩
end Go.Proofs.YtlboekimnhgfdaaGreat.Tab

/- An entry is written, or a refusal is thrown: write of the program. -/
namespace Go.Proofs.YtlboekimnhgfdaaGreat.Tab
open Go.RowKit Rw
set_option linter.unusedVariables false
set_option linter.unusedSimpArgs false
attribute [local go_sem ↓] Go.wp_at_zero Go.wp_at_succ
/-- what one entry comes to, by the program's code -/
theorem oneE_code (t : T3) (e : En) (h : codeI t.1 t.2.1 t.2.2 e.1 e.2.1 e.2.2 ≠ 0) : oneE t e = (t, codeI t.1 t.2.1 t.2.2 e.1 e.2.1 e.2.2) := by
  unfold codeI at h ⊢
  by_cases h1 : codeE t.2.1 t.2.2 e.1 e.2.1 e.2.2 ≠ 0
  · rw [if_pos h1]; exact one_none h1
  · have h1' : codeE t.2.1 t.2.2 e.1 e.2.1 e.2.2 = 0 := by omega
    rw [if_neg h1] at h ⊢
    by_cases h2 : otherE t.1 e.1 e.2.1 e.2.2 = true
    · rw [if_pos h2]; exact one_other h1' h2
    · rw [if_neg h2] at h; exact absurd rfl h
theorem codeI_zero {L : List Row.E} {H F : Int} {ls : List Lab.E} {T V : Int} (h : codeI L H F ls T V = 0) : codeE H F ls T V = 0 ∧ otherE L ls T V = false := by
  unfold codeI at h
  by_cases h1 : codeE H F ls T V ≠ 0
  · rw [if_pos h1] at h; exact absurd h h1
  · rw [if_neg h1] at h
    refine ⟨by omega, ?_⟩
    cases ho : otherE L ls T V
    · rfl
    · rw [ho] at h; simp at h
/-- how a call of write ends: t is what was, tb the trial's box -/
def Written (tb : Nat) (w : World) (t : T3) (o : T3 × Int) (e : Ending) (w' : World) : Prop :=
  (∃ k : Int, k ≠ 0 ∧ o = (t, k) ∧ e = .panicked [{ v := .iface 117 (.agg #[.int .i64 k]), recovered := false }] ∧ Below w.heap.size w w') ∨
  (∃ (R : List Row.E) (H' : Int) (r : Value) (wm : World), o = ((R, H', t.2.2), 0) ∧ e = .returned (.tuple #[]) ∧ Below w.heap.size w wm ∧ Row.Own w.heap.size wm.heap.size wm r R ∧ OnlyAt tb wm w' ∧ w'.cell? ⟨tb, 0, none⟩ = some r ∧ w'.cell? ⟨tb, 1, none⟩ = some (.int .i64 H') ∧ w'.cell? ⟨tb, 2, none⟩ = some (.int .i64 t.2.2) ∧ w'.frozen? ⟨tb, 0, none⟩ = false ∧ w'.frozen? ⟨tb, 1, none⟩ = false)
set_option maxRecDepth 100000 in
set_option maxHeartbeats 8000000 in
theorem write_any {w : World} {u : Value} {L : List Row.E} {ls : List Lab.E} (tb : Nat) (va : Option Addr) (vn vq : Nat) (H F T V : Int) (htb : tb < w.heap.size) (c0 : w.cell? ⟨tb, 0, none⟩ = some (.slice va vn vq)) (c1 : w.cell? ⟨tb, 1, none⟩ = some (.int .i64 H)) (c2 : w.cell? ⟨tb, 2, none⟩ = some (.int .i64 F)) (f0 : w.frozen? ⟨tb, 0, none⟩ = false) (f1 : w.frozen? ⟨tb, 1, none⟩ = false) (h : Row.Is w (.slice va vn vq) L) (hB : tabB (L, H, F)) (hl : Lab.Is w u ls) (hlg : ∀ x ∈ ls, Lab.good x) (hll : ls.length ≤ maxLen) :
    Calls Tryz.prog 85 #[.pointer (some ⟨tb, 0, none⟩), .agg #[u, .int .i64 T, .int .i64 V]] w (Written tb w (L, H, F) (oneE (L, H, F) (ls, T, V))) := by
  obtain ⟨au, nu, qu, rfl⟩ : ∃ a n q, u = .slice a n q := by obtain ⟨-, a, q, e, -⟩ := hl; exact ⟨a, _, q, e⟩
  obtain ⟨W, hW⟩ : ∃ W, w.alloc (.cells #[.slice au nu qu, .int .i64 T, .int .i64 V] 62) = W := ⟨_, rfl⟩
  have bW : Below w.heap.size w W := by rw [← hW]; exact (Below.refl _ _).alloc (Nat.le_refl _) _
  have zW : w.heap.size < W.heap.size := by rw [← hW]; simp
  have q0 : W.cell? ⟨w.heap.size, 0, none⟩ = some (.slice au nu qu) := by rw [← hW]; simp [go_sem]
  have q1 : W.cell? ⟨w.heap.size, 1, none⟩ = some (.int .i64 T) := by rw [← hW]; simp [go_sem]
  have q2 : W.cell? ⟨w.heap.size, 2, none⟩ = some (.int .i64 V) := by rw [← hW]; simp [go_sem]
  have HS := hide (fun (X : World) (hb : Below W.heap.size W X) => show X.cell? ⟨tb, 0, none⟩ = some (.slice va vn vq) ∧ X.cell? ⟨tb, 1, none⟩ = some (.int .i64 H) ∧ X.cell? ⟨tb, 2, none⟩ = some (.int .i64 F) ∧ X.cell? ⟨w.heap.size, 0, none⟩ = some (.slice au nu qu) ∧ X.cell? ⟨w.heap.size, 1, none⟩ = some (.int .i64 T) ∧ X.cell? ⟨w.heap.size, 2, none⟩ = some (.int .i64 V) from
    have ht : tb < W.heap.size := Nat.lt_of_lt_of_le htb bW.size
    ⟨(hb.cell (p := ⟨tb, 0, none⟩) ht).trans ((bW.cell (p := ⟨tb, 0, none⟩) htb).trans c0), (hb.cell (p := ⟨tb, 1, none⟩) ht).trans ((bW.cell (p := ⟨tb, 1, none⟩) htb).trans c1), (hb.cell (p := ⟨tb, 2, none⟩) ht).trans ((bW.cell (p := ⟨tb, 2, none⟩) htb).trans c2), (hb.cell (p := ⟨w.heap.size, 0, none⟩) zW).trans q0, (hb.cell (p := ⟨w.heap.size, 1, none⟩) zW).trans q1, (hb.cell (p := ⟨w.heap.size, 2, none⟩) zW).trans q2⟩)
  have hok := hB.1
  have hH := hB.2.1
  simp only at hok hH
  have hgL := Row.fine_good (Row.fine_ok hok)
  have hlL : L.length ≤ maxLen := by have := Row.ok_len hok; unfold maxLen; omega
  have HCo := hide (fun X (hb : Below W.heap.size W X) => code_any tb va vn vq H F T V (Nat.lt_of_lt_of_le (Nat.lt_of_lt_of_le htb bW.size) hb.size) (unhide HS X hb).1 (unhide HS X hb).2.1 (unhide HS X hb).2.2.1 ((h.below bW).below hb) hok ((hl.below bW).below hb) hlg hll hH)
  have HAd := hide (fun X (hb : Below W.heap.size W X) => Row.impl_radd T V ((h.below bW).below hb) hgL hlL ((hl.below bW).below hb) hlg)
  have HFr := hide (fun X (hb : Below W.heap.size W X) => show X.frozen? ⟨tb, 0, none⟩ = false ∧ X.frozen? ⟨tb, 1, none⟩ = false from
    have ht : tb < W.heap.size := Nat.lt_of_lt_of_le htb bW.size
    ⟨(hb.frozen (p := ⟨tb, 0, none⟩) ht).trans ((bW.frozen (p := ⟨tb, 0, none⟩) htb).trans f0), (hb.frozen (p := ⟨tb, 1, none⟩) ht).trans ((bW.frozen (p := ⟨tb, 1, none⟩) htb).trans f1)⟩)
  have HOK := hide hok
  obtain ⟨x0, x1, x2, e0, e1, e2⟩ := unhide HS W (Below.refl _ _)
  clear h hl hlg hll c0 c1 c2 q0 q1 q2 f0 f1 hok hgL hlL hB
  go_enter Tryz.func85, Tryz.ntmps85
  go_wp2_with fail
  refine (unhide HCo W (Below.refl _ _)).mono ?_
  rintro e w1 ⟨rfl, b1⟩
  obtain ⟨k, hk⟩ : ∃ k, k = codeI L H F ls T V := ⟨_, rfl⟩
  rw [← hk]
  clear HCo x0 x1 x2 e0 e1 e2
  by_cases hk0 : k = 0
  · have hkb : (k != 0) = false := by simp [hk0]
    have hz := codeI_zero (hk.symm.trans hk0)
    obtain ⟨y1, y2⟩ := code_zero hz.1
    have HZ := hide hz
    have HY := hide (And.intro y1 y2)
    have bD : Below W.heap.size W w1.drew := b1.drew
    have HA1 := hide (fun X (hb : Below w1.drew.heap.size w1.drew X) => unhide HAd X (bD.trans (hb.mono bD.size)))
    obtain ⟨x0, x1, x2, e0, e1, e2⟩ := unhide HS w1 b1
    clear hk hz y1 y2 HAd hk0
    go_wp2_with fail
    clear x0 x1 x2 e0 e1 e2
    refine Grl.start (S := fun X => X.cell? ⟨tb, 0, none⟩ = some (.slice va vn vq) ∧ X.cell? ⟨tb, 1, none⟩ = some (.int .i64 H) ∧ X.cell? ⟨tb, 2, none⟩ = some (.int .i64 F) ∧ X.cell? ⟨w.heap.size, 0, none⟩ = some (.slice au nu qu) ∧ X.cell? ⟨w.heap.size, 1, none⟩ = some (.int .i64 T) ∧ X.cell? ⟨w.heap.size, 2, none⟩ = some (.int .i64 V)) (by kernel_rfl) (by exact unhide HS _ bD) (fun hHeld => ?_)
    refine Grl.yes 0 (v := ?_) rfl (by kernel_rfl) (by kernel_rfl) (by kernel_rfl) (fun _ _ _ h => h) (by kernel_rfl) ?_ (by assumption) ?_
    rotate_left
    · (intro w hSw; (try dsimp only at hSw); go_simp; try with_reducible rfl)
    simp only [Act.put, List.setIfInBounds_toArray, List.set_cons_zero, List.set_cons_succ]
    refine Grl.yes 1 (v := ?_) rfl (by kernel_rfl) (by kernel_rfl) (by kernel_rfl) (fun _ _ _ h => h) (by kernel_rfl) ?_ (by assumption) ?_
    rotate_left
    · (intro w hSw; (try dsimp only at hSw); go_simp; try with_reducible rfl)
    simp only [Act.put, List.setIfInBounds_toArray, List.set_cons_zero, List.set_cons_succ]
    refine Grl.yes 2 (v := ?_) rfl (by kernel_rfl) (by kernel_rfl) (by kernel_rfl) (fun _ _ _ h => h) (by kernel_rfl) ?_ (by assumption) ?_
    rotate_left
    · (intro w hSw; (try dsimp only at hSw); go_simp; try with_reducible rfl)
    simp only [Act.put, List.setIfInBounds_toArray, List.set_cons_zero, List.set_cons_succ]
    refine Grl.yes 3 (v := ?_) rfl (by kernel_rfl) (by kernel_rfl) (by kernel_rfl) (fun _ _ _ h => h) (by kernel_rfl) ?_ (by assumption) ?_
    rotate_left
    · (intro w hSw; (try dsimp only at hSw); go_simp; try with_reducible rfl)
    simp only [Act.put, List.setIfInBounds_toArray, List.set_cons_zero, List.set_cons_succ]
    refine Grl.yes 4 (v := ?_) rfl (by kernel_rfl) (by kernel_rfl) (by kernel_rfl) (fun _ _ _ h => h) (by kernel_rfl) ?_ (by assumption) ?_
    rotate_left
    · (intro w hSw; (try dsimp only at hSw); go_simp; try with_reducible rfl)
    simp only [Act.put, List.setIfInBounds_toArray, List.set_cons_zero, List.set_cons_succ]
    refine Grl.yes 5 (v := ?_) rfl (by kernel_rfl) (by kernel_rfl) (by kernel_rfl) (fun _ _ _ h => h) (by kernel_rfl) ?_ (by assumption) ?_
    rotate_left
    · (intro w hSw; (try dsimp only at hSw); go_simp; try with_reducible rfl)
    simp only [Act.put, List.setIfInBounds_toArray, List.set_cons_zero, List.set_cons_succ]
    refine Grl.yes 6 (v := ?_) rfl (by kernel_rfl) (by kernel_rfl) (by kernel_rfl) (fun _ _ _ h => h) (by kernel_rfl) ?_ (by assumption) ?_
    rotate_left
    · (intro w hSw; (try dsimp only at hSw); go_simp; try with_reducible rfl)
    simp only [Act.put, List.setIfInBounds_toArray, List.set_cons_zero, List.set_cons_succ]
    refine Grl.yes 7 (v := ?_) rfl (by kernel_rfl) (by kernel_rfl) (by kernel_rfl) (fun _ _ _ h => h) (by kernel_rfl) ?_ (by assumption) ?_
    rotate_left
    · (intro w hSw; (try dsimp only at hSw); go_simp; try with_reducible rfl)
    simp only [Act.put, List.setIfInBounds_toArray, List.set_cons_zero, List.set_cons_succ]
    refine Grl.one 8 rfl (by kernel_rfl) (fun K hK => ?_)
    go_simp
    go_wp2_with (refine (sample_any au nu qu T V).mono ?_; rintro e w2 ⟨rfl, b2⟩)
    refine hK.out _ _ (by exact unhide HS _ (bD.trans (b2.mono bD.size))) (fun hHeld => ?_)
    clear hK K
    refine Grl.one 9 rfl (by kernel_rfl) (fun K hK => ?_)
    go_simp
    go_wp2_with (refine (unhide HA1 w2 b2).mono ?_; rintro e w3 ⟨r, rfl, orr, b3⟩; have b13 := b2.trans (b3.mono b2.size); have bW3 := bD.trans (b13.mono bD.size); obtain ⟨ra, rn, rq, rfl⟩ := orr.form)
    refine hK.out _ _ (by exact unhide HS _ bW3) (fun hHeld => ?_)
    clear hK K
    refine Grl.yes 10 (v := ?_) rfl (by kernel_rfl) (by kernel_rfl) (by kernel_rfl) (fun _ _ _ h => h) (by kernel_rfl) ?_ (by assumption) ?_
    rotate_left
    · (intro w hSw; (try dsimp only at hSw); go_simp; try with_reducible rfl)
    simp only [Act.put, List.setIfInBounds_toArray, List.set_cons_zero, List.set_cons_succ]
    refine Grl.yes 11 (v := ?_) rfl (by kernel_rfl) (by kernel_rfl) (by kernel_rfl) (fun _ _ _ h => h) (by kernel_rfl) ?_ (by assumption) ?_
    rotate_left
    · (intro w hSw; (try dsimp only at hSw); go_simp; try with_reducible rfl)
    simp only [Act.put, List.setIfInBounds_toArray, List.set_cons_zero, List.set_cons_succ]
    refine Grl.yes 12 (v := ?_) rfl (by kernel_rfl) (by kernel_rfl) (by kernel_rfl) (fun _ _ _ h => h) (by kernel_rfl) ?_ (by assumption) ?_
    rotate_left
    · (intro w hSw; (try dsimp only at hSw); go_simp; try with_reducible rfl)
    simp only [Act.put, List.setIfInBounds_toArray, List.set_cons_zero, List.set_cons_succ]
    refine Grl.yes 13 (v := ?_) rfl (by kernel_rfl) (by kernel_rfl) (by kernel_rfl) (fun _ _ _ h => h) (by kernel_rfl) ?_ (by assumption) ?_
    rotate_left
    · (intro w hSw; (try dsimp only at hSw); go_simp; try with_reducible rfl)
    simp only [Act.put, List.setIfInBounds_toArray, List.set_cons_zero, List.set_cons_succ]
    refine Grl.yes 14 (v := ?_) rfl (by kernel_rfl) (by kernel_rfl) (by kernel_rfl) (fun _ _ _ h => h) (by kernel_rfl) ?_ (by assumption) ?_
    rotate_left
    · (intro w hSw; (try dsimp only at hSw); go_simp; try with_reducible rfl)
    simp only [Act.put, List.setIfInBounds_toArray, List.set_cons_zero, List.set_cons_succ]
    refine wpAnyH_done (by kernel_rfl) ?_ _
    have d3 := bW.trans (bW3.mono bW.size)
    cases ha : Row.add L (ls, [(T, V)]) with
    | none =>
      have HR := hide (show oneE (L, H, F) (ls, T, V) = ((L, H, F), 4) from one_many (t := (L, H, F)) (e := (ls, T, V)) (unhide HZ).1 (unhide HZ).2 ha)
      have hra : (Row.radd L ls T V).2 = false := by rw [Row.radd_yes (unhide HOK) (unhide HY).1 (unhide HY).2, ha]
      rw [hra]
      clear ha hra orr b2 b3 b13 HA1
      go_wp2_with fail
      refine ⟨rfl, ?_⟩
      exact .inl ⟨4, by decide, unhide HR, rfl, d3⟩
    | some R =>
      have HR := hide (show oneE (L, H, F) (ls, T, V) = ((R, (if H < T then T else H), F), 0) from one_fine (t := (L, H, F)) (e := (ls, T, V)) (unhide HZ).1 (unhide HZ).2 ha)
      have hra : Row.radd L ls T V = (R, true) := by rw [Row.radd_yes (unhide HOK) (unhide HY).1 (unhide HY).2, ha]
      rw [hra]
      rw [hra] at orr
      have z3 := d3.size
      have ow := hide (orr.wide (lo' := w.heap.size) (hi' := w3.heap.size) (by have := b2.size; have := bD.size; have := bW.size; simp only [World.size_drew] at *; omega) (by omega) (Nat.le_refl _))
      obtain ⟨G, hG⟩ : ∃ G, G = (if H < T then T else H) := ⟨_, rfl⟩
      rw [← hG] at HR
      have hmax : max H T = G := by rw [hG, Int.max_def]; split <;> split <;> omega
      obtain ⟨x0, x1, x2, e0, e1, e2⟩ := unhide HS w3 bW3
      obtain ⟨g0, g1⟩ := unhide HFr w3 bW3
      obtain ⟨y1, hy1⟩ : ∃ V, w3.setCell ⟨tb, 0, none⟩ (.slice ra rn rq) = V := ⟨_, rfl⟩
      have on1 := (OnlyAt.refl tb w3).setCell 0 (.slice ra rn rq)
      rw [hy1] at on1
      have htb3 : tb < w3.heap.size := by omega
      have k0 : y1.cell? ⟨tb, 0, none⟩ = some (.slice ra rn rq) := by rw [← hy1]; simp [go_sem, x0, g0]
      have k1 : y1.cell? ⟨tb, 1, none⟩ = some (.int .i64 H) := by rw [← hy1]; simp [go_sem, x1]
      have k2 : y1.cell? ⟨tb, 2, none⟩ = some (.int .i64 F) := by rw [← hy1]; simp [go_sem, x2]
      have kf0 : y1.frozen? ⟨tb, 0, none⟩ = false := by rw [← hy1]; simp [go_sem, g0]
      have kf1 : y1.frozen? ⟨tb, 1, none⟩ = false := by rw [← hy1]; simp [go_sem, g1]
      have hne : w.heap.size ≠ tb := by omega
      have m0 : y1.drew.cell? ⟨tb, 0, none⟩ = some (.slice ra rn rq) := by simpa using k0
      have m1 : y1.drew.cell? ⟨tb, 1, none⟩ = some (.int .i64 H) := by simpa using k1
      have m2 : y1.drew.cell? ⟨tb, 2, none⟩ = some (.int .i64 F) := by simpa using k2
      have m3 : y1.drew.cell? ⟨w.heap.size, 1, none⟩ = some (.int .i64 T) := by simpa using (World.cell?_of_block (a := ⟨w.heap.size, 1, none⟩) (on1.block _ hne)).trans e1
      have mf0 : y1.drew.frozen? ⟨tb, 0, none⟩ = false := by simpa using kf0
      have mf1 : y1.drew.frozen? ⟨tb, 1, none⟩ = false := by simpa using kf1
      obtain ⟨y2, hy2⟩ : ∃ V, y1.drew.setCell ⟨tb, 1, none⟩ (.int .i64 G) = V := ⟨_, rfl⟩
      have on1d : OnlyAt tb w3 y1.drew := ⟨on1.os, on1.tape, on1.output, on1.size, on1.block⟩
      have on2 := on1d.setCell 1 (.int .i64 G)
      rw [hy2] at on2
      have n0 : y2.cell? ⟨tb, 0, none⟩ = some (.slice ra rn rq) := by rw [← hy2]; simp [go_sem, k0]
      have n1 : y2.cell? ⟨tb, 1, none⟩ = some (.int .i64 G) := by rw [← hy2]; simp [go_sem, k1, kf1]
      have n2 : y2.cell? ⟨tb, 2, none⟩ = some (.int .i64 F) := by rw [← hy2]; simp [go_sem, k2]
      have nf0 : y2.frozen? ⟨tb, 0, none⟩ = false := by rw [← hy2]; simp [go_sem, kf0]
      have nf1 : y2.frozen? ⟨tb, 1, none⟩ = false := by rw [← hy2]; simp [go_sem, kf1]
      have HE := hide (And.intro n0 (And.intro n1 (And.intro n2 (And.intro nf0 nf1))))
      clear ha hra orr b2 b3 b13 HA1 hG x1 x2 e0 e1 e2 n0 n1 n2 nf0 nf1 k0 k1 k2 kf0 kf1
      go_wp2_with fail
      go_region
      go_wp2_with fail
      refine bodyPost_ret (results_none rfl _ _ _) rfl ?_
      exact .inr ⟨R, G, _, w3, unhide HR, rfl, d3, unhide ow, on2, (unhide HE).1, (unhide HE).2.1, (unhide HE).2.2.1, (unhide HE).2.2.2.1, (unhide HE).2.2.2.2⟩
  · have hkb : (k != 0) = true := by simp [hk0]
    have HR := hide (show oneE (L, H, F) (ls, T, V) = ((L, H, F), k) from by have := oneE_code (L, H, F) (ls, T, V) (by rw [← hk]; exact hk0); rw [this]; simp only [← hk])
    have d1 := bW.trans (b1.mono bW.size)
    clear hk HAd
    go_wp2_with fail
    refine ⟨rfl, ?_⟩
    exact .inl ⟨k, hk0, unhide HR, rfl, d1⟩
end Go.Proofs.YtlboekimnhgfdaaGreat.Tab
