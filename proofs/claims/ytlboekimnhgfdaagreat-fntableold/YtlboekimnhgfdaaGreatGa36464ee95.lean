/- My own texts of one claim, laid together by program: RowsAdd, TabOne, GReg, TabOther. -/
import Derived.Test.YtlboekimnhgfdaaGreatG26ff8db5a8
import Derived.Test.YtlboekimnhgfdaaGreatG4d8bebc498
import Derived.Test.YtlboekimnhgfdaaGreatG2606c8666b
import Derived.Test.YtlboekimnhgfdaaGreatG0fdbb44230
import Derived.Test.YtlboekimnhgfdaaGreatG9027e713a9
import Derived.Test.YtlboekimnhgfdaaGreatG5cddafb44b
import Derived.Test.YtlboekimnhgfdaaGreatG4824091ae2
import Derived.Test.YtlboekimnhgfdaaGreatG99fd1f4de8
import Derived.Deep.RegionHeld3
import Derived.Test.YtlboekimnhgfdaaGreatG817021f609
/- RowsAdd, of the program and of the model. -/
namespace Go.Proofs.YtlboekimnhgfdaaGreat.Row
open Go.RowKit Rw
set_option linter.unusedVariables false
attribute [local go_sem ↓] Go.wp_at_zero Go.wp_at_succ
/-- what RowsAdd answers -/
def radd (zs : List E) (ls : List Lab.E) (t v : Int) : List E × Bool :=
  if ok zs = true ∧ Lab.ok ls = true ∧ SampMath.inR t v = true then (match add zs (ls, [(t, v)]) with | some R => (R, true) | none => (zs, false)) else ([], false)
theorem one_ok (t v : Int) : SampMath.ok [(t, v)] = SampMath.inR t v := by
  simp [SampMath.ok, SampMath.okTo, SampMath.stepOk, SampMath.at']
theorem row_ok {ls : List Lab.E} {t v : Int} (h1 : Lab.ok ls = true) (h2 : SampMath.inR t v = true) : ok [(ls, [(t, v)])] = true := by
  rw [ok_iff]
  refine ⟨fun x hx => ?_, List.pairwise_singleton _ _, by simp⟩
  rw [List.mem_singleton.1 hx]
  unfold rowB
  rw [h1, one_ok, h2]
  rfl
theorem addAll_one (L : List E) (x : E) : addAll L [x] = add L x := by
  rw [addAll]
  cases add L x <;> rfl
theorem radd_yes {zs : List E} {ls : List Lab.E} {t v : Int} (h1 : ok zs = true) (h2 : Lab.ok ls = true) (h3 : SampMath.inR t v = true) : radd zs ls t v = match add zs (ls, [(t, v)]) with | some R => (R, true) | none => (zs, false) := by unfold radd; rw [if_pos ⟨h1, h2, h3⟩]
theorem radd_no {zs : List E} {ls : List Lab.E} {t v : Int} (h : ok zs = false ∨ Lab.ok ls = false ∨ SampMath.inR t v = false) : radd zs ls t v = ([], false) := by
  unfold radd
  rw [if_neg]
  rintro ⟨h1, h2, h3⟩
  rw [h1, h2, h3] at h
  simp at h
theorem join_one {zs : List E} {ls : List Lab.E} {t v : Int} (h1 : ok zs = true) (h2 : Lab.ok ls = true) (h3 : SampMath.inR t v = true) : join zs [(ls, [(t, v)])] = told (add zs (ls, [(t, v)])) := by
  unfold join; rw [if_pos ⟨h1, row_ok h2 h3⟩, addAll_one]
/-- a slice of a single row -/
theorem one_is {w : World} {B1 B2 : Nat} {u : Value} {ls : List Lab.E} {t v : Int} (hl : Lab.Is w u ls) (h1 : B1 = w.heap.size) (h2 : B2 = w.heap.size + 1) :
    Is ((w.alloc (.cells #[.int .i64 t, .int .i64 v] 106)).alloc (.cells #[u, .slice (some ⟨B1, 0, none⟩) 1 1] 93)) (.slice (some ⟨B2, 0, none⟩) 1 1) [(ls, [(t, v)])] := by
  subst h1 h2
  have hm : 1 ≤ maxLen := by unfold maxLen; omega
  have b1 : Below w.heap.size w (w.alloc (.cells #[.int .i64 t, .int .i64 v] 106)) := (Below.refl _ _).alloc (Nat.le_refl _) _
  have b2 : Below (w.alloc (.cells #[.int .i64 t, .int .i64 v] 106)).heap.size (w.alloc (.cells #[.int .i64 t, .int .i64 v] 106)) ((w.alloc (.cells #[.int .i64 t, .int .i64 v] 106)).alloc (.cells #[u, .slice (some ⟨w.heap.size, 0, none⟩) 1 1] 93)) := (Below.refl _ _).alloc (Nat.le_refl _) _
  have hs : Sam.Is (w.alloc (.cells #[.int .i64 t, .int .i64 v] 106)) (.slice (some ⟨w.heap.size, 0, none⟩) 1 1) [(t, v)] := lies_new (w := w) (cs := #[.int .i64 t, .int .i64 v]) (t := 106) (n := 1) (size := 2) rfl rfl hm
  refine ⟨[(u, .slice (some ⟨w.heap.size, 0, none⟩) 1 1)], rfl, lies_new (w := w.alloc (.cells #[.int .i64 t, .int .i64 v] 106)) (cs := #[u, .slice (some ⟨w.heap.size, 0, none⟩) 1 1]) (n := 1) (size := 2) (by simp) rfl hm, fun i hi => ?_⟩
  obtain rfl : i = 0 := by simp at hi; omega
  exact ⟨(hl.below b1).below b2, hs.below b2⟩
theorem good_one {ls : List Lab.E} {t v : Int} (h1 : Lab.ok ls = true) (h3 : SampMath.inR t v = true) : ∀ x ∈ ([(ls, [(t, v)])] : List E), good x := fine_good (fine_ok (row_ok h1 h3))
set_option maxRecDepth 100000 in
set_option maxHeartbeats 8000000 in
theorem impl_radd {w : World} {v u : Value} {zs : List E} {ls : List Lab.E} (T V : Int) (h : Is w v zs) (hg : ∀ x ∈ zs, good x) (hlen : zs.length ≤ maxLen) (hl : Lab.Is w u ls) (hlg : ∀ x ∈ ls, Lab.good x) :
    Calls Tryz.prog 124 #[v, u, .agg #[.int .i64 T, .int .i64 V]] w fun e w' => ∃ r, e = .returned (.tuple #[r, .bool (radd zs ls T V).2]) ∧ Own w.heap.size w'.heap.size w' r (radd zs ls T V).1 ∧ Below w.heap.size w w' := by
  obtain ⟨au, nu, qu, rfl⟩ : ∃ a n q, u = .slice a n q := by obtain ⟨-, a, q, e, -⟩ := hl; exact ⟨a, _, q, e⟩
  obtain ⟨wb, hwb⟩ : ∃ wb, wb = w.alloc (.cells #[.int .i64 T, .int .i64 V] 106) := ⟨_, rfl⟩
  have bb : Below w.heap.size w wb := by rw [hwb]; exact (Below.refl _ _).alloc (Nat.le_refl _) _
  have zb : w.heap.size < wb.heap.size := by rw [hwb]; simp
  have q0 : wb.cell? ⟨w.heap.size, 0, none⟩ = some (.int .i64 T) := by rw [hwb]; simp [go_sem]
  have q1 : wb.cell? ⟨w.heap.size, 1, none⟩ = some (.int .i64 V) := by rw [hwb]; simp [go_sem]
  have HO := hide (impl_ok (h.below bb) hg hlen)
  have HL := hide (fun W (hb : Below w.heap.size w W) => Lab.impl_ok (hl.below hb) hlg)
  have HC := hide (fun (hok : ok zs = true) W (hb : Below w.heap.size w W) => copy_any (h.below hb) hok)
  have HJ := hide (fun (h1 : ok zs = true) (h2 : Lab.ok ls = true) (h3 : SampMath.inR T V = true) W (hb : Below w.heap.size w W) => impl_join (w := (W.alloc (.cells #[.int .i64 T, .int .i64 V] 106)).alloc (.cells #[.slice au nu qu, .slice (some ⟨W.heap.size, 0, none⟩) 1 1] 93)) (h.below ((hb.alloc hb.size _).alloc (by simp; have := hb.size; omega) _)) (one_is (t := T) (v := V) (hl.below hb) rfl rfl) hg hlen (good_one h2 h3) (by simp [maxLen]))
  cases hok : ok zs
  · have HR := hide (radd_no (ls := ls) (t := T) (v := V) (.inl hok))
    rw [hok] at HO
    clear h hg hl hlg hok HC HJ HL
    go_enter Tryz.func124, Tryz.ntmps124
    go_wp2_with fail
    rw [← hwb]
    clear hwb
    refine (unhide HO).mono ?_
    rintro e w1 ⟨rfl, b1⟩
    have R1 := bb.trans (b1.mono bb.size)
    go_wp2_with fail
    go_ret2
    exact ⟨.slice none 0 0, by rw [unhide HR]; rfl, by rw [unhide HR]; exact own_nil w.heap.size w1, R1⟩
  cases hlo : Lab.ok ls
  · have HR := hide (radd_no (zs := zs) (t := T) (v := V) (.inr (.inl hlo)))
    rw [hok] at HO
    rw [hlo] at HL
    clear h hg hl hlg hok HC HJ hlo
    go_enter Tryz.func124, Tryz.ntmps124
    go_wp2_with fail
    rw [← hwb]
    clear hwb
    refine (unhide HO).mono ?_
    rintro e w1 ⟨rfl, b1⟩
    have R1 := bb.trans (b1.mono bb.size)
    go_wp2_with fail
    refine (unhide HL w1 R1).mono ?_
    rintro e w2 ⟨rfl, b2⟩
    have R2 := R1.trans (b2.mono R1.size)
    go_wp2_with fail
    go_ret2
    exact ⟨.slice none 0 0, by rw [unhide HR]; rfl, by rw [unhide HR]; exact own_nil w.heap.size w2, R2⟩
  cases hin : SampMath.inR T V
  · have HR := hide (radd_no (zs := zs) (ls := ls) (.inr (.inr hin)))
    rw [hok] at HO
    rw [hlo] at HL
    have HSm := hide (fun (W : World) => Samp.sampleOk_any T V W)
    rw [hin] at HSm
    clear h hg hl hlg hok HC HJ hlo hin
    go_enter Tryz.func124, Tryz.ntmps124
    go_wp2_with fail
    rw [← hwb]
    clear hwb
    refine (unhide HO).mono ?_
    rintro e w1 ⟨rfl, b1⟩
    have R1 := bb.trans (b1.mono bb.size)
    go_wp2_with fail
    refine (unhide HL w1 R1).mono ?_
    rintro e w2 ⟨rfl, b2⟩
    have R2 := R1.trans (b2.mono R1.size)
    have b12 := b1.trans (b2.mono b1.size)
    have q02 := (b12.cell (p := ⟨w.heap.size, 0, none⟩) zb).trans q0
    have q12 := (b12.cell (p := ⟨w.heap.size, 1, none⟩) zb).trans q1
    clear q0 q1
    go_wp2_with fail
    refine (unhide HSm w2).mono ?_
    rintro e w3 ⟨rfl, e3⟩
    have R3 : Below w.heap.size w w3 := by rw [e3]; exact R2.alloc R2.size _
    clear e3
    go_wp2_with fail
    go_ret2
    exact ⟨.slice none 0 0, by rw [unhide HR]; rfl, by rw [unhide HR]; exact own_nil w.heap.size w3, R3⟩
  have HR := hide (radd_yes hok hlo hin)
  rw [hok] at HO
  rw [hlo] at HL
  have HSm := hide (fun (W : World) => Samp.sampleOk_any T V W)
  rw [hin] at HSm
  have HJ1 := hide (fun W hb => unhide HJ hok hlo hin W hb)
  rw [join_one hok hlo hin] at HJ1
  have HC1 := hide (fun W hb => unhide HC hok W hb)
  clear h hg hl hlg hok HC HJ hlo hin
  go_enter Tryz.func124, Tryz.ntmps124
  go_wp2_with fail
  rw [← hwb]
  clear hwb
  refine (unhide HO).mono ?_
  rintro e w1 ⟨rfl, b1⟩
  have R1 := bb.trans (b1.mono bb.size)
  go_wp2_with fail
  refine (unhide HL w1 R1).mono ?_
  rintro e w2 ⟨rfl, b2⟩
  have R2 := R1.trans (b2.mono R1.size)
  have b12 := b1.trans (b2.mono b1.size)
  have q02 := (b12.cell (p := ⟨w.heap.size, 0, none⟩) zb).trans q0
  have q12 := (b12.cell (p := ⟨w.heap.size, 1, none⟩) zb).trans q1
  have zb2 := Nat.lt_of_lt_of_le zb b12.size
  clear q0 q1 b12 b1 b2 bb HL HO
  go_wp2_with fail
  refine (unhide HSm w2).mono ?_
  rintro e w3 ⟨rfl, e3⟩
  have b3 : Below w2.heap.size w2 w3 := by rw [e3]; exact (Below.refl _ _).alloc (Nat.le_refl _) _
  have R3 : Below w.heap.size w w3 := R2.trans (b3.mono R2.size)
  have q03 := (b3.cell (p := ⟨w.heap.size, 0, none⟩) zb2).trans q02
  have q13 := (b3.cell (p := ⟨w.heap.size, 1, none⟩) zb2).trans q12
  clear e3 q02 q12
  have zR := R3.size
  have HJ3 := hide (unhide HJ1 w3 R3)
  have HB3 := hide (show Below w.heap.size w ((w3.alloc (.cells #[.int .i64 T, .int .i64 V] 106)).alloc (.cells #[.slice au nu qu, .slice (some ⟨w3.heap.size, 0, none⟩) 1 1] 93)) from (R3.alloc zR _).alloc (by simp; omega) _)
  clear HJ1 HSm
  go_wp2_with fail
  refine (unhide HJ3).mono ?_
  rintro e w4 ⟨r, rfl, ho, b4⟩
  have R4 := (unhide HB3).trans (b4.mono (unhide HB3).size)
  have HOw := hide (own_wide ho (lo' := w.heap.size) (hi' := w4.heap.size) (unhide HB3).size (Nat.le_refl _) (Nat.le_refl _))
  obtain ⟨ra, rl, rq, rfl⟩ := ho.form
  clear ho b4 HJ3 HB3
  cases hadd : add zs (ls, [(T, V)]) with
  | none =>
    have HC4 := hide (unhide HC1 w4 R4)
    rw [hadd] at HR HOw
    clear HC1 hadd
    go_wp2_with fail
    refine (unhide HC4).mono ?_
    rintro e w5 ⟨r5, rfl, ho5, b5⟩
    have R5 := R4.trans (b5.mono R4.size)
    have HOw5 := hide (own_wide ho5 (lo' := w.heap.size) (hi' := w5.heap.size) R4.size (Nat.le_refl _) (Nat.le_refl _))
    obtain ⟨ra5, rl5, rq5, rfl⟩ := ho5.form
    clear ho5 b5 HC4 HOw
    go_wp2_with fail
    go_ret2
    exact ⟨.slice ra5 rl5 rq5, by rw [unhide HR]; rfl, by rw [unhide HR]; exact unhide HOw5, R5⟩
  | some R =>
    rw [hadd] at HR HOw
    clear HC1 hadd
    go_wp2_with fail
    go_ret2
    exact ⟨.slice ra rl rq, by rw [unhide HR]; rfl, by rw [unhide HR]; exact unhide HOw, R4⟩
end Go.Proofs.YtlboekimnhgfdaaGreat.Row

/- What is wrong with an entry, and whether another number is there: l6Code and l6Other of the model. -/
namespace Go.Proofs.YtlboekimnhgfdaaGreat.Tab
open Go.RowKit Rw
set_option linter.unusedVariables false
set_option linter.unusedSimpArgs false
attribute [local go_sem ↓] Go.wp_at_zero Go.wp_at_succ
def codeE (H F : Int) (ls : List Lab.E) (t v : Int) : Int := if Lab.ok ls = true then (if SampMath.inR t v = true then (if t < F ∨ t < H - 300 then 2 else 0) else 1) else 5
set_option maxRecDepth 100000 in
set_option maxHeartbeats 4000000 in
theorem l6code {w : World} {u : Value} {ls : List Lab.E} (av : Option Addr) (nv cv : Nat) (H F T V : Int) (hH : -1 ≤ H ∧ H ≤ 9999) (hl : Lab.Is w u ls) (hlg : ∀ x ∈ ls, Lab.good x) (hll : ls.length ≤ maxLen) :
    Calls Tryz.prog 116 #[.agg #[.slice av nv cv, .int .i64 H, .int .i64 F], .agg #[u, .int .i64 T, .int .i64 V]] w fun e w' => e = .returned (.int .i64 (codeE H F ls T V)) ∧ Below w.heap.size w w' := by
  obtain ⟨au, nu, qu, rfl⟩ : ∃ a n q, u = .slice a n q := by obtain ⟨-, a, q, e, -⟩ := hl; exact ⟨a, _, q, e⟩
  obtain ⟨W, hW⟩ : ∃ W, W = (w.alloc (.cells #[.slice av nv cv, .int .i64 H, .int .i64 F] 30)).alloc (.cells #[.slice au nu qu, .int .i64 T, .int .i64 V] 62) := ⟨_, rfl⟩
  have bW : Below w.heap.size w W := by rw [hW]; exact ((Below.refl _ _).alloc (Nat.le_refl _) _).alloc (by simp) _
  have zW : W.heap.size = w.heap.size + 1 + 1 := by rw [hW]; simp
  have q0 : W.cell? ⟨w.heap.size + 1, 0, none⟩ = some (.slice au nu qu) := by rw [hW]; simp [go_sem]
  have q1 : W.cell? ⟨w.heap.size + 1, 1, none⟩ = some (.int .i64 T) := by rw [hW]; simp [go_sem]
  have q2 : W.cell? ⟨w.heap.size + 1, 2, none⟩ = some (.int .i64 V) := by rw [hW]; simp [go_sem]
  have p1 : W.cell? ⟨w.heap.size, 1, none⟩ = some (.int .i64 H) := by rw [hW]; simp [go_sem]
  have p2 : W.cell? ⟨w.heap.size, 2, none⟩ = some (.int .i64 F) := by rw [hW]; simp [go_sem]
  have HK := hide (fun (X : World) (hb : Below W.heap.size W X) => And.intro ((hb.cell (p := ⟨w.heap.size + 1, 1, none⟩) (by show w.heap.size + 1 < _; omega)).trans q1) (And.intro ((hb.cell (p := ⟨w.heap.size + 1, 2, none⟩) (by show w.heap.size + 1 < _; omega)).trans q2) (And.intro ((hb.cell (p := ⟨w.heap.size, 1, none⟩) (by show w.heap.size < _; omega)).trans p1) ((hb.cell (p := ⟨w.heap.size, 2, none⟩) (by show w.heap.size < _; omega)).trans p2))))
  have hm : 1 ≤ maxLen := by unfold maxLen; omega
  have HL := hide (Lab.spec_ok (hl.below bW) hlg hll)
  have HSm := hide (fun (X : World) => Sam.l2ok (w := X.alloc (.cells #[.int .i64 T, .int .i64 V] 106)) (v := .slice (some ⟨X.heap.size, 0, none⟩) 1 1) (zs := [(T, V)]) (lies_new (w := X) (cs := #[.int .i64 T, .int .i64 V]) (t := 106) (n := 1) (size := 2) rfl rfl hm))
  rw [Row.one_ok] at HSm
  clear p1 p2 q1 q2 hl hlg hll hm
  cases hlo : Lab.ok ls
  · have HR := hide (show codeE H F ls T V = 5 by unfold codeE; rw [hlo]; rfl)
    rw [hlo] at HL
    clear hlo HSm
    go_enter Tryz.func116, Tryz.ntmps116
    go_wp2_with fail
    rw [← hW]
    clear hW
    refine (unhide HL).mono ?_
    rintro e w1 ⟨rfl, b1⟩
    have R1 := bW.trans (b1.mono bW.size)
    clear q0
    go_wp2_with fail
    go_ret
    exact ⟨by rw [unhide HR]; rfl, R1⟩
  rw [hlo] at HL
  cases hin : SampMath.inR T V
  · have HR := hide (show codeE H F ls T V = 1 by unfold codeE; rw [hlo, hin]; rfl)
    rw [hin] at HSm
    clear hlo hin
    go_enter Tryz.func116, Tryz.ntmps116
    go_wp2_with fail
    rw [← hW]
    clear hW
    refine (unhide HL).mono ?_
    rintro e w1 ⟨rfl, b1⟩
    have R1 := bW.trans (b1.mono bW.size)
    obtain ⟨t1, t2, -, -⟩ := unhide HK w1 b1
    clear q0
    go_wp2_with fail
    refine (unhide HSm w1).mono ?_
    rintro e w2 ⟨rfl, b2⟩
    have R2 := (R1.alloc R1.size _).trans (b2.mono (R1.alloc R1.size _).size)
    clear t1 t2
    go_wp2_with fail
    go_ret
    exact ⟨by rw [unhide HR]; rfl, R2⟩
  rw [hin] at HSm
  obtain ⟨D, hD⟩ : ∃ D, H - 300 = D := ⟨_, rfl⟩
  have v1 : wrap64 D = D := IntWalk.wrap64_in D ⟨by omega, by omega⟩
  have HRy := hide (fun (h : T < F ∨ T < D) => show codeE H F ls T V = 2 by unfold codeE; rw [hlo, hin, if_pos rfl, if_pos rfl, if_pos (by rw [hD]; exact h)])
  have HRn := hide (fun (h : ¬ (T < F ∨ T < D)) => show codeE H F ls T V = 0 by unfold codeE; rw [hlo, hin, if_pos rfl, if_pos rfl, if_neg (by rw [hD]; exact h)])
  clear hlo hin
  go_enter Tryz.func116, Tryz.ntmps116
  go_wp2_with fail
  rw [← hW]
  clear hW
  refine (unhide HL).mono ?_
  rintro e w1 ⟨rfl, b1⟩
  have R1 := bW.trans (b1.mono bW.size)
  obtain ⟨t1, t2, -, -⟩ := unhide HK w1 b1
  clear q0
  go_wp2_with fail
  refine (unhide HSm w1).mono ?_
  rintro e w2 ⟨rfl, b2⟩
  have R2 := (R1.alloc R1.size _).trans (b2.mono (R1.alloc R1.size _).size)
  have b12 := (b1.alloc b1.size (.cells #[.int .i64 T, .int .i64 V] 106)).trans (b2.mono (b1.alloc b1.size _).size)
  obtain ⟨t1', t2', t3', t4'⟩ := unhide HK w2 b12
  clear t1 t2 b12 b1 b2
  by_cases h1 : T < F
  · have HR := hide (unhide HRy (.inl h1))
    go_wp2_with fail
    go_ret
    exact ⟨by rw [unhide HR]; rfl, R2⟩
  have n1 : decide (T < F) = false := decide_eq_false h1
  by_cases h2 : T < D
  · have HR := hide (unhide HRy (.inr h2))
    go_wp2_with fail
    go_ret
    exact ⟨by rw [unhide HR]; rfl, R2⟩
  have n2 : decide (T < D) = false := decide_eq_false h2
  have HR := hide (unhide HRn (by omega))
  go_wp2_with fail
  go_ret
  exact ⟨by rw [unhide HR]; rfl, R2⟩
end Go.Proofs.YtlboekimnhgfdaaGreat.Tab

/- A region that draws its order, walked operation by operation: what is wanted and yields, what is not wanted, what is carried out alone. No condition. -/
namespace Go.Proofs.YtlboekimnhgfdaaGreat.Grl
open Go.RowKit
section
variable {P : Program} {l : List Oper} {Q : Exit → Act → World → Prop} {md : Region.Mode} {S : World → Prop}
theorem yes (i : Nat) {oi : Oper} {v : Value} {fuel : Nat} {listed : Array Bool} {a : Act} {w : World} (hi : l[i]? = some oi)
    (hs : Region.noSelect l.toArray = true) (hf : Region.free md l.toArray listed i = true) (hr : (Region.ready md l.toArray listed).contains i = true)
    (hQ : ∀ c a w, Q (.panic c) (a.put oi.dst v) w → Q (.panic c) a w) (hw : Region.wanted oi (yielded l.toArray a.tmps) = true) (hy : ∀ w, S w → (execOp a.eval oi).run P w = .ok (.value v) w) (hS : S w)
    (h : wpAnyH P md l.toArray Q S fuel (listed.setIfInBounds i true) (a.put oi.dst v) w) : wpAnyH P md l.toArray Q S (fuel + 1) listed a w :=
  wpAnyH_take (by simpa using hi) hs hf hr hQ (.inl ⟨hw, hy⟩) hS h
theorem no (i : Nat) {oi : Oper} {fuel : Nat} {listed : Array Bool} {a : Act} {w : World} (hi : l[i]? = some oi)
    (hs : Region.noSelect l.toArray = true) (hf : Region.free md l.toArray listed i = true) (hr : (Region.ready md l.toArray listed).contains i = true)
    (hQ : ∀ c a w, Q (.panic c) (a.put oi.dst undef) w → Q (.panic c) a w) (hw : Region.wanted oi (yielded l.toArray a.tmps) = false) (hS : S w)
    (h : wpAnyH P md l.toArray Q S fuel (listed.setIfInBounds i true) (a.put oi.dst undef) w) : wpAnyH P md l.toArray Q S (fuel + 1) listed a w :=
  wpAnyH_take (by simpa using hi) hs hf hr hQ (.inr ⟨hw, rfl⟩) hS h
theorem one (i : Nat) {o : Oper} {fuel : Nat} {listed : Array Bool} {a : Act} {w : World} (hi : l[i]? = some o) (hr : Region.ready md l.toArray listed = [i])
    (h : ∀ K' : Act → World → Prop, Shut (∀ a w, S w → (S w → wpAnyH P md l.toArray Q S fuel (listed.setIfInBounds i true) a w) → K' a w) → if Region.wanted o (yielded l.toArray a.tmps) = true then Oper.wp P o a w K' Q else K' (a.put o.dst undef) w) :
    wpAnyH P md l.toArray Q S (fuel + 1) listed a w :=
  wpAnyH_ready hr (by simp) (AllReadyH.cons (by simpa using hi) h AllReadyH.nil)
theorem two (i j : Nat) {oi oj : Oper} {fuel : Nat} {listed : Array Bool} {a : Act} {w : World} (hi : l[i]? = some oi) (hj : l[j]? = some oj) (hr : Region.ready md l.toArray listed = [i, j])
    (h1 : ∀ K' : Act → World → Prop, Shut (∀ a w, S w → (S w → wpAnyH P md l.toArray Q S fuel (listed.setIfInBounds i true) a w) → K' a w) → if Region.wanted oi (yielded l.toArray a.tmps) = true then Oper.wp P oi a w K' Q else K' (a.put oi.dst undef) w)
    (h2 : ∀ K' : Act → World → Prop, Shut (∀ a w, S w → (S w → wpAnyH P md l.toArray Q S fuel (listed.setIfInBounds j true) a w) → K' a w) → if Region.wanted oj (yielded l.toArray a.tmps) = true then Oper.wp P oj a w K' Q else K' (a.put oj.dst undef) w) :
    wpAnyH P md l.toArray Q S (fuel + 1) listed a w :=
  wpAnyH_ready hr (by simp) (AllReadyH.cons (by simpa using hi) h1 (AllReadyH.cons (by simpa using hj) h2 AllReadyH.nil))
theorem start {id : Nat} {a : Act} {w : World} (hm : P.follows .mixedOrders = true) (hS : S w.drew)
    (h : S w.drew → wpAnyH P .any l.toArray Q S l.length (Array.replicate l.length false) a w.drew) : (Code.region id l.toArray true).wp P Q a w :=
  wp_region_held_drew hm hS (by simpa using h)
end
theorem wrap_ok {n : Int} (h0 : -4611686018427387904 ≤ n) (h1 : n ≤ 4611686018427387904) : IntKind.i64.wrap n = n := by
  have hb : (2 : Int) ^ IntKind.i64.bits = 18446744073709551616 := by decide
  have hb' : (2 : Int) ^ (IntKind.i64.bits - 1) = 9223372036854775808 := by decide
  unfold IntKind.wrap
  simp only [hb, hb']
  have hs : IntKind.i64.signed = true := rfl
  simp only [hs, Bool.true_and, decide_eq_true_eq]
  split <;> omega
end Go.Proofs.YtlboekimnhgfdaaGreat.Grl

/- Whether another number is there: l6Other of the model. -/
namespace Go.Proofs.YtlboekimnhgfdaaGreat.Tab
open Go.RowKit Rw
set_option linter.unusedVariables false
set_option linter.unusedSimpArgs false
attribute [local go_sem ↓] Go.wp_at_zero Go.wp_at_succ
def otherE (L : List Row.E) (ls : List Lab.E) (t v : Int) : Bool := Row.there L ls && (match Samp.cutL (Row.at' L (Row.place L ls)).2 t (t + 1) with | [] => false | x :: _ => decide (x.2 ≠ v))
set_option maxRecDepth 100000 in
set_option maxHeartbeats 8000000 in
theorem l6other {w : World} {v u : Value} {L : List Row.E} {ls : List Lab.E} (T V : Int) (h : Row.Is w v L) (hok : Row.ok L = true) (hl : Lab.Is w u ls) (hT : 0 ≤ T ∧ T ≤ 9999) :
    Calls Tryz.prog 117 #[v, .agg #[u, .int .i64 T, .int .i64 V]] w fun e w' => e = .returned (.bool (otherE L ls T V)) ∧ Below w.heap.size w w' := by
  obtain ⟨au, nu, qu, rfl⟩ : ∃ a n q, u = .slice a n q := by obtain ⟨-, a, q, e, -⟩ := hl; exact ⟨a, _, q, e⟩
  obtain ⟨va, vq, rfl⟩ : ∃ a q, v = .slice a L.length q := by obtain ⟨cs, -, hL, -⟩ := id h; obtain ⟨-, a, q, e, -⟩ := hL; exact ⟨a, q, e⟩
  obtain ⟨W, hW⟩ : ∃ W, W = w.alloc (.cells #[.slice au nu qu, .int .i64 T, .int .i64 V] 62) := ⟨_, rfl⟩
  have bW : Below w.heap.size w W := by rw [hW]; exact (Below.refl _ _).alloc (Nat.le_refl _) _
  have zW : W.heap.size = w.heap.size + 1 := by rw [hW]; simp
  have q0 : W.cell? ⟨w.heap.size, 0, none⟩ = some (.slice au nu qu) := by rw [hW]; simp [go_sem]
  have q1 : W.cell? ⟨w.heap.size, 1, none⟩ = some (.int .i64 T) := by rw [hW]; simp [go_sem]
  have q2 : W.cell? ⟨w.heap.size, 2, none⟩ = some (.int .i64 V) := by rw [hW]; simp [go_sem]
  have HK := hide (fun (X : World) (hb : Below W.heap.size W X) => And.intro ((hb.cell (p := ⟨w.heap.size, 1, none⟩) (by show w.heap.size < _; omega)).trans q1) ((hb.cell (p := ⟨w.heap.size, 2, none⟩) (by show w.heap.size < _; omega)).trans q2))
  have hn10 := Row.ok_len hok
  have HAt := hide (Row.l5at (h.below bW) (hl.below bW) (by omega))
  have HW1 := hide (h.below bW)
  have hncap : L.length ≤ vq ∧ vq ≤ 9223372036854775807 := by
    obtain ⟨cs, -, hL, -⟩ := id h
    obtain ⟨-, a', q', e, h1, h2, -⟩ := hL
    simp only [Value.slice.injEq, true_and] at e
    unfold maxLen at h2
    omega
  obtain ⟨n, hn⟩ : ∃ n, n = L.length := ⟨_, rfl⟩
  have HN := hide hn
  have HView := hide (fun k (hk : k < L.length) => Row.view_at (h.below bW) hok hk)
  have HOk := hide hok
  rw [← hn] at HAt HView hn10 hncap ⊢
  clear q1 q2 h hl hn hok
  cases ht : Row.there L ls
  · have HR := hide (show otherE L ls T V = false by unfold otherE; rw [ht]; rfl)
    rw [ht] at HAt
    clear ht
    go_enter Tryz.func117, Tryz.ntmps117
    go_wp2_with fail
    rw [← hW]
    clear hW
    refine (unhide HAt).mono ?_
    rintro e w1 ⟨rfl, b1⟩
    have R1 := bW.trans (b1.mono bW.size)
    clear q0
    go_wp2_with fail
    go_ret
    exact ⟨by rw [unhide HR]; rfl, R1⟩
  rw [ht] at HAt
  have hkn : Row.place L ls < n := by
    rw [unhide HN]
    unfold Row.there at ht
    simp only [Bool.and_eq_true, decide_eq_true_eq] at ht
    exact ht.1
  have HR := hide (show otherE L ls T V = (match Samp.cutL (Row.at' L (Row.place L ls)).2 T (T + 1) with | [] => false | x :: _ => decide (x.2 ≠ V)) by unfold otherE; rw [ht]; rfl)
  obtain ⟨k, hk⟩ : ∃ k, k = Row.place L ls := ⟨_, rfl⟩
  rw [← hk] at HAt hkn HR
  clear ht hk
  obtain ⟨b, off, rfl, p0, ll, q0', b1, o1, m, q1, hA⟩ := unhide HView k hkn
  have hk0 : (0 : Int) ≤ (k : Int) := Int.natCast_nonneg _
  have hk1 : (k : Int) < (n : Int) := by omega
  have HA := hide hA
  have HSam := hide (show Sam.Is W (.slice (some ⟨b1, o1, none⟩) m q1) (Row.at' L k).2 from by
    obtain ⟨cs, hcs, hLi, hE⟩ := unhide HW1
    obtain ⟨-, a', cap', e, hc, hmx, -, hr⟩ := hLi
    simp only [Value.slice.injEq] at e
    obtain ⟨b', off', e', hbl, hcells⟩ := hr (by rw [← unhide HN]; omega)
    rw [← e.1] at e'
    simp only [Option.some.injEq, Addr.mk.injEq, and_true] at e'
    obtain ⟨rfl, rfl⟩ := e'
    have fa := Row.flat_at cs k (by rw [hcs, ← unhide HN]; exact hkn)
    have hc1 := hcells (k * 2 + 1) _ fa.2
    have hEk := (hE k (by rw [← unhide HN]; exact hkn)).2
    have hc1' := hA.c1
    rw [Nat.add_assoc] at hc1'
    rw [hc1'] at hc1
    have := Option.some.inj hc1
    rw [this]
    exact hEk)
  have hSam := unhide HSam
  have hst := Row.step_is (Row.ok_at (unhide HOk) (show k < L.length by rw [← unhide HN]; exact hkn))
  have g1 := hA.le
  have g2 := hA.mx
  have g3 := hA.m9
  go_enter Tryz.func117, Tryz.ntmps117
  go_wp2_with fail
  rw [← hW]
  clear hW
  refine (unhide HAt).mono ?_
  rintro e w1 ⟨rfl, b1x⟩
  have R1 := bW.trans (b1x.mono bW.size)
  have hz1 := b1x.size
  have b1d : Below W.heap.size W w1.drew := b1x.drew
  have hc1d := ((unhide HA).below b1d).c1
  have ht1d := (unhide HK w1.drew b1d).1
  have hxne : (Row.at' L k).2 ≠ [] := fun e => by have := hst.2.1; rw [e] at this; simp at this
  have HCut := hide (Samp.l2cut T (T + 1) (Row.smp_of_lies (hSam.below b1d) hxne) (by have := hst.2.2.1; omega))
  obtain ⟨C, hC⟩ : ∃ C, C = Samp.cutL (Row.at' L k).2 T (T + 1) := ⟨_, rfl⟩
  rw [← hC] at HCut HR
  have hT1 := Grl.wrap_ok (n := T + 1) (by omega) (by omega)
  have HS5 := hide (fun (X : World) (hb : Below w1.drew.heap.size w1.drew X) => show (fun X => X.cell? ⟨b, off + k * 2 + 1, none⟩ = some (.slice (some ⟨b1, o1, none⟩) m q1) ∧ X.cell? ⟨w.heap.size, 1, none⟩ = some (.int .i64 T)) X from ⟨((unhide HA).below (b1d.trans (hb.mono b1d.size))).c1, (unhide HK X (b1d.trans (hb.mono b1d.size))).1⟩)
  clear hC hA q0 hst hxne hSam HSam HAt HView
  go_wp2_with fail
  refine Grl.start (S := fun X => X.cell? ⟨b, off + k * 2 + 1, none⟩ = some (.slice (some ⟨b1, o1, none⟩) m q1) ∧ X.cell? ⟨w.heap.size, 1, none⟩ = some (.int .i64 T)) (by kernel_rfl) (by exact ⟨hc1d, ht1d⟩) (fun hHeld => ?_)
  refine Grl.yes 0 (v := ?_) rfl (by kernel_rfl) (by kernel_rfl) (by kernel_rfl) (fun _ _ _ h => h) (by kernel_rfl) ?_ (by assumption) ?_
  rotate_left
  · (intro w hSw; (try dsimp only at hSw); go_simp; try with_reducible rfl)
  simp only [Act.put, List.setIfInBounds_toArray, List.set_cons_zero, List.set_cons_succ]
  refine Grl.yes 1 (v := ?_) rfl (by kernel_rfl) (by kernel_rfl) (by kernel_rfl) (fun _ _ _ h => h) (by kernel_rfl) ?_ (by assumption) ?_
  rotate_left
  · (intro w hSw; (try dsimp only at hSw); go_simp; try with_reducible rfl)
  simp only [Act.put, List.setIfInBounds_toArray, List.set_cons_zero, List.set_cons_succ]
  refine Grl.yes 2 (v := ?_) rfl (by kernel_rfl) (by kernel_rfl) (by kernel_rfl) (fun _ _ _ h => h) (by kernel_rfl) ?_ (by assumption) ?_
  rotate_left
  · (intro w hSw; (try dsimp only at hSw); go_simp; try with_reducible rfl)
  simp only [Act.put, List.setIfInBounds_toArray, List.set_cons_zero, List.set_cons_succ]
  refine Grl.yes 3 (v := ?_) rfl (by kernel_rfl) (by kernel_rfl) (by kernel_rfl) (fun _ _ _ h => h) (by kernel_rfl) ?_ (by assumption) ?_
  rotate_left
  · (intro w hSw; (try dsimp only at hSw); go_simp; try with_reducible rfl)
  simp only [Act.put, List.setIfInBounds_toArray, List.set_cons_zero, List.set_cons_succ]
  refine Grl.yes 4 (v := ?_) rfl (by kernel_rfl) (by kernel_rfl) (by kernel_rfl) (fun _ _ _ h => h) (by kernel_rfl) ?_ (by assumption) ?_
  rotate_left
  · (intro w hSw; (try dsimp only at hSw); go_simp; try with_reducible rfl)
  simp only [Act.put, List.setIfInBounds_toArray, List.set_cons_zero, List.set_cons_succ]
  refine Grl.yes 5 (v := ?_) rfl (by kernel_rfl) (by kernel_rfl) (by kernel_rfl) (fun _ _ _ h => h) (by kernel_rfl) ?_ (by assumption) ?_
  rotate_left
  · (intro w hSw; (try dsimp only at hSw); go_simp; try with_reducible rfl)
  simp only [Act.put, List.setIfInBounds_toArray, List.set_cons_zero, List.set_cons_succ]
  refine Grl.yes 6 (v := ?_) rfl (by kernel_rfl) (by kernel_rfl) (by kernel_rfl) (fun _ _ _ h => h) (by kernel_rfl) ?_ (by assumption) ?_
  rotate_left
  · (intro w hSw; (try dsimp only at hSw); go_simp; try with_reducible rfl)
  simp only [Act.put, List.setIfInBounds_toArray, List.set_cons_zero, List.set_cons_succ]
  refine Grl.yes 7 (v := ?_) rfl (by kernel_rfl) (by kernel_rfl) (by kernel_rfl) (fun _ _ _ h => h) (by kernel_rfl) ?_ (by assumption) ?_
  rotate_left
  · (intro w hSw; (try dsimp only at hSw); go_simp; try with_reducible rfl)
  simp only [Act.put, List.setIfInBounds_toArray, List.set_cons_zero, List.set_cons_succ]
  refine Grl.yes 8 (v := ?_) rfl (by kernel_rfl) (by kernel_rfl) (by kernel_rfl) (fun _ _ _ h => h) (by kernel_rfl) ?_ (by assumption) ?_
  rotate_left
  · (intro w hSw; (try dsimp only at hSw); go_simp; try with_reducible rfl)
  simp only [Act.put, List.setIfInBounds_toArray, List.set_cons_zero, List.set_cons_succ]
  refine Grl.yes 9 (v := ?_) rfl (by kernel_rfl) (by kernel_rfl) (by kernel_rfl) (fun _ _ _ h => h) (by kernel_rfl) ?_ (by assumption) ?_
  rotate_left
  · (intro w hSw; (try dsimp only at hSw); go_simp; try with_reducible rfl)
  simp only [Act.put, List.setIfInBounds_toArray, List.set_cons_zero, List.set_cons_succ]
  refine Grl.one 10 rfl (by kernel_rfl) (fun K hK => ?_)
  go_simp
  go_wp2_with (refine (unhide HCut).mono ?_; rintro e w5 ⟨vc, rfl, oc, b5⟩; obtain ⟨ac, qc, rfl⟩ : ∃ a q, vc = .slice a C.length q := (by obtain ⟨-, a, q, e, -⟩ := lies_of_own oc; exact ⟨a, q, e⟩); have hs5 : (fun X => X.cell? ⟨b, off + k * 2 + 1, none⟩ = some (.slice (some ⟨b1, o1, none⟩) m q1) ∧ X.cell? ⟨w.heap.size, 1, none⟩ = some (.int .i64 T)) w5 := (unhide HS5 w5 b5))
  refine hK.out _ _ (by exact hs5) (fun hHeld => ?_)
  clear hK K
  refine Grl.yes 11 (v := ?_) rfl (by kernel_rfl) (by kernel_rfl) (by kernel_rfl) (fun _ _ _ h => h) (by kernel_rfl) ?_ (by assumption) ?_
  rotate_left
  · (intro w hSw; (try dsimp only at hSw); go_simp; try with_reducible rfl)
  simp only [Act.put, List.setIfInBounds_toArray, List.set_cons_zero, List.set_cons_succ]
  refine wpAnyH_done (by kernel_rfl) ?_ _
  have R5 := R1.drew.trans (b5.mono R1.drew.size)
  have b15 := b1d.trans (b5.mono b1d.size)
  have ht2 := (unhide HK w5 b15).2
  have hzw : w.heap.size < w5.heap.size := by have := b15.size; omega
  clear HS5 hs5 hc1d ht1d
  rcases C with _ | ⟨⟨T', V'⟩, C⟩
  · clear oc b5 HCut
    have hne := cls_nonempty w5.heap.size w5
    go_wp2_with fail
    refine region_cls (by kernel_rfl) (by kernel_rfl) ?_
    repeat (go_big_quiet_step (fail))
    refine wpQuiet_nil ?_
    rintro w7 ⟨⟨_, hq⟩, rfl⟩
    have R7 := R5.trans (hq.mono R5.size)
    go_wp2
    go_ret
    exact ⟨by rw [unhide HR]; rfl, R7⟩
  · have hlc : ((T', V') :: C).length = C.length + 1 := rfl
    rw [hlc] at oc ⊢
    obtain ⟨cn, hcn⟩ : ∃ c, c = C.length := ⟨_, rfl⟩
    rw [← hcn] at oc ⊢
    obtain ⟨-, a', q', e', hc', hm', -, hr'⟩ := lies_of_own oc
    simp only [Value.slice.injEq, true_and] at e'
    obtain ⟨rfl, rfl⟩ := e'
    obtain ⟨gc, oc', rfl, hgc, hcells⟩ := hr' (by omega)
    unfold maxLen at hm'
    have hV' : w5.cell? ⟨gc, oc' + 1, none⟩ = some (.int .i64 V') := hcells 1 _ rfl
    have k1 : ∀ x : Cls w5.heap.size w5, x.val.cell? ⟨gc, oc' + 1, none⟩ = some (.int .i64 V') := fun x => by rw [x.cell hgc]; exact hV'
    have k2 : ∀ x : Cls w5.heap.size w5, x.val.cell? ⟨w.heap.size, 2, none⟩ = some (.int .i64 V) := fun x => by rw [x.cell hzw]; exact ht2
    have hcn0 : (0 : Int) < (cn : Int) + 1 := by omega
    have hne := cls_nonempty w5.heap.size w5
    clear oc b5 HCut hcells hr' hcn hlc hV' ht2
    go_wp2_with fail
    refine region_cls (by kernel_rfl) (by kernel_rfl) ?_
    repeat (go_big_quiet_step (fail))
    refine wpQuiet_nil ?_
    rintro w7 ⟨⟨_, hq⟩, rfl⟩
    have R7 := R5.trans (hq.mono R5.size)
    clear k1 k2 hne
    go_wp2
    go_ret
    exact ⟨by rw [unhide HR]; by_cases hvv : V' = V <;> simp [hvv], R7⟩
end Go.Proofs.YtlboekimnhgfdaaGreat.Tab
