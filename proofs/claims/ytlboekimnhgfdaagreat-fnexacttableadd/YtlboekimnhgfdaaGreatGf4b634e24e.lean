/- My own texts of one claim, laid together by program: TabOne, GReg, TabOther, TabOneE. -/
import Derived.Test.YtlboekimnhgfdaaGreatGf7ca62e939
import Derived.Test.YtlboekimnhgfdaaGreatGaf7de35f46
import Derived.Test.YtlboekimnhgfdaaGreatG3314a58633
import Derived.Test.YtlboekimnhgfdaaGreatGca9424efef
import Derived.Test.YtlboekimnhgfdaaGreatGff8a48f01d
import Derived.Test.YtlboekimnhgfdaaGreatG99fd1f4de8
import Derived.Deep.RegionHeld3
import Derived.Test.YtlboekimnhgfdaaGreatG32b7cddec7
/- What is wrong with an entry, and whether another number is there: l6Code and l6Other of the model. -/
namespace Go.Proofs.YtlboekimnhgfdaaGreat.Tab
open Go.RowKit Rw
set_option linter.unusedVariables false
set_option linter.unusedSimpArgs false
attribute [local go_sem ↓] Go.wp_at_zero Go.wp_at_succ
def codeE (H F : Int) (ls : List Lab.E) (t v : Int) : Int := if Lab.ok ls = true then (if SampMath.inR t v = true then (if t < F ∨ t < H - 300 then 2 else 0) else 1) else 5
set_option maxRecDepth 100000 in
set_option maxHeartbeats 4000000 in
theorem l6code {w : World} {u : Value} {ls : List Lab.E} (av : Option Addr) (nv cv : Nat) (H F T V : Int) (hH : -1 ≤ H ∧ H ≤ 9999) (hl : Lab.Is w u ls) (hlg : ∀ x ∈ ls, Lab.good x) (hll : ls.length ≤ maxLen) :
    Calls Tryz.prog 116 #[.agg #[.slice av nv cv, .int .i64 H, .int .i64 F], .agg #[u, .int .i64 T, .int .i64 V]] w fun e w' => e = .returned (.int .i64 (codeE H F ls T V)) ∧ Below w.heap.size w w' := by
  obtain ⟨au, nu, qu, rfl⟩ : ∃ a n q, u = .slice a n q := by obtain ⟨-, a, q, e, -⟩ := hl; exact ⟨a, _, q, e⟩
  obtain ⟨W, hW⟩ : ∃ W, W = (w.alloc (.cells #[.slice av nv cv, .int .i64 H, .int .i64 F] 30)).alloc (.cells #[.slice au nu qu, .int .i64 T, .int .i64 V] 62) := ⟨_, rfl⟩
  have bW : Below w.heap.size w W := by rw [hW]; exact ((Below.refl _ _).alloc (Nat.le_refl _) _).alloc (by simp) _
  have zW : W.heap.size = w.heap.size + 1 + 1 := by rw [hW]; simp
  have q0 : W.cell? ⟨w.heap.size + 1, 0, none⟩ = some (.slice au nu qu) := by rw [hW]; simp [go_sem]
  have q1 : W.cell? ⟨w.heap.size + 1, 1, none⟩ = some (.int .i64 T) := by rw [hW]; simp [go_sem]
  have q2 : W.cell? ⟨w.heap.size + 1, 2, none⟩ = some (.int .i64 V) := by rw [hW]; simp [go_sem]
  have p1 : W.cell? ⟨w.heap.size, 1, none⟩ = some (.int .i64 H) := by rw [hW]; simp [go_sem]
  have p2 : W.cell? ⟨w.heap.size, 2, none⟩ = some (.int .i64 F) := by rw [hW]; simp [go_sem]
  have HK := hide (fun (X : World) (hb : Below W.heap.size W X) => And.intro ((hb.cell (p := ⟨w.heap.size + 1, 1, none⟩) (by show w.heap.size + 1 < _; omega)).trans q1) (And.intro ((hb.cell (p := ⟨w.heap.size + 1, 2, none⟩) (by show w.heap.size + 1 < _; omega)).trans q2) (And.intro ((hb.cell (p := ⟨w.heap.size, 1, none⟩) (by show w.heap.size < _; omega)).trans p1) ((hb.cell (p := ⟨w.heap.size, 2, none⟩) (by show w.heap.size < _; omega)).trans p2))))
  have hm : 1 ≤ maxLen := by unfold maxLen; omega
  have HL := hide (Lab.spec_ok (hl.below bW) hlg hll)
  have HSm := hide (fun (X : World) => Sam.l2ok (w := X.alloc (.cells #[.int .i64 T, .int .i64 V] 106)) (v := .slice (some ⟨X.heap.size, 0, none⟩) 1 1) (zs := [(T, V)]) (lies_new (w := X) (cs := #[.int .i64 T, .int .i64 V]) (t := 106) (n := 1) (size := 2) rfl rfl hm))
  rw [Row.one_ok] at HSm
  clear p1 p2 q1 q2 hl hlg hll hm
  cases hlo : Lab.ok ls
  · have HR := hide (show codeE H F ls T V = 5 by unfold codeE; rw [hlo]; rfl)
    rw [hlo] at HL
    clear hlo HSm
    go_enter Tryz.func116, Tryz.ntmps116
    go_wp2_with fail
    rw [← hW]
    clear hW
    refine (unhide HL).mono ?_
    rintro e w1 ⟨rfl, b1⟩
    have R1 := bW.trans (b1.mono bW.size)
    clear q0
    go_wp2_with fail
    go_ret
    exact ⟨by rw [unhide HR]; rfl, R1⟩
  rw [hlo] at HL
  cases hin : SampMath.inR T V
  · have HR := hide (show codeE H F ls T V = 1 by unfold codeE; rw [hlo, hin]; rfl)
    rw [hin] at HSm
    clear hlo hin
    go_enter Tryz.func116, Tryz.ntmps116
    go_wp2_with fail
    rw [← hW]
    clear hW
    refine (unhide HL).mono ?_
    rintro e w1 ⟨rfl, b1⟩
    have R1 := bW.trans (b1.mono bW.size)
    obtain ⟨t1, t2, -, -⟩ := unhide HK w1 b1
    clear q0
    go_wp2_with fail
    refine (unhide HSm w1).mono ?_
    rintro e w2 ⟨rfl, b2⟩
    have R2 := (R1.alloc R1.size _).trans (b2.mono (R1.alloc R1.size _).size)
    clear t1 t2
    go_wp2_with fail
    go_ret
    exact ⟨by rw [unhide HR]; rfl, R2⟩
  rw [hin] at HSm
  obtain ⟨D, hD⟩ : ∃ D, H - 300 = D := ⟨_, rfl⟩
  have v1 : wrap64 D = D := IntWalk.wrap64_in D ⟨by omega, by omega⟩
  have HRy := hide (fun (h : T < F ∨ T < D) => show codeE H F ls T V = 2 by unfold codeE; rw [hlo, hin, if_pos rfl, if_pos rfl, if_pos (by rw [hD]; exact h)])
  have HRn := hide (fun (h : ¬ (T < F ∨ T < D)) => show codeE H F ls T V = 0 by unfold codeE; rw [hlo, hin, if_pos rfl, if_pos rfl, if_neg (by rw [hD]; exact h)])
  clear hlo hin
  go_enter Tryz.func116, Tryz.ntmps116
  go_wp2_with fail
  rw [← hW]
  clear hW
  refine (unhide HL).mono ?_
  rintro e w1 ⟨rfl, b1⟩
  have R1 := bW.trans (b1.mono bW.size)
  obtain ⟨t1, t2, -, -⟩ := unhide HK w1 b1
  clear q0
  go_wp2_with fail
  refine (unhide HSm w1).mono ?_
  rintro e w2 ⟨rfl, b2⟩
  have R2 := (R1.alloc R1.size _).trans (b2.mono (R1.alloc R1.size _).size)
  have b12 := (b1.alloc b1.size (.cells #[.int .i64 T, .int .i64 V] 106)).trans (b2.mono (b1.alloc b1.size _).size)
  obtain ⟨t1', t2', t3', t4'⟩ := unhide HK w2 b12
  clear t1 t2 b12 b1 b2
  by_cases h1 : T < F
  · have HR := hide (unhide HRy (.inl h1))
    go_wp2_with fail
    go_ret
    exact ⟨by rw [unhide HR]; rfl, R2⟩
  have n1 : decide (T < F) = false := decide_eq_false h1
  by_cases h2 : T < D
  · have HR := hide (unhide HRy (.inr h2))
    go_wp2_with fail
    go_ret
    exact ⟨by rw [unhide HR]; rfl, R2⟩
  have n2 : decide (T < D) = false := decide_eq_false h2
  have HR := hide (unhide HRn (by omega))
  go_wp2_with fail
  go_ret
  exact ⟨by rw [unhide HR]; rfl, R2⟩
end Go.Proofs.YtlboekimnhgfdaaGreat.Tab

/- A region that draws its order, walked operation by operation: what is wanted and yields, what is not wanted, what is carried out alone. No condition. -/
namespace Go.Proofs.YtlboekimnhgfdaaGreat.Grl
open Go.RowKit
section
variable {P : Program} {l : List Oper} {Q : Exit → Act → World → Prop} {md : Region.Mode} {S : World → Prop}
theorem yes (i : Nat) {oi : Oper} {v : Value} {fuel : Nat} {listed : Array Bool} {a : Act} {w : World} (hi : l[i]? = some oi)
    (hs : Region.noSelect l.toArray = true) (hf : Region.free md l.toArray listed i = true) (hr : (Region.ready md l.toArray listed).contains i = true)
    (hQ : ∀ c a w, Q (.panic c) (a.put oi.dst v) w → Q (.panic c) a w) (hw : Region.wanted oi (yielded l.toArray a.tmps) = true) (hy : ∀ w, S w → (execOp a.eval oi).run P w = .ok (.value v) w) (hS : S w)
    (h : wpAnyH P md l.toArray Q S fuel (listed.setIfInBounds i true) (a.put oi.dst v) w) : wpAnyH P md l.toArray Q S (fuel + 1) listed a w :=
  wpAnyH_take (by simpa using hi) hs hf hr hQ (.inl ⟨hw, hy⟩) hS h
theorem no (i : Nat) {oi : Oper} {fuel : Nat} {listed : Array Bool} {a : Act} {w : World} (hi : l[i]? = some oi)
    (hs : Region.noSelect l.toArray = true) (hf : Region.free md l.toArray listed i = true) (hr : (Region.ready md l.toArray listed).contains i = true)
    (hQ : ∀ c a w, Q (.panic c) (a.put oi.dst undef) w → Q (.panic c) a w) (hw : Region.wanted oi (yielded l.toArray a.tmps) = false) (hS : S w)
    (h : wpAnyH P md l.toArray Q S fuel (listed.setIfInBounds i true) (a.put oi.dst undef) w) : wpAnyH P md l.toArray Q S (fuel + 1) listed a w :=
  wpAnyH_take (by simpa using hi) hs hf hr hQ (.inr ⟨hw, rfl⟩) hS h
theorem one (i : Nat) {o : Oper} {fuel : Nat} {listed : Array Bool} {a : Act} {w : World} (hi : l[i]? = some o) (hr : Region.ready md l.toArray listed = [i])
    (h : ∀ K' : Act → World → Prop, Shut (∀ a w, S w → (S w → wpAnyH P md l.toArray Q S fuel (listed.setIfInBounds i true) a w) → K' a w) → if Region.wanted o (yielded l.toArray a.tmps) = true then Oper.wp P o a w K' Q else K' (a.put o.dst undef) w) :
    wpAnyH P md l.toArray Q S (fuel + 1) listed a w :=
  wpAnyH_ready hr (by simp) (AllReadyH.cons (by simpa using hi) h AllReadyH.nil)
theorem two (i j : Nat) {oi oj : Oper} {fuel : Nat} {listed : Array Bool} {a : Act} {w : World} (hi : l[i]? = some oi) (hj : l[j]? = some oj) (hr : Region.ready md l.toArray listed = [i, j])
    (h1 : ∀ K' : Act → World → Prop, Shut (∀ a w, S w → (S w → wpAnyH P md l.toArray Q S fuel (listed.setIfInBounds i true) a w) → K' a w) → if Region.wanted oi (yielded l.toArray a.tmps) = true then Oper.wp P oi a w K' Q else K' (a.put oi.dst undef) w)
    (h2 : ∀ K' : Act → World → Prop, Shut (∀ a w, S w → (S w → wpAnyH P md l.toArray Q S fuel (listed.setIfInBounds j true) a w) → K' a w) → if Region.wanted oj (yielded l.toArray a.tmps) = true then Oper.wp P oj a w K' Q else K' (a.put oj.dst undef) w) :
    wpAnyH P md l.toArray Q S (fuel + 1) listed a w :=
  wpAnyH_ready hr (by simp) (AllReadyH.cons (by simpa using hi) h1 (AllReadyH.cons (by simpa using hj) h2 AllReadyH.nil))
theorem start {id : Nat} {a : Act} {w : World} (hm : P.follows .mixedOrders = true) (hS : S w.drew)
    (h : S w.drew → wpAnyH P .any l.toArray Q S l.length (Array.replicate l.length false) a w.drew) : (Code.region id l.toArray true).wp P Q a w :=
  wp_region_held_drew hm hS (by simpa using h)
end
theorem wrap_ok {n : Int} (h0 : -4611686018427387904 ≤ n) (h1 : n ≤ 4611686018427387904) : IntKind.i64.wrap n = n := by
  have hb : (2 : Int) ^ IntKind.i64.bits = 18446744073709551616 := by decide
  have hb' : (2 : Int) ^ (IntKind.i64.bits - 1) = 9223372036854775808 := by decide
  unfold IntKind.wrap
  simp only [hb, hb']
  have hs : IntKind.i64.signed = true := rfl
  simp only [hs, Bool.true_and, decide_eq_true_eq]
  split <;> omega
end Go.Proofs.YtlboekimnhgfdaaGreat.Grl

/- Whether another number is there: l6Other of the model. -/
namespace Go.Proofs.YtlboekimnhgfdaaGreat.Tab
open Go.RowKit Rw
set_option linter.unusedVariables false
set_option linter.unusedSimpArgs false
attribute [local go_sem ↓] Go.wp_at_zero Go.wp_at_succ
def otherE (L : List Row.E) (ls : List Lab.E) (t v : Int) : Bool := Row.there L ls && (match Samp.cutL (Row.at' L (Row.place L ls)).2 t (t + 1) with | [] => false | x :: _ => decide (x.2 ≠ v))
set_option maxRecDepth 100000 in
set_option maxHeartbeats 8000000 in
theorem l6other {w : World} {v u : Value} {L : List Row.E} {ls : List Lab.E} (T V : Int) (h : Row.Is w v L) (hok : Row.ok L = true) (hl : Lab.Is w u ls) (hT : 0 ≤ T ∧ T ≤ 9999) :
    Calls Tryz.prog 117 #[v, .agg #[u, .int .i64 T, .int .i64 V]] w fun e w' => e = .returned (.bool (otherE L ls T V)) ∧ Below w.heap.size w w' := by
  obtain ⟨au, nu, qu, rfl⟩ : ∃ a n q, u = .slice a n q := by obtain ⟨-, a, q, e, -⟩ := hl; exact ⟨a, _, q, e⟩
  obtain ⟨va, vq, rfl⟩ : ∃ a q, v = .slice a L.length q := by obtain ⟨cs, -, hL, -⟩ := id h; obtain ⟨-, a, q, e, -⟩ := hL; exact ⟨a, q, e⟩
  obtain ⟨W, hW⟩ : ∃ W, W = w.alloc (.cells #[.slice au nu qu, .int .i64 T, .int .i64 V] 62) := ⟨_, rfl⟩
  have bW : Below w.heap.size w W := by rw [hW]; exact (Below.refl _ _).alloc (Nat.le_refl _) _
  have zW : W.heap.size = w.heap.size + 1 := by rw [hW]; simp
  have q0 : W.cell? ⟨w.heap.size, 0, none⟩ = some (.slice au nu qu) := by rw [hW]; simp [go_sem]
  have q1 : W.cell? ⟨w.heap.size, 1, none⟩ = some (.int .i64 T) := by rw [hW]; simp [go_sem]
  have q2 : W.cell? ⟨w.heap.size, 2, none⟩ = some (.int .i64 V) := by rw [hW]; simp [go_sem]
  have HK := hide (fun (X : World) (hb : Below W.heap.size W X) => And.intro ((hb.cell (p := ⟨w.heap.size, 1, none⟩) (by show w.heap.size < _; omega)).trans q1) ((hb.cell (p := ⟨w.heap.size, 2, none⟩) (by show w.heap.size < _; omega)).trans q2))
  have hn10 := Row.ok_len hok
  have HAt := hide (Row.l5at (h.below bW) (hl.below bW) (by omega))
  have HW1 := hide (h.below bW)
  have hncap : L.length ≤ vq ∧ vq ≤ 9223372036854775807 := by
    obtain ⟨cs, -, hL, -⟩ := id h
    obtain ⟨-, a', q', e, h1, h2, -⟩ := hL
    simp only [Value.slice.injEq, true_and] at e
    unfold maxLen at h2
    omega
  obtain ⟨n, hn⟩ : ∃ n, n = L.length := ⟨_, rfl⟩
  have HN := hide hn
  have HView := hide (fun k (hk : k < L.length) => Row.view_at (h.below bW) hok hk)
  have HOk := hide hok
  rw [← hn] at HAt HView hn10 hncap ⊢
  clear q1 q2 h hl hn hok
  cases ht : Row.there L ls
  · have HR := hide (show otherE L ls T V = false by unfold otherE; rw [ht]; rfl)
    rw [ht] at HAt
    clear ht
    go_enter Tryz.func117, Tryz.ntmps117
    go_wp2_with fail
    rw [← hW]
    clear hW
    refine (unhide HAt).mono ?_
    rintro e w1 ⟨rfl, b1⟩
    have R1 := bW.trans (b1.mono bW.size)
    clear q0
    go_wp2_with fail
    go_ret
    exact ⟨by rw [unhide HR]; rfl, R1⟩
  rw [ht] at HAt
  have hkn : Row.place L ls < n := by
    rw [unhide HN]
    unfold Row.there at ht
    simp only [Bool.and_eq_true, decide_eq_true_eq] at ht
    exact ht.1
  have HR := hide (show otherE L ls T V = (match Samp.cutL (Row.at' L (Row.place L ls)).2 T (T + 1) with | [] => false | x :: _ => decide (x.2 ≠ V)) by unfold otherE; rw [ht]; rfl)
  obtain ⟨k, hk⟩ : ∃ k, k = Row.place L ls := ⟨_, rfl⟩
  rw [← hk] at HAt hkn HR
  clear ht hk
  obtain ⟨b, off, rfl, p0, ll, q0', b1, o1, m, q1, hA⟩ := unhide HView k hkn
  have hk0 : (0 : Int) ≤ (k : Int) := Int.natCast_nonneg _
  have hk1 : (k : Int) < (n : Int) := by omega
  have HA := hide hA
  have HSam := hide (show Sam.Is W (.slice (some ⟨b1, o1, none⟩) m q1) (Row.at' L k).2 from by
    obtain ⟨cs, hcs, hLi, hE⟩ := unhide HW1
    obtain ⟨-, a', cap', e, hc, hmx, -, hr⟩ := hLi
    simp only [Value.slice.injEq] at e
    obtain ⟨b', off', e', hbl, hcells⟩ := hr (by rw [← unhide HN]; omega)
    rw [← e.1] at e'
    simp only [Option.some.injEq, Addr.mk.injEq, and_true] at e'
    obtain ⟨rfl, rfl⟩ := e'
    have fa := Row.flat_at cs k (by rw [hcs, ← unhide HN]; exact hkn)
    have hc1 := hcells (k * 2 + 1) _ fa.2
    have hEk := (hE k (by rw [← unhide HN]; exact hkn)).2
    have hc1' := hA.c1
    rw [Nat.add_assoc] at hc1'
    rw [hc1'] at hc1
    have := Option.some.inj hc1
    rw [this]
    exact hEk)
  have hSam := unhide HSam
  have hst := Row.step_is (Row.ok_at (unhide HOk) (show k < L.length by rw [← unhide HN]; exact hkn))
  have g1 := hA.le
  have g2 := hA.mx
  have g3 := hA.m9
  go_enter Tryz.func117, Tryz.ntmps117
  go_wp2_with fail
  rw [← hW]
  clear hW
  refine (unhide HAt).mono ?_
  rintro e w1 ⟨rfl, b1x⟩
  have R1 := bW.trans (b1x.mono bW.size)
  have hz1 := b1x.size
  have b1d : Below W.heap.size W w1.drew := b1x.drew
  have hc1d := ((unhide HA).below b1d).c1
  have ht1d := (unhide HK w1.drew b1d).1
  have hxne : (Row.at' L k).2 ≠ [] := fun e => by have := hst.2.1; rw [e] at this; simp at this
  have HCut := hide (Samp.l2cut T (T + 1) (Row.smp_of_lies (hSam.below b1d) hxne) (by have := hst.2.2.1; omega))
  obtain ⟨C, hC⟩ : ∃ C, C = Samp.cutL (Row.at' L k).2 T (T + 1) := ⟨_, rfl⟩
  rw [← hC] at HCut HR
  have hT1 := Grl.wrap_ok (n := T + 1) (by omega) (by omega)
  have HS5 := hide (fun (X : World) (hb : Below w1.drew.heap.size w1.drew X) => show (fun X => X.cell? ⟨b, off + k * 2 + 1, none⟩ = some (.slice (some ⟨b1, o1, none⟩) m q1) ∧ X.cell? ⟨w.heap.size, 1, none⟩ = some (.int .i64 T)) X from ⟨((unhide HA).below (b1d.trans (hb.mono b1d.size))).c1, (unhide HK X (b1d.trans (hb.mono b1d.size))).1⟩)
  clear hC hA q0 hst hxne hSam HSam HAt HView
  go_wp2_with fail
  refine Grl.start (S := fun X => X.cell? ⟨b, off + k * 2 + 1, none⟩ = some (.slice (some ⟨b1, o1, none⟩) m q1) ∧ X.cell? ⟨w.heap.size, 1, none⟩ = some (.int .i64 T)) (by kernel_rfl) (by exact ⟨hc1d, ht1d⟩) (fun hHeld => ?_)
  refine Grl.yes 0 (v := ?_) rfl (by kernel_rfl) (by kernel_rfl) (by kernel_rfl) (fun _ _ _ h => h) (by kernel_rfl) ?_ (by assumption) ?_
  rotate_left
  · (intro w hSw; (try dsimp only at hSw); go_simp; try with_reducible rfl)
  simp only [Act.put, List.setIfInBounds_toArray, List.set_cons_zero, List.set_cons_succ]
  refine Grl.yes 1 (v := ?_) rfl (by kernel_rfl) (by kernel_rfl) (by kernel_rfl) (fun _ _ _ h => h) (by kernel_rfl) ?_ (by assumption) ?_
  rotate_left
  · (intro w hSw; (try dsimp only at hSw); go_simp; try with_reducible rfl)
  simp only [Act.put, List.setIfInBounds_toArray, List.set_cons_zero, List.set_cons_succ]
  refine Grl.yes 2 (v := ?_) rfl (by kernel_rfl) (by kernel_rfl) (by kernel_rfl) (fun _ _ _ h => h) (by kernel_rfl) ?_ (by assumption) ?_
  rotate_left
  · (intro w hSw; (try dsimp only at hSw); go_simp; try with_reducible rfl)
  simp only [Act.put, List.setIfInBounds_toArray, List.set_cons_zero, List.set_cons_succ]
  refine Grl.yes 3 (v := ?_) rfl (by kernel_rfl) (by kernel_rfl) (by kernel_rfl) (fun _ _ _ h => h) (by kernel_rfl) ?_ (by assumption) ?_
  rotate_left
  · (intro w hSw; (try dsimp only at hSw); go_simp; try with_reducible rfl)
  simp only [Act.put, List.setIfInBounds_toArray, List.set_cons_zero, List.set_cons_succ]
  refine Grl.yes 4 (v := ?_) rfl (by kernel_rfl) (by kernel_rfl) (by kernel_rfl) (fun _ _ _ h => h) (by kernel_rfl) ?_ (by assumption) ?_
  rotate_left
  · (intro w hSw; (try dsimp only at hSw); go_simp; try with_reducible rfl)
  simp only [Act.put, List.setIfInBounds_toArray, List.set_cons_zero, List.set_cons_succ]
  refine Grl.yes 5 (v := ?_) rfl (by kernel_rfl) (by kernel_rfl) (by kernel_rfl) (fun _ _ _ h => h) (by kernel_rfl) ?_ (by assumption) ?_
  rotate_left
  · (intro w hSw; (try dsimp only at hSw); go_simp; try with_reducible rfl)
  simp only [Act.put, List.setIfInBounds_toArray, List.set_cons_zero, List.set_cons_succ]
  refine Grl.yes 6 (v := ?_) rfl (by kernel_rfl) (by kernel_rfl) (by kernel_rfl) (fun _ _ _ h => h) (by kernel_rfl) ?_ (by assumption) ?_
  rotate_left
  · (intro w hSw; (try dsimp only at hSw); go_simp; try with_reducible rfl)
  simp only [Act.put, List.setIfInBounds_toArray, List.set_cons_zero, List.set_cons_succ]
  refine Grl.yes 7 (v := ?_) rfl (by kernel_rfl) (by kernel_rfl) (by kernel_rfl) (fun _ _ _ h => h) (by kernel_rfl) ?_ (by assumption) ?_
  rotate_left
  · (intro w hSw; (try dsimp only at hSw); go_simp; try with_reducible rfl)
  simp only [Act.put, List.setIfInBounds_toArray, List.set_cons_zero, List.set_cons_succ]
  refine Grl.yes 8 (v := ?_) rfl (by kernel_rfl) (by kernel_rfl) (by kernel_rfl) (fun _ _ _ h => h) (by kernel_rfl) ?_ (by assumption) ?_
  rotate_left
  · (intro w hSw; (try dsimp only at hSw); go_simp; try with_reducible rfl)
  simp only [Act.put, List.setIfInBounds_toArray, List.set_cons_zero, List.set_cons_succ]
  refine Grl.yes 9 (v := ?_) rfl (by kernel_rfl) (by kernel_rfl) (by kernel_rfl) (fun _ _ _ h => h) (by kernel_rfl) ?_ (by assumption) ?_
  rotate_left
  · (intro w hSw; (try dsimp only at hSw); go_simp; try with_reducible rfl)
  simp only [Act.put, List.setIfInBounds_toArray, List.set_cons_zero, List.set_cons_succ]
  refine Grl.one 10 rfl (by kernel_rfl) (fun K hK => ?_)
  go_simp
  go_wp2_with (refine (unhide HCut).mono ?_; rintro e w5 ⟨vc, rfl, oc, b5⟩; obtain ⟨ac, qc, rfl⟩ : ∃ a q, vc = .slice a C.length q := (by obtain ⟨-, a, q, e, -⟩ := lies_of_own oc; exact ⟨a, q, e⟩); have hs5 : (fun X => X.cell? ⟨b, off + k * 2 + 1, none⟩ = some (.slice (some ⟨b1, o1, none⟩) m q1) ∧ X.cell? ⟨w.heap.size, 1, none⟩ = some (.int .i64 T)) w5 := (unhide HS5 w5 b5))
  refine hK.out _ _ (by exact hs5) (fun hHeld => ?_)
  clear hK K
  refine Grl.yes 11 (v := ?_) rfl (by kernel_rfl) (by kernel_rfl) (by kernel_rfl) (fun _ _ _ h => h) (by kernel_rfl) ?_ (by assumption) ?_
  rotate_left
  · (intro w hSw; (try dsimp only at hSw); go_simp; try with_reducible rfl)
  simp only [Act.put, List.setIfInBounds_toArray, List.set_cons_zero, List.set_cons_succ]
  refine wpAnyH_done (by kernel_rfl) ?_ _
  have R5 := R1.drew.trans (b5.mono R1.drew.size)
  have b15 := b1d.trans (b5.mono b1d.size)
  have ht2 := (unhide HK w5 b15).2
  have hzw : w.heap.size < w5.heap.size := by have := b15.size; omega
  clear HS5 hs5 hc1d ht1d
  rcases C with _ | ⟨⟨T', V'⟩, C⟩
  · clear oc b5 HCut
    have hne := cls_nonempty w5.heap.size w5
    go_wp2_with fail
    refine region_cls (by kernel_rfl) (by kernel_rfl) ?_
    repeat (go_big_quiet_step (fail))
    refine wpQuiet_nil ?_
    rintro w7 ⟨⟨_, hq⟩, rfl⟩
    have R7 := R5.trans (hq.mono R5.size)
    go_wp2
    go_ret
    exact ⟨by rw [unhide HR]; rfl, R7⟩
  · have hlc : ((T', V') :: C).length = C.length + 1 := rfl
    rw [hlc] at oc ⊢
    obtain ⟨cn, hcn⟩ : ∃ c, c = C.length := ⟨_, rfl⟩
    rw [← hcn] at oc ⊢
    obtain ⟨-, a', q', e', hc', hm', -, hr'⟩ := lies_of_own oc
    simp only [Value.slice.injEq, true_and] at e'
    obtain ⟨rfl, rfl⟩ := e'
    obtain ⟨gc, oc', rfl, hgc, hcells⟩ := hr' (by omega)
    unfold maxLen at hm'
    have hV' : w5.cell? ⟨gc, oc' + 1, none⟩ = some (.int .i64 V') := hcells 1 _ rfl
    have k1 : ∀ x : Cls w5.heap.size w5, x.val.cell? ⟨gc, oc' + 1, none⟩ = some (.int .i64 V') := fun x => by rw [x.cell hgc]; exact hV'
    have k2 : ∀ x : Cls w5.heap.size w5, x.val.cell? ⟨w.heap.size, 2, none⟩ = some (.int .i64 V) := fun x => by rw [x.cell hzw]; exact ht2
    have hcn0 : (0 : Int) < (cn : Int) + 1 := by omega
    have hne := cls_nonempty w5.heap.size w5
    clear oc b5 HCut hcells hr' hcn hlc hV' ht2
    go_wp2_with fail
    refine region_cls (by kernel_rfl) (by kernel_rfl) ?_
    repeat (go_big_quiet_step (fail))
    refine wpQuiet_nil ?_
    rintro w7 ⟨⟨_, hq⟩, rfl⟩
    have R7 := R5.trans (hq.mono R5.size)
    clear k1 k2 hne
    go_wp2
    go_ret
    exact ⟨by rw [unhide HR]; by_cases hvv : V' = V <;> simp [hvv], R7⟩
end Go.Proofs.YtlboekimnhgfdaaGreat.Tab

/- What writing one entry comes to, and several, as plain mathematics. No condition. -/
namespace Go.Proofs.YtlboekimnhgfdaaGreat.Tab
open Go.RowKit Rw
set_option linter.unusedVariables false
abbrev T3 := List Row.E × Int × Int
abbrev En := List Lab.E × Int × Int
def oneE (t : T3) (e : En) : T3 × Int :=
  if codeE t.2.1 t.2.2 e.1 e.2.1 e.2.2 ≠ 0 then (t, codeE t.2.1 t.2.2 e.1 e.2.1 e.2.2)
  else if otherE t.1 e.1 e.2.1 e.2.2 = true then (t, 3)
  else match Row.add t.1 (e.1, [(e.2.1, e.2.2)]) with
    | some R => ((R, if t.2.1 < e.2.1 then e.2.1 else t.2.1, t.2.2), 0)
    | none => (t, 4)
theorem code_zero {H F : Int} {ls : List Lab.E} {t v : Int} (h : codeE H F ls t v = 0) : Lab.ok ls = true ∧ SampMath.inR t v = true := by
  unfold codeE at h
  split at h
  · rename_i h1
    split at h
    · rename_i h2; exact ⟨h1, h2⟩
    · cases h
  · cases h
theorem one_none {t : T3} {e : En} (h : codeE t.2.1 t.2.2 e.1 e.2.1 e.2.2 ≠ 0) : oneE t e = (t, codeE t.2.1 t.2.2 e.1 e.2.1 e.2.2) := by unfold oneE; rw [if_pos h]
theorem one_other {t : T3} {e : En} (h : codeE t.2.1 t.2.2 e.1 e.2.1 e.2.2 = 0) (h2 : otherE t.1 e.1 e.2.1 e.2.2 = true) : oneE t e = (t, 3) := by unfold oneE; rw [if_neg (by rw [h]; decide), if_pos h2]
theorem one_many {t : T3} {e : En} (h : codeE t.2.1 t.2.2 e.1 e.2.1 e.2.2 = 0) (h2 : otherE t.1 e.1 e.2.1 e.2.2 = false) (h3 : Row.add t.1 (e.1, [(e.2.1, e.2.2)]) = none) : oneE t e = (t, 4) := by unfold oneE; rw [if_neg (by rw [h]; decide), if_neg (by rw [h2]; decide), h3]
theorem one_fine {t : T3} {e : En} {R : List Row.E} (h : codeE t.2.1 t.2.2 e.1 e.2.1 e.2.2 = 0) (h2 : otherE t.1 e.1 e.2.1 e.2.2 = false) (h3 : Row.add t.1 (e.1, [(e.2.1, e.2.2)]) = some R) : oneE t e = ((R, if t.2.1 < e.2.1 then e.2.1 else t.2.1, t.2.2), 0) := by unfold oneE; rw [if_neg (by rw [h]; decide), if_neg (by rw [h2]; decide), h3]
/-- a table whose rows are ok, and whose times may be -/
def tabB (t : T3) : Prop := Row.ok t.1 = true ∧ (-1 ≤ t.2.1 ∧ t.2.1 ≤ 9999) ∧ (0 ≤ t.2.2 ∧ t.2.2 ≤ 9999)
theorem add_ok {L R : List Row.E} {x : Row.E} (hL : Row.ok L = true) (hx : Row.Fine [x]) (h : Row.add L x = some R) : Row.ok R = true := Row.add_ok hL hx h
theorem one_tab {t : T3} {e : En} (h : tabB t) : tabB (oneE t e).1 := by
  by_cases h1 : codeE t.2.1 t.2.2 e.1 e.2.1 e.2.2 = 0
  · cases h2 : otherE t.1 e.1 e.2.1 e.2.2
    · cases h3 : Row.add t.1 (e.1, [(e.2.1, e.2.2)]) with
      | none => rw [one_many h1 h2 h3]; exact h
      | some R =>
        rw [one_fine h1 h2 h3]
        obtain ⟨c1, c2⟩ := code_zero h1
        have hr := SampMath.inR_iff.1 c2
        refine ⟨Row.add_ok h.1 (Row.fine_ok (Row.row_ok c1 c2)) h3, ?_, h.2.2⟩
        have := h.2.1
        show -1 ≤ (if t.2.1 < e.2.1 then e.2.1 else t.2.1) ∧ (if t.2.1 < e.2.1 then e.2.1 else t.2.1) ≤ 9999
        split <;> omega
    · rw [one_other h1 h2]; exact h
  · rw [one_none h1]; exact h
end Go.Proofs.YtlboekimnhgfdaaGreat.Tab
