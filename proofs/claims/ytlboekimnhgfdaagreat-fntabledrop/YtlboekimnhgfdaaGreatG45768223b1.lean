/- My own texts of one claim, laid together by program: TabMath2, TabTell, GReg3, FnTableDropWalk. -/
import Derived.Test.YtlboekimnhgfdaaGreatGef33893e54
import Derived.Test.YtlboekimnhgfdaaGreatGff8a48f01d
import Derived.Test.YtlboekimnhgfdaaGreatGf3cb340b64
import Derived.Test.YtlboekimnhgfdaaGreatGaf7de35f46
import Derived.Test.YtlboekimnhgfdaaGreatGf4b634e24e
import Derived.Test.YtlboekimnhgfdaaGreatG2c63d1bf77
/- Tables asked in parts, dropped, kept, as plain mathematics. No condition. -/
namespace Go.Proofs.YtlboekimnhgfdaaGreat.Row
open Go.RowKit Rw
set_option linter.unusedVariables false
theorem outL_outL {g h g' : E → List Sam.E} : ∀ {L : List E}, (∀ x ∈ L, (h x = [] → g' x = []) ∧ g (x.1, h x) = g' x) → outL g (outL h L) = outL g' L
  | [], _ => rfl
  | x :: L, hh => by
    have ih := outL_outL (g := g) (h := h) (g' := g') (L := L) (fun y hy => hh y (List.mem_cons_of_mem _ hy))
    obtain ⟨h1, h2⟩ := hh x (List.mem_cons_self ..)
    rw [outL_cons h, outL_cons g']
    by_cases e : h x = []
    · rw [if_pos e, if_pos (h1 e), List.nil_append, List.nil_append, ih]
    · rw [if_neg e, List.singleton_append, outL_cons, h2, ih]
theorem cut_sub {zs : List Sam.E} {f t f' t' : Int} (h1 : f ≤ f') (h2 : t' ≤ t) : Samp.cutL (Samp.cutL zs f t) f' t' = Samp.cutL zs f' t' := by
  unfold Samp.cutL
  rw [List.filter_filter]
  refine List.filter_congr fun z _ => ?_
  unfold Samp.inT
  rw [Bool.eq_iff_iff]
  simp only [Bool.and_eq_true, decide_eq_true_eq]
  omega
theorem askG_yes {ms : List Mat.E} {f t : Int} {x : E} (h : Mat.mlet ms x.1 = true) : askG ms f t x = Samp.cutL x.2 f t := by unfold askG; rw [if_pos h]
theorem askG_no {ms : List Mat.E} {f t : Int} {x : E} (h : ¬ Mat.mlet ms x.1 = true) : askG ms f t x = [] := by unfold askG; rw [if_neg h]
theorem ask_sub {ms : List Mat.E} {f t f' t' : Int} (h1 : f ≤ f') (h2 : t' ≤ t) {L : List E} (h : ok L = true) : ask ms f' t' (ask ms f t L) = ask ms f' t' L := by
  have e1 : ask ms f' t' (ask ms f t L) = outL (askG ms f' t') (ask ms f t L) := if_pos (ask_ok f t h)
  have e2 : ask ms f' t' L = outL (askG ms f' t') L := if_pos h
  have e3 : ask ms f t L = outL (askG ms f t) L := if_pos h
  rw [e1, e2, e3]
  refine outL_outL fun x hx => ?_
  by_cases hm : Mat.mlet ms x.1 = true
  · rw [askG_yes (f := f) (t := t) hm, askG_yes (x := x) (f := f') (t := t') hm]
    have hs := cut_sub (zs := x.2) h1 h2
    refine ⟨fun e => ?_, ?_⟩
    · rw [← hs, e]; rfl
    · rw [askG_yes (x := (x.1, Samp.cutL x.2 f t)) hm]; exact hs
  · rw [askG_no (f := f) (t := t) hm, askG_no (x := x) (f := f') (t := t') hm]
    exact ⟨fun _ => rfl, by rw [askG_no (x := (x.1, [])) hm]⟩
/-- two sides of samples, put together -/
theorem split_of (p : Sam.E → Bool) {xs : List Sam.E} (h : SampMath.ok xs = true) : (xs.filter p = [] → (xs.filter fun z => !p z) = xs) ∧ ((xs.filter fun z => !p z) = [] → xs.filter p = xs) ∧ SampMath.join (xs.filter p) (xs.filter fun z => !p z) = (xs, true) := by
  refine ⟨fun e => ?_, fun e => ?_, ?_⟩
  · rw [List.filter_eq_nil_iff] at e
    exact List.filter_eq_self.2 fun z hz => by have := e z hz; simpa using this
  · rw [List.filter_eq_nil_iff] at e
    exact List.filter_eq_self.2 fun z hz => by have := e z hz; simpa using this
  · have hmg := Samp.merge_filter xs p (fun z => !p z) ((Samp.ok_iff _).1 h).2
    have hall : (xs.filter fun z => p z || !p z) = xs := List.filter_eq_self.2 (fun z _ => by cases p z <;> rfl)
    rw [hall] at hmg
    exact SampMath.join_some (SampMath.ok_sub h List.filter_sublist) (SampMath.ok_sub h List.filter_sublist) hmg
theorem ask_parts {ms : List Mat.E} {f m t : Int} (h1 : f ≤ m) (h2 : m ≤ t) {L : List E} (h : ok L = true) : join (ask ms f m L) (ask ms m t L) = (ask ms f t L, true) := by
  refine join_yes (ask_ok f m h) (ask_ok m t h) ?_ (ask_ok f t h)
  rw [← ask_sub (ms := ms) (Int.le_refl f) h2 h, ← ask_sub (ms := ms) h1 (Int.le_refl t) h]
  have hM := ask_ok (ms := ms) f t h
  have hin := fun y (hy : y ∈ ask ms f t L) => ask_in h hy
  generalize ask ms f t L = M at hM hin
  rw [show ask ms f m M = outL (askG ms f m) M from if_pos hM, show ask ms m t M = outL (askG ms m t) M from if_pos hM]
  refine insAll_parts _ _ (fine_ok hM) fun x hx => ?_
  obtain ⟨hl, hne, hc⟩ := hin x hx
  have hok := ((fine_ok hM).sam x hx).1
  rw [askG_yes hl, askG_yes hl]
  have e : Samp.cutL x.2 m t = x.2.filter fun z => !Samp.inT f m z := by
    unfold Samp.cutL
    refine List.filter_congr fun z hz => ?_
    have hz' : z ∈ Samp.cutL x.2 f t := by rw [hc]; exact hz
    have := (List.mem_filter.1 hz').2
    unfold Samp.inT at this ⊢
    rw [Bool.eq_iff_iff]
    simp only [Bool.and_eq_true, decide_eq_true_eq, Bool.not_eq_true', Bool.and_eq_false_iff, decide_eq_false_iff_not] at this ⊢
    omega
  rw [e]
  exact split_of (Samp.inT f m) hok
theorem tab_parts {L : List E} {H F : Int} (h : tableB L H F = true) : -1 ≤ H ∧ H ≤ 9999 ∧ floorB F = true ∧ (F = 0 ∨ F ≤ H) ∧ ok L = true ∧ within L F (H + 1) = true := by
  unfold tableB at h
  simp only [Bool.and_eq_true, Bool.or_eq_true, decide_eq_true_eq] at h
  obtain ⟨⟨⟨⟨⟨a, b⟩, c⟩, d⟩, e⟩, f⟩ := h
  exact ⟨a, b, c, d, e, f⟩
theorem within_out {g : E → List Sam.E} {L : List E} {f t : Int} (hg : ∀ x ∈ L, ∀ z ∈ g x, inT f t z = true) : within (outL g L) f t = true := by
  unfold within
  rw [List.all_eq_true]
  intro y hy
  obtain ⟨x, hx, rfl, -⟩ := outL_in hy
  unfold within1
  rw [List.all_eq_true]
  exact hg x hx
theorem within_in {L : List E} {f t : Int} (h : within L f t = true) {x : E} (hx : x ∈ L) {z : Sam.E} (hz : z ∈ x.2) : inT f t z = true := by
  unfold within at h
  rw [List.all_eq_true] at h
  have := h x hx
  unfold within1 at this
  rw [List.all_eq_true] at this
  exact this z hz
theorem dropG_in {ms : List Mat.E} {f t : Int} {x : E} {z : Sam.E} (h : z ∈ dropG ms f t x) : z ∈ x.2 := by
  unfold dropG at h
  split at h
  · exact (List.mem_filter.1 h).1
  · exact h
theorem drop_tab {ms : List Mat.E} (f t : Int) {L : List E} {H F : Int} (h : tableB L H F = true) (hm : Mat.ok ms = true) : tableB (drop ms f t L) H F = true := by
  obtain ⟨h1, h2, h3, h4, h5, h6⟩ := tab_parts h
  refine tableB_yes h1 h2 h3 h4 (drop_ok f t h5 hm) ?_
  rw [drop_is f t h5 hm]
  exact within_out fun x hx z hz => within_in h6 hx (dropG_in hz)
theorem mat_nil : Mat.ok [] = true := rfl
theorem let_nil {x : E} {L : List E} (h : ok L = true) (hx : x ∈ L) : Mat.mlet [] x.1 = true := by unfold Mat.mlet; rw [(fine_ok h).lab x hx]; rfl
theorem small_ok {L : List E} (h : ok L = true) : L.length ≤ 1000 ∧ (∀ x ∈ L, x.2.length ≤ 1000) ∧ cntS L ≤ 10000 := by
  have h10 := ok_len h
  have hb : ∀ x ∈ L, x.2.length ≤ 1000 := fun x hx => row_bounds h hx
  have := cntS_le hb
  exact ⟨by omega, hb, by omega⟩
/-- what is kept is what is asked for from a time on -/
theorem keep_ask {L : List E} (f : Int) (h : ok L = true) (h0 : 0 ≤ f) : drop [] 0 f L = ask [] f 10000 L := by
  rw [drop_is 0 f h mat_nil, show ask [] f 10000 L = outL (askG [] f 10000) L from if_pos h]
  refine outL_same fun x hx => ?_
  have hm := let_nil h hx
  rw [askG_yes hm]
  unfold dropG
  rw [if_pos hm]
  unfold Samp.sides Samp.cutL
  refine List.filter_congr fun z _ => ?_
  unfold Samp.inT
  rw [Bool.eq_iff_iff]
  simp only [Bool.or_eq_true, Bool.and_eq_true, decide_eq_true_eq]
  omega
end Go.Proofs.YtlboekimnhgfdaaGreat.Row
namespace Go.Proofs.YtlboekimnhgfdaaGreat.Tab
open Go.RowKit Rw
set_option linter.unusedVariables false
theorem floor_parts {F : Int} (h : Row.floorB F = true) : 0 ≤ F ∧ F ≤ 9999 ∧ F.tmod 100 = 0 := by
  unfold Row.floorB at h
  simp only [Bool.and_eq_true, decide_eq_true_eq] at h
  omega
/-- the time ahead of which nothing is kept -/
theorem keepF_is {H F age : Int} (h1 : -1 ≤ H) (h2 : H ≤ 9999) (h3 : Row.floorB F = true) (h4 : F = 0 ∨ F ≤ H) (h0 : 0 ≤ age) :
    Row.floorB (keepF H F age) = true ∧ (keepF H F age = 0 ∨ keepF H F age ≤ H) ∧ F ≤ keepF H F age ∧ (keepF H F age = F ∨ keepF H F age ≤ H - age ∧ H - age < keepF H F age + 100) ∧ keepF H (keepF H F age) age = keepF H F age := by
  obtain ⟨f1, f2, f3⟩ := floor_parts h3
  have hf : F % 100 = 0 := by rw [← Int.tmod_eq_emod_of_nonneg f1]; exact f3
  have key : ∀ f, 0 ≤ f → f ≤ 9999 → f % 100 = 0 → Row.floorB f = true := fun f a b c => Row.floorB_yes a b (by rw [Int.tmod_eq_emod_of_nonneg a]; exact c)
  have e : ∀ G, keepF H G age = if (if 0 < H - age then (H - age) / 100 * 100 else 0) < G then G else (if 0 < H - age then (H - age) / 100 * 100 else 0) := fun G => rfl
  obtain ⟨q, hq⟩ : ∃ q, q = (if 0 < H - age then (H - age) / 100 * 100 else 0) := ⟨_, rfl⟩
  have hq1 : 0 ≤ q ∧ q ≤ 9999 ∧ q % 100 = 0 ∧ (q = 0 ∨ q ≤ H) ∧ (q ≤ H - age ∧ H - age < q + 100 ∨ q = 0 ∧ H - age ≤ 0) := by rw [hq]; split <;> omega
  have e' : ∀ G, keepF H G age = if q < G then G else q := fun G => by rw [e, ← hq]
  rw [e' F]
  obtain ⟨a1, a2, a3, a4, a5⟩ := hq1
  by_cases hlt : q < F
  · rw [if_pos hlt, e' F, if_pos hlt]
    exact ⟨h3, h4, Int.le_refl _, .inl rfl, rfl⟩
  · rw [if_neg hlt, e' q, if_neg (Int.lt_irrefl q)]
    exact ⟨key q a1 a2 a3, a4, by omega, by omega, rfl⟩
theorem keep_okay {L : List Row.E} {H F age : Int} (h : Row.tableB L H F = true) (h0 : 0 ≤ age) : Row.tableB (Row.drop [] 0 (keepF H F age) L) H (keepF H F age) = true := by
  obtain ⟨h1, h2, h3, h4, h5, h6⟩ := Row.tab_parts h
  obtain ⟨k1, k2, k3, -, -⟩ := keepF_is h1 h2 h3 h4 h0
  have hk := (floor_parts k1).1
  refine Row.tableB_yes h1 h2 k1 k2 (Row.drop_ok 0 _ h5 Row.mat_nil) ?_
  rw [Row.keep_ask _ h5 hk, show Row.ask [] (keepF H F age) 10000 L = Row.outL (Row.askG [] (keepF H F age) 10000) L from if_pos h5]
  refine Row.within_out fun x hx z hz => ?_
  rw [Row.askG_yes (Row.let_nil h5 hx)] at hz
  have hz2 := List.mem_filter.1 hz
  have a := Row.within_in h6 hx hz2.1
  have b := hz2.2
  unfold Samp.inT at b
  unfold Row.inT at a ⊢
  simp only [Bool.and_eq_true, decide_eq_true_eq] at a b ⊢
  exact ⟨b.1, a.2⟩
theorem keep_keep {L : List Row.E} {H F age : Int} (h : Row.tableB L H F = true) (h0 : 0 ≤ age) : keep age (Row.drop [] 0 (keepF H F age) L) H (keepF H F age) = (Row.drop [] 0 (keepF H F age) L, H, keepF H F age) := by
  obtain ⟨h1, h2, h3, h4, h5, h6⟩ := Row.tab_parts h
  have hk := (keepF_is h1 h2 h3 h4 h0).2.2.2.2
  have hn : ¬ age < 0 := by omega
  unfold keep
  rw [if_pos (keep_okay h h0), if_neg hn, hk, Row.drop_drop 0 _ h5 Row.mat_nil]
end Go.Proofs.YtlboekimnhgfdaaGreat.Tab

/- What tables that are ok tell. No condition. -/
namespace Go.Proofs.YtlboekimnhgfdaaGreat.Tab
open Go.RowKit Rw
set_option linter.unusedVariables false
theorem impl_ask2 {w : World} {v u : Value} {zs R : List Row.E} {ms : List Mat.E} (f t H F : Int) (h : Row.Is w v zs) (hm : Mat.Is w u ms) (hg : ∀ x ∈ zs, Row.good x) (hlen : zs.length ≤ maxLen) (hmg : ∀ x ∈ ms, Mat.good x) (hml : ms.length ≤ maxLen) (hR : ask ms f t zs H F = R) :
    Calls Tryz.prog 27 #[.agg #[v, .int .i64 H, .int .i64 F], u, .int .i64 f, .int .i64 t] w fun e w' => ∃ r, e = .returned r ∧ Row.Own w.heap.size w'.heap.size w' r R ∧ Below w.heap.size w w' := by
  have h := impl_ask f t H F h hm hg hlen hmg hml
  rw [hR] at h
  exact h
theorem impl_table2 {w : World} {v : Value} {zs : List Row.E} {H F : Int} {b : Bool} (h : Row.Is w v zs) (hg : ∀ x ∈ zs, Row.good x) (hlen : zs.length ≤ maxLen) (hb : Row.tableB zs H F = b) :
    Calls Tryz.prog 28 #[.agg #[v, .int .i64 H, .int .i64 F]] w fun e w' => e = .returned (.bool b) ∧ Below w.heap.size w w' := by
  have h := Row.impl_table (H := H) (F := F) h hg hlen
  rw [hb] at h
  exact h
theorem impl_join2 {w : World} {v u : Value} {a b R : List Row.E} {k : Bool} (h : Row.Is w v a) (h' : Row.Is w u b) (hg : ∀ x ∈ a, Row.good x) (hl : a.length ≤ maxLen) (hg' : ∀ x ∈ b, Row.good x) (hl' : b.length ≤ maxLen) (hR : Row.join a b = (R, k)) :
    Calls Tryz.prog 33 #[v, u] w fun e w' => ∃ r, e = .returned (.tuple #[r, .bool k]) ∧ Row.Own w.heap.size w'.heap.size w' r R ∧ Below w.heap.size w w' := by
  have h := Row.impl_join h h' hg hl hg' hl'
  rw [hR] at h
  exact h
theorem impl_keep2 {w : World} {v : Value} {zs R : List Row.E} (age H F : Int) {H2 F2 : Int} (hage : age ≤ 9223372036854775807) (h : Row.Is w v zs) (hg : ∀ x ∈ zs, Row.good x) (hlen : zs.length ≤ maxLen) (hR : keep age zs H F = (R, H2, F2)) :
    Calls Tryz.prog 35 #[.agg #[v, .int .i64 H, .int .i64 F], .int .i64 age] w fun e w' => ∃ r, e = .returned (.agg #[r, .int .i64 H2, .int .i64 F2]) ∧ Row.Own w.heap.size w'.heap.size w' r R ∧ Below w.heap.size w w' := by
  have h := impl_keep age H F hage h hg hlen
  rw [hR] at h
  exact h
theorem ask_is {ms : List Mat.E} (f t : Int) {zs : List Row.E} {H F : Int} (h : Row.tableB zs H F = true) : ask ms f t zs H F = Row.ask ms f t zs := by unfold ask; rw [if_pos h]
end Go.Proofs.YtlboekimnhgfdaaGreat.Tab

/- A region of which three operations may come first. No condition. -/
namespace Go.Proofs.YtlboekimnhgfdaaGreat.Grl
open Go.RowKit
section
variable {P : Program} {l : List Oper} {Q : Exit → Act → World → Prop} {md : Region.Mode} {S : World → Prop}
theorem three (i j k : Nat) {oi oj ok : Oper} {fuel : Nat} {listed : Array Bool} {a : Act} {w : World} (hi : l[i]? = some oi) (hj : l[j]? = some oj) (hk : l[k]? = some ok) (hr : Region.ready md l.toArray listed = [i, j, k])
    (h1 : ∀ K' : Act → World → Prop, Shut (∀ a w, S w → (S w → wpAnyH P md l.toArray Q S fuel (listed.setIfInBounds i true) a w) → K' a w) → if Region.wanted oi (yielded l.toArray a.tmps) = true then Oper.wp P oi a w K' Q else K' (a.put oi.dst undef) w)
    (h2 : ∀ K' : Act → World → Prop, Shut (∀ a w, S w → (S w → wpAnyH P md l.toArray Q S fuel (listed.setIfInBounds j true) a w) → K' a w) → if Region.wanted oj (yielded l.toArray a.tmps) = true then Oper.wp P oj a w K' Q else K' (a.put oj.dst undef) w)
    (h3 : ∀ K' : Act → World → Prop, Shut (∀ a w, S w → (S w → wpAnyH P md l.toArray Q S fuel (listed.setIfInBounds k true) a w) → K' a w) → if Region.wanted ok (yielded l.toArray a.tmps) = true then Oper.wp P ok a w K' Q else K' (a.put ok.dst undef) w) :
    wpAnyH P md l.toArray Q S (fuel + 1) listed a w :=
  wpAnyH_ready hr (by simp) (AllReadyH.cons (by simpa using hi) h1 (AllReadyH.cons (by simpa using hj) h2 (AllReadyH.cons (by simpa using hk) h3 AllReadyH.nil)))
end
end Go.Proofs.YtlboekimnhgfdaaGreat.Grl

/- FnTableDrop returns true at every text of bytes. -/
namespace Go.Proofs.YtlboekimnhgfdaaGreat
open Go.RowKit Draw Rw
set_option linter.unusedVariables false
set_option linter.unusedSimpArgs false
set_option maxRecDepth 100000 in
set_option maxHeartbeats 32000000 in
theorem fnTableDrop.walk (a0 : Option Addr) (len0 cap0 : Nat) (z0 : List Int) (w : World) (w0 : IsRow .u8 w a0 len0 cap0 z0) :
    Calls Tryz.prog 4 #[.slice a0 len0 cap0] w fun e w' => e = .returned (.bool true) ∧ Below w.heap.size w w' := by
  have l0 := (row_bytes w0)
  have c0 : len0 ≤ 9223372036854775807 := by have := l0.1; have := l0.2.1; unfold maxLen at this; omega
  have H0 := hide (draw_tdrop w w w0 (Below.refl _ _))
  clear l0 w0
  by_cases hb0 : 1048576 < len0
  · go_enter Tryz.func4, Tryz.ntmps4
    go_wp2
    go_ret
    exact ⟨rfl, Below.refl _ _⟩
  go_enter Tryz.func4, Tryz.ntmps4
  go_wp2_with fail
  refine (unhide H0).mono ?_
  rintro e W1 ⟨L, ms, v, u, H, F, A, B, rfl, hTG, hv0, hMG, hu0, hAB, b1⟩
  have hv := hv0.is
  have hu := Mat.is_of_own hu0
  clear hv0 hu0
  have hgL : Hid (∀ x ∈ L, Row.good x) := fun x hx => (hTG.1.2 x hx).1
  have hlL : Hid (L.length ≤ maxLen) := by have := hTG.1.1; show L.length ≤ maxLen; unfold maxLen; omega
  have hHF := hTG.2
  obtain ⟨va, vq, rfl⟩ := Tab.row_form hv
  obtain ⟨vn, hvn⟩ : ∃ n, n = L.length := ⟨_, rfl⟩
  rw [← hvn] at hv ⊢
  have HVN := hide hvn
  clear H0 hTG hvn
  have hgM : Hid (∀ x ∈ ms, Mat.good x) := hMG.2
  have hlM : Hid (ms.length ≤ maxLen) := by have := hMG.1; show ms.length ≤ maxLen; unfold maxLen; omega
  obtain ⟨ua, un, uq, rfl⟩ : ∃ a n q, u = .slice a n q := by obtain ⟨-, a, q, e, -⟩ := hu; exact ⟨a, _, q, e⟩
  clear hMG
  obtain ⟨sd2, sf2, so2, bb2, zz2⟩ := Tab.box_new (w := W1) (base := w.heap.size) (.slice va vn vq) H F b1.size
  obtain ⟨V2, hV2⟩ : ∃ V, W1.alloc (.cells #[.slice va vn vq, .int .i64 H, .int .i64 0] 30) = V := ⟨_, rfl⟩
  rw [hV2] at sd2 sf2 so2 bb2 zz2
  obtain ⟨W2, hW2⟩ : ∃ V, V2.setCell ⟨W1.heap.size, 2, none⟩ (.int .i64 F) = V := ⟨_, rfl⟩
  rw [hW2] at so2 bb2 zz2
  have HV := hide (hv.below bb2)
  have HK := hide (fun (X : World) (hb : Below W2.heap.size W2 X) => Tab.box_three (own_below so2 hb))
  have d2 := b1.trans (bb2.mono b1.size)
  have HOk := hide (fun X (hb : Below W2.heap.size W2 X) => Row.spec_table (H := H) (F := F) ((unhide HV).below hb) (unhide hgL) (unhide hlL))
  have HU := hide (hu.below bb2)
  have HMk := hide (fun X (hb : Below W2.heap.size W2 X) => Mat.spec_ok ((unhide HU).below hb) (unhide hgM) (unhide hlM))
  have HI := hide (Tab.impl_drop A B H F (unhide HV) (unhide HU) (unhide hgL) (unhide hlL) (unhide hgM) (unhide hlM))
  have HS := hide (fun X (hb : Below W2.heap.size W2 X) => Tab.spec_drop A B H F ((unhide HV).below hb) ((unhide HU).below hb) (unhide hgL) (unhide hlL) (unhide hgM) (unhide hlM))
  obtain ⟨⟨X, XH, XF⟩, hX⟩ : ∃ t, t = Tab.drop ms A B L H F := ⟨_, rfl⟩
  rw [← hX] at HI HS
  have HX := hide hX
  clear hX
  have HA := hide (fun X (hb : Below W2.heap.size W2 X) => Tab.impl_ask A B H F ((unhide HV).below hb) ((unhide HU).below hb) (unhide hgL) (unhide hlL) (unhide hgM) (unhide hlM))
  obtain ⟨k0, k1, k2⟩ := unhide HK W2 (Below.refl _ _)
  clear hv hu bb2 so2 b1
  go_wp2_with fail
  refine (unhide HI).mono ?_
  rintro e W3 ⟨x, rfl, ox, c3⟩
  obtain ⟨xa, xn, xq, rfl⟩ := ox.form
  clear k0 k1 k2 sd2 sf2 hV2 hW2 HI
  have z3 := c3.size
  have z2 : W1.heap.size < W2.heap.size := zz2
  obtain ⟨sd4, sf4, so4, bb4, zz4⟩ := Tab.box_new (w := W3) (base := W2.heap.size) (.slice xa xn xq) XH XF (by omega)
  obtain ⟨V4, hV4⟩ : ∃ V, W3.alloc (.cells #[.slice xa xn xq, .int .i64 XH, .int .i64 0] 30) = V := ⟨_, rfl⟩
  rw [hV4] at sd4 sf4 so4 bb4 zz4
  obtain ⟨W4, hW4⟩ : ∃ V, V4.setCell ⟨W3.heap.size, 2, none⟩ (.int .i64 XF) = V := ⟨_, rfl⟩
  rw [hW4] at so4 bb4 zz4
  have SX4 := hide (ox.is.below bb4)
  have c4 := c3.trans (bb4.mono c3.size)
  have HKx := hide (fun (X : World) (hb : Below W4.heap.size W4 X) => Tab.box_three (own_below so4 hb))
  have HK4 := hide (fun (X : World) (hb : Below W4.heap.size W4 X) => unhide HK X (c4.trans (hb.mono c4.size)))
  have HKK := hide (fun (X : World) (hb : Below W4.heap.size W4 X) => And.intro (unhide HK4 X hb) (unhide HKx X hb))
  clear ox bb4 so4 c3 HK
  have eD : Below W4.heap.size W4 W4.drew := (Below.refl _ _).drew
  cases hT : Row.tableB L H F
  · rw [hT] at HOk
    clear hT
    obtain ⟨⟨k0, k1, k2⟩, ⟨j0, j1, j2⟩⟩ := unhide HKK W4 (Below.refl _ _)
    go_wp2_with fail
    clear k0 k1 k2 j0 j1 j2
    refine Grl.start (S := fun X => (X.cell? ⟨W1.heap.size, 0, none⟩ = some (.slice va vn vq) ∧ X.cell? ⟨W1.heap.size, 1, none⟩ = some (.int .i64 H) ∧ X.cell? ⟨W1.heap.size, 2, none⟩ = some (.int .i64 F)) ∧ (X.cell? ⟨W3.heap.size, 0, none⟩ = some (.slice xa xn xq) ∧ X.cell? ⟨W3.heap.size, 1, none⟩ = some (.int .i64 XH) ∧ X.cell? ⟨W3.heap.size, 2, none⟩ = some (.int .i64 XF))) (by kernel_rfl) (by exact unhide HKK _ eD) (fun hHeld => ?_)
    refine Grl.yes 0 (v := ?_) rfl (by kernel_rfl) (by kernel_rfl) (by kernel_rfl) (fun _ _ _ h => h) (by kernel_rfl) ?_ (by assumption) ?_
    rotate_left
    · (intro w hSw; (try dsimp only at hSw); go_simp; try with_reducible rfl)
    simp only [Act.put, List.setIfInBounds_toArray, List.set_cons_zero, List.set_cons_succ]
    refine Grl.yes 1 (v := ?_) rfl (by kernel_rfl) (by kernel_rfl) (by kernel_rfl) (fun _ _ _ h => h) (by kernel_rfl) ?_ (by assumption) ?_
    rotate_left
    · (intro w hSw; (try dsimp only at hSw); go_simp; try with_reducible rfl)
    simp only [Act.put, List.setIfInBounds_toArray, List.set_cons_zero, List.set_cons_succ]
    refine Grl.yes 2 (v := ?_) rfl (by kernel_rfl) (by kernel_rfl) (by kernel_rfl) (fun _ _ _ h => h) (by kernel_rfl) ?_ (by assumption) ?_
    rotate_left
    · (intro w hSw; (try dsimp only at hSw); go_simp; try with_reducible rfl)
    simp only [Act.put, List.setIfInBounds_toArray, List.set_cons_zero, List.set_cons_succ]
    refine Grl.yes 3 (v := ?_) rfl (by kernel_rfl) (by kernel_rfl) (by kernel_rfl) (fun _ _ _ h => h) (by kernel_rfl) ?_ (by assumption) ?_
    rotate_left
    · (intro w hSw; (try dsimp only at hSw); go_simp; try with_reducible rfl)
    simp only [Act.put, List.setIfInBounds_toArray, List.set_cons_zero, List.set_cons_succ]
    refine Grl.yes 4 (v := ?_) rfl (by kernel_rfl) (by kernel_rfl) (by kernel_rfl) (fun _ _ _ h => h) (by kernel_rfl) ?_ (by assumption) ?_
    rotate_left
    · (intro w hSw; (try dsimp only at hSw); go_simp; try with_reducible rfl)
    simp only [Act.put, List.setIfInBounds_toArray, List.set_cons_zero, List.set_cons_succ]
    refine Grl.one 5 rfl (by kernel_rfl) (fun K hK => ?_)
    go_simp
    go_wp2_with (refine (unhide HS W4.drew (c4.trans (eD.mono c4.size))).mono ?_; rintro e w5 ⟨y, rfl, oy, b5⟩; have e5 := eD.trans (b5.mono eD.size); obtain ⟨ya, yn, yq, rfl⟩ := oy.form)
    refine hK.out _ _ (by exact unhide HKK _ e5) (fun hHeld => ?_)
    clear hK K
    refine Grl.one 6 rfl (by kernel_rfl) (fun K hK => ?_)
    go_simp
    go_wp2_with (refine (Tab.al_table ((unhide SX4).below e5) oy.is).mono ?_; rintro e w6 ⟨rfl, b6⟩; have e6 := e5.trans (b6.mono e5.size))
    refine hK.out _ _ (by exact unhide HKK _ e6) (fun hHeld => ?_)
    clear hK K
    refine Grl.yes 7 (v := ?_) rfl (by kernel_rfl) (by kernel_rfl) (by kernel_rfl) (fun _ _ _ h => h) (by kernel_rfl) ?_ (by assumption) ?_
    rotate_left
    · (intro w hSw; (try dsimp only at hSw); go_simp; try with_reducible rfl)
    simp only [Act.put, List.setIfInBounds_toArray, List.set_cons_zero, List.set_cons_succ]
    refine Grl.yes 8 (v := ?_) rfl (by kernel_rfl) (by kernel_rfl) (by kernel_rfl) (fun _ _ _ h => h) (by kernel_rfl) ?_ (by assumption) ?_
    rotate_left
    · (intro w hSw; (try dsimp only at hSw); go_simp; try with_reducible rfl)
    simp only [Act.put, List.setIfInBounds_toArray, List.set_cons_zero, List.set_cons_succ]
    refine Grl.yes 9 (v := ?_) rfl (by kernel_rfl) (by kernel_rfl) (by kernel_rfl) (fun _ _ _ h => h) (by kernel_rfl) ?_ (by assumption) ?_
    rotate_left
    · (intro w hSw; (try dsimp only at hSw); go_simp; try with_reducible rfl)
    simp only [Act.put, List.setIfInBounds_toArray, List.set_cons_zero, List.set_cons_succ]
    refine Grl.one 10 rfl (by kernel_rfl) (fun K hK => ?_)
    go_simp
    go_wp2_with (refine (unhide HOk w6 (c4.trans (e6.mono c4.size))).mono ?_; rintro e w7 ⟨rfl, b7⟩; have e7 := e6.trans (b7.mono e6.size))
    refine hK.out _ _ (by exact unhide HKK _ e7) (fun hHeld => ?_)
    clear hK K
    refine Grl.yes 11 (v := ?_) rfl (by kernel_rfl) (by kernel_rfl) (by kernel_rfl) (fun _ _ _ h => h) (by kernel_rfl) ?_ (by assumption) ?_
    rotate_left
    · (intro w hSw; (try dsimp only at hSw); go_simp; try with_reducible rfl)
    simp only [Act.put, List.setIfInBounds_toArray, List.set_cons_zero, List.set_cons_succ]
    refine Grl.yes 12 (v := ?_) rfl (by kernel_rfl) (by kernel_rfl) (by kernel_rfl) (fun _ _ _ h => h) (by kernel_rfl) ?_ (by assumption) ?_
    rotate_left
    · (intro w hSw; (try dsimp only at hSw); go_simp; try with_reducible rfl)
    simp only [Act.put, List.setIfInBounds_toArray, List.set_cons_zero, List.set_cons_succ]
    refine Grl.yes 13 (v := ?_) rfl (by kernel_rfl) (by kernel_rfl) (by kernel_rfl) (fun _ _ _ h => h) (by kernel_rfl) ?_ (by assumption) ?_
    rotate_left
    · (intro w hSw; (try dsimp only at hSw); go_simp; try with_reducible rfl)
    simp only [Act.put, List.setIfInBounds_toArray, List.set_cons_zero, List.set_cons_succ]
    refine Grl.no 14 rfl (by kernel_rfl) (by kernel_rfl) (by kernel_rfl) (fun _ _ _ h => h) (by kernel_rfl) (by assumption) ?_
    simp only [Act.put, List.setIfInBounds_toArray, List.set_cons_zero, List.set_cons_succ]
    refine Grl.no 15 rfl (by kernel_rfl) (by kernel_rfl) (by kernel_rfl) (fun _ _ _ h => h) (by kernel_rfl) (by assumption) ?_
    simp only [Act.put, List.setIfInBounds_toArray, List.set_cons_zero, List.set_cons_succ]
    refine Grl.no 16 rfl (by kernel_rfl) (by kernel_rfl) (by kernel_rfl) (fun _ _ _ h => h) (by kernel_rfl) (by assumption) ?_
    simp only [Act.put, List.setIfInBounds_toArray, List.set_cons_zero, List.set_cons_succ]
    refine Grl.yes 17 (v := ?_) rfl (by kernel_rfl) (by kernel_rfl) (by kernel_rfl) (fun _ _ _ h => h) (by kernel_rfl) ?_ (by assumption) ?_
    rotate_left
    · (intro w hSw; (try dsimp only at hSw); go_simp; try with_reducible rfl)
    simp only [Act.put, List.setIfInBounds_toArray, List.set_cons_zero, List.set_cons_succ]
    refine wpAnyH_done (by kernel_rfl) ?_ _
    have eF : Below W4.heap.size W4 w7.drew := e7.drew
    go_wp2_with fail
    refine Grl.start (S := fun X => (X.cell? ⟨W1.heap.size, 0, none⟩ = some (.slice va vn vq) ∧ X.cell? ⟨W1.heap.size, 1, none⟩ = some (.int .i64 H) ∧ X.cell? ⟨W1.heap.size, 2, none⟩ = some (.int .i64 F)) ∧ (X.cell? ⟨W3.heap.size, 0, none⟩ = some (.slice xa xn xq) ∧ X.cell? ⟨W3.heap.size, 1, none⟩ = some (.int .i64 XH) ∧ X.cell? ⟨W3.heap.size, 2, none⟩ = some (.int .i64 XF))) (by kernel_rfl) (by exact unhide HKK _ eF) (fun hHeld => ?_)
    refine Grl.yes 0 (v := ?_) rfl (by kernel_rfl) (by kernel_rfl) (by kernel_rfl) (fun _ _ _ h => h) (by kernel_rfl) ?_ (by assumption) ?_
    rotate_left
    · (intro w hSw; (try dsimp only at hSw); go_simp; try with_reducible rfl)
    simp only [Act.put, List.setIfInBounds_toArray, List.set_cons_zero, List.set_cons_succ]
    refine Grl.yes 1 (v := ?_) rfl (by kernel_rfl) (by kernel_rfl) (by kernel_rfl) (fun _ _ _ h => h) (by kernel_rfl) ?_ (by assumption) ?_
    rotate_left
    · (intro w hSw; (try dsimp only at hSw); go_simp; try with_reducible rfl)
    simp only [Act.put, List.setIfInBounds_toArray, List.set_cons_zero, List.set_cons_succ]
    refine Grl.yes 2 (v := ?_) rfl (by kernel_rfl) (by kernel_rfl) (by kernel_rfl) (fun _ _ _ h => h) (by kernel_rfl) ?_ (by assumption) ?_
    rotate_left
    · (intro w hSw; (try dsimp only at hSw); go_simp; try with_reducible rfl)
    simp only [Act.put, List.setIfInBounds_toArray, List.set_cons_zero, List.set_cons_succ]
    refine Grl.yes 3 (v := ?_) rfl (by kernel_rfl) (by kernel_rfl) (by kernel_rfl) (fun _ _ _ h => h) (by kernel_rfl) ?_ (by assumption) ?_
    rotate_left
    · (intro w hSw; (try dsimp only at hSw); go_simp; try with_reducible rfl)
    simp only [Act.put, List.setIfInBounds_toArray, List.set_cons_zero, List.set_cons_succ]
    refine Grl.yes 4 (v := ?_) rfl (by kernel_rfl) (by kernel_rfl) (by kernel_rfl) (fun _ _ _ h => h) (by kernel_rfl) ?_ (by assumption) ?_
    rotate_left
    · (intro w hSw; (try dsimp only at hSw); go_simp; try with_reducible rfl)
    simp only [Act.put, List.setIfInBounds_toArray, List.set_cons_zero, List.set_cons_succ]
    refine Grl.one 5 rfl (by kernel_rfl) (fun K hK => ?_)
    go_simp
    go_wp2_with (refine (unhide HS w7.drew (c4.trans (eF.mono c4.size))).mono ?_; rintro e w21 ⟨y, rfl, oy, b21⟩; have e21 := eF.trans (b21.mono eF.size); obtain ⟨ya, yn, yq, rfl⟩ := oy.form)
    refine hK.out _ _ (by exact unhide HKK _ e21) (fun hHeld => ?_)
    clear hK K
    refine Grl.one 6 rfl (by kernel_rfl) (fun K hK => ?_)
    go_simp
    go_wp2_with (refine (Tab.al_table ((unhide SX4).below e21) oy.is).mono ?_; rintro e w22 ⟨rfl, b22⟩; have e22 := e21.trans (b22.mono e21.size))
    refine hK.out _ _ (by exact unhide HKK _ e22) (fun hHeld => ?_)
    clear hK K
    refine Grl.yes 7 (v := ?_) rfl (by kernel_rfl) (by kernel_rfl) (by kernel_rfl) (fun _ _ _ h => h) (by kernel_rfl) ?_ (by assumption) ?_
    rotate_left
    · (intro w hSw; (try dsimp only at hSw); go_simp; try with_reducible rfl)
    simp only [Act.put, List.setIfInBounds_toArray, List.set_cons_zero, List.set_cons_succ]
    refine wpAnyH_done (by kernel_rfl) ?_ _
    have d22 := d2.trans ((c4.trans (e22.mono c4.size)).mono d2.size)
    go_wp2
    go_ret
    exact ⟨rfl, d22⟩
  have HT := hide hT
  rw [hT] at HOk
  cases hM : Mat.ok ms
  · rw [hM] at HMk
    clear hM hT
    obtain ⟨⟨k0, k1, k2⟩, ⟨j0, j1, j2⟩⟩ := unhide HKK W4 (Below.refl _ _)
    go_wp2_with fail
    clear k0 k1 k2 j0 j1 j2
    refine Grl.start (S := fun X => (X.cell? ⟨W1.heap.size, 0, none⟩ = some (.slice va vn vq) ∧ X.cell? ⟨W1.heap.size, 1, none⟩ = some (.int .i64 H) ∧ X.cell? ⟨W1.heap.size, 2, none⟩ = some (.int .i64 F)) ∧ (X.cell? ⟨W3.heap.size, 0, none⟩ = some (.slice xa xn xq) ∧ X.cell? ⟨W3.heap.size, 1, none⟩ = some (.int .i64 XH) ∧ X.cell? ⟨W3.heap.size, 2, none⟩ = some (.int .i64 XF))) (by kernel_rfl) (by exact unhide HKK _ eD) (fun hHeld => ?_)
    refine Grl.yes 0 (v := ?_) rfl (by kernel_rfl) (by kernel_rfl) (by kernel_rfl) (fun _ _ _ h => h) (by kernel_rfl) ?_ (by assumption) ?_
    rotate_left
    · (intro w hSw; (try dsimp only at hSw); go_simp; try with_reducible rfl)
    simp only [Act.put, List.setIfInBounds_toArray, List.set_cons_zero, List.set_cons_succ]
    refine Grl.yes 1 (v := ?_) rfl (by kernel_rfl) (by kernel_rfl) (by kernel_rfl) (fun _ _ _ h => h) (by kernel_rfl) ?_ (by assumption) ?_
    rotate_left
    · (intro w hSw; (try dsimp only at hSw); go_simp; try with_reducible rfl)
    simp only [Act.put, List.setIfInBounds_toArray, List.set_cons_zero, List.set_cons_succ]
    refine Grl.yes 2 (v := ?_) rfl (by kernel_rfl) (by kernel_rfl) (by kernel_rfl) (fun _ _ _ h => h) (by kernel_rfl) ?_ (by assumption) ?_
    rotate_left
    · (intro w hSw; (try dsimp only at hSw); go_simp; try with_reducible rfl)
    simp only [Act.put, List.setIfInBounds_toArray, List.set_cons_zero, List.set_cons_succ]
    refine Grl.yes 3 (v := ?_) rfl (by kernel_rfl) (by kernel_rfl) (by kernel_rfl) (fun _ _ _ h => h) (by kernel_rfl) ?_ (by assumption) ?_
    rotate_left
    · (intro w hSw; (try dsimp only at hSw); go_simp; try with_reducible rfl)
    simp only [Act.put, List.setIfInBounds_toArray, List.set_cons_zero, List.set_cons_succ]
    refine Grl.yes 4 (v := ?_) rfl (by kernel_rfl) (by kernel_rfl) (by kernel_rfl) (fun _ _ _ h => h) (by kernel_rfl) ?_ (by assumption) ?_
    rotate_left
    · (intro w hSw; (try dsimp only at hSw); go_simp; try with_reducible rfl)
    simp only [Act.put, List.setIfInBounds_toArray, List.set_cons_zero, List.set_cons_succ]
    refine Grl.one 5 rfl (by kernel_rfl) (fun K hK => ?_)
    go_simp
    go_wp2_with (refine (unhide HS W4.drew (c4.trans (eD.mono c4.size))).mono ?_; rintro e w5 ⟨y, rfl, oy, b5⟩; have e5 := eD.trans (b5.mono eD.size); obtain ⟨ya, yn, yq, rfl⟩ := oy.form)
    refine hK.out _ _ (by exact unhide HKK _ e5) (fun hHeld => ?_)
    clear hK K
    refine Grl.one 6 rfl (by kernel_rfl) (fun K hK => ?_)
    go_simp
    go_wp2_with (refine (Tab.al_table ((unhide SX4).below e5) oy.is).mono ?_; rintro e w6 ⟨rfl, b6⟩; have e6 := e5.trans (b6.mono e5.size))
    refine hK.out _ _ (by exact unhide HKK _ e6) (fun hHeld => ?_)
    clear hK K
    refine Grl.yes 7 (v := ?_) rfl (by kernel_rfl) (by kernel_rfl) (by kernel_rfl) (fun _ _ _ h => h) (by kernel_rfl) ?_ (by assumption) ?_
    rotate_left
    · (intro w hSw; (try dsimp only at hSw); go_simp; try with_reducible rfl)
    simp only [Act.put, List.setIfInBounds_toArray, List.set_cons_zero, List.set_cons_succ]
    refine Grl.yes 8 (v := ?_) rfl (by kernel_rfl) (by kernel_rfl) (by kernel_rfl) (fun _ _ _ h => h) (by kernel_rfl) ?_ (by assumption) ?_
    rotate_left
    · (intro w hSw; (try dsimp only at hSw); go_simp; try with_reducible rfl)
    simp only [Act.put, List.setIfInBounds_toArray, List.set_cons_zero, List.set_cons_succ]
    refine Grl.yes 9 (v := ?_) rfl (by kernel_rfl) (by kernel_rfl) (by kernel_rfl) (fun _ _ _ h => h) (by kernel_rfl) ?_ (by assumption) ?_
    rotate_left
    · (intro w hSw; (try dsimp only at hSw); go_simp; try with_reducible rfl)
    simp only [Act.put, List.setIfInBounds_toArray, List.set_cons_zero, List.set_cons_succ]
    refine Grl.one 10 rfl (by kernel_rfl) (fun K hK => ?_)
    go_simp
    go_wp2_with (refine (unhide HOk w6 (c4.trans (e6.mono c4.size))).mono ?_; rintro e w7 ⟨rfl, b7⟩; have e7 := e6.trans (b7.mono e6.size))
    refine hK.out _ _ (by exact unhide HKK _ e7) (fun hHeld => ?_)
    clear hK K
    refine Grl.yes 11 (v := ?_) rfl (by kernel_rfl) (by kernel_rfl) (by kernel_rfl) (fun _ _ _ h => h) (by kernel_rfl) ?_ (by assumption) ?_
    rotate_left
    · (intro w hSw; (try dsimp only at hSw); go_simp; try with_reducible rfl)
    simp only [Act.put, List.setIfInBounds_toArray, List.set_cons_zero, List.set_cons_succ]
    refine Grl.yes 12 (v := ?_) rfl (by kernel_rfl) (by kernel_rfl) (by kernel_rfl) (fun _ _ _ h => h) (by kernel_rfl) ?_ (by assumption) ?_
    rotate_left
    · (intro w hSw; (try dsimp only at hSw); go_simp; try with_reducible rfl)
    simp only [Act.put, List.setIfInBounds_toArray, List.set_cons_zero, List.set_cons_succ]
    refine Grl.yes 13 (v := ?_) rfl (by kernel_rfl) (by kernel_rfl) (by kernel_rfl) (fun _ _ _ h => h) (by kernel_rfl) ?_ (by assumption) ?_
    rotate_left
    · (intro w hSw; (try dsimp only at hSw); go_simp; try with_reducible rfl)
    simp only [Act.put, List.setIfInBounds_toArray, List.set_cons_zero, List.set_cons_succ]
    refine Grl.yes 14 (v := ?_) rfl (by kernel_rfl) (by kernel_rfl) (by kernel_rfl) (fun _ _ _ h => h) (by kernel_rfl) ?_ (by assumption) ?_
    rotate_left
    · (intro w hSw; (try dsimp only at hSw); go_simp; try with_reducible rfl)
    simp only [Act.put, List.setIfInBounds_toArray, List.set_cons_zero, List.set_cons_succ]
    refine Grl.one 15 rfl (by kernel_rfl) (fun K hK => ?_)
    go_simp
    go_wp2_with (refine (unhide HMk w7 (c4.trans (e7.mono c4.size))).mono ?_; rintro e w8 ⟨rfl, b8⟩; have e8 := e7.trans (b8.mono e7.size))
    refine hK.out _ _ (by exact unhide HKK _ e8) (fun hHeld => ?_)
    clear hK K
    refine Grl.yes 16 (v := ?_) rfl (by kernel_rfl) (by kernel_rfl) (by kernel_rfl) (fun _ _ _ h => h) (by kernel_rfl) ?_ (by assumption) ?_
    rotate_left
    · (intro w hSw; (try dsimp only at hSw); go_simp; try with_reducible rfl)
    simp only [Act.put, List.setIfInBounds_toArray, List.set_cons_zero, List.set_cons_succ]
    refine Grl.yes 17 (v := ?_) rfl (by kernel_rfl) (by kernel_rfl) (by kernel_rfl) (fun _ _ _ h => h) (by kernel_rfl) ?_ (by assumption) ?_
    rotate_left
    · (intro w hSw; (try dsimp only at hSw); go_simp; try with_reducible rfl)
    simp only [Act.put, List.setIfInBounds_toArray, List.set_cons_zero, List.set_cons_succ]
    refine wpAnyH_done (by kernel_rfl) ?_ _
    have eF : Below W4.heap.size W4 w8.drew := e8.drew
    go_wp2_with fail
    refine Grl.start (S := fun X => (X.cell? ⟨W1.heap.size, 0, none⟩ = some (.slice va vn vq) ∧ X.cell? ⟨W1.heap.size, 1, none⟩ = some (.int .i64 H) ∧ X.cell? ⟨W1.heap.size, 2, none⟩ = some (.int .i64 F)) ∧ (X.cell? ⟨W3.heap.size, 0, none⟩ = some (.slice xa xn xq) ∧ X.cell? ⟨W3.heap.size, 1, none⟩ = some (.int .i64 XH) ∧ X.cell? ⟨W3.heap.size, 2, none⟩ = some (.int .i64 XF))) (by kernel_rfl) (by exact unhide HKK _ eF) (fun hHeld => ?_)
    refine Grl.yes 0 (v := ?_) rfl (by kernel_rfl) (by kernel_rfl) (by kernel_rfl) (fun _ _ _ h => h) (by kernel_rfl) ?_ (by assumption) ?_
    rotate_left
    · (intro w hSw; (try dsimp only at hSw); go_simp; try with_reducible rfl)
    simp only [Act.put, List.setIfInBounds_toArray, List.set_cons_zero, List.set_cons_succ]
    refine Grl.yes 1 (v := ?_) rfl (by kernel_rfl) (by kernel_rfl) (by kernel_rfl) (fun _ _ _ h => h) (by kernel_rfl) ?_ (by assumption) ?_
    rotate_left
    · (intro w hSw; (try dsimp only at hSw); go_simp; try with_reducible rfl)
    simp only [Act.put, List.setIfInBounds_toArray, List.set_cons_zero, List.set_cons_succ]
    refine Grl.yes 2 (v := ?_) rfl (by kernel_rfl) (by kernel_rfl) (by kernel_rfl) (fun _ _ _ h => h) (by kernel_rfl) ?_ (by assumption) ?_
    rotate_left
    · (intro w hSw; (try dsimp only at hSw); go_simp; try with_reducible rfl)
    simp only [Act.put, List.setIfInBounds_toArray, List.set_cons_zero, List.set_cons_succ]
    refine Grl.yes 3 (v := ?_) rfl (by kernel_rfl) (by kernel_rfl) (by kernel_rfl) (fun _ _ _ h => h) (by kernel_rfl) ?_ (by assumption) ?_
    rotate_left
    · (intro w hSw; (try dsimp only at hSw); go_simp; try with_reducible rfl)
    simp only [Act.put, List.setIfInBounds_toArray, List.set_cons_zero, List.set_cons_succ]
    refine Grl.yes 4 (v := ?_) rfl (by kernel_rfl) (by kernel_rfl) (by kernel_rfl) (fun _ _ _ h => h) (by kernel_rfl) ?_ (by assumption) ?_
    rotate_left
    · (intro w hSw; (try dsimp only at hSw); go_simp; try with_reducible rfl)
    simp only [Act.put, List.setIfInBounds_toArray, List.set_cons_zero, List.set_cons_succ]
    refine Grl.one 5 rfl (by kernel_rfl) (fun K hK => ?_)
    go_simp
    go_wp2_with (refine (unhide HS w8.drew (c4.trans (eF.mono c4.size))).mono ?_; rintro e w21 ⟨y, rfl, oy, b21⟩; have e21 := eF.trans (b21.mono eF.size); obtain ⟨ya, yn, yq, rfl⟩ := oy.form)
    refine hK.out _ _ (by exact unhide HKK _ e21) (fun hHeld => ?_)
    clear hK K
    refine Grl.one 6 rfl (by kernel_rfl) (fun K hK => ?_)
    go_simp
    go_wp2_with (refine (Tab.al_table ((unhide SX4).below e21) oy.is).mono ?_; rintro e w22 ⟨rfl, b22⟩; have e22 := e21.trans (b22.mono e21.size))
    refine hK.out _ _ (by exact unhide HKK _ e22) (fun hHeld => ?_)
    clear hK K
    refine Grl.yes 7 (v := ?_) rfl (by kernel_rfl) (by kernel_rfl) (by kernel_rfl) (fun _ _ _ h => h) (by kernel_rfl) ?_ (by assumption) ?_
    rotate_left
    · (intro w hSw; (try dsimp only at hSw); go_simp; try with_reducible rfl)
    simp only [Act.put, List.setIfInBounds_toArray, List.set_cons_zero, List.set_cons_succ]
    refine wpAnyH_done (by kernel_rfl) ?_ _
    have d22 := d2.trans ((c4.trans (e22.mono c4.size)).mono d2.size)
    go_wp2
    go_ret
    exact ⟨rfl, d22⟩
  have hrk := Tab.table_ok hT
  have hXe : (X, XH, XF) = (Row.drop ms A B L, H, F) := by rw [unhide HX]; unfold Tab.drop; rw [if_pos hT, if_pos hM]
  simp only [Prod.mk.injEq] at hXe
  obtain ⟨hX1, hXH, hXF⟩ := hXe
  obtain rfl : H = XH := hXH.symm
  obtain rfl : F = XF := hXF.symm
  have HYe := hide (Tab.ask_is (ms := ms) A B hT)
  rw [hM] at HMk
  have HXt := hide (show Row.tableB X H F = true by rw [hX1]; exact Row.drop_tab A B hT hM)
  have HXok := hide (show Row.ok X = true by rw [hX1]; exact Row.drop_ok A B hrk hM)
  have HYok := hide (Row.ask_ok (ms := ms) A B hrk)
  have HCn := hide (show Row.cntS X + Row.cntS (Row.ask ms A B L) = Row.cntS L by rw [hX1]; exact Row.drop_cnt2 A B hrk hM)
  have HXA2 := hide (show Tab.ask ms A B X H F = [] by rw [Tab.ask_is A B (unhide HXt), hX1]; exact Row.drop_asked A B hrk hM)
  have HRK := hide hrk
  clear hT hM hX1 hrk HX
  obtain ⟨⟨k0, k1, k2⟩, ⟨j0, j1, j2⟩⟩ := unhide HKK W4 (Below.refl _ _)
  go_wp2_with fail
  clear k0 k1 k2 j0 j1 j2
  refine Grl.start (S := fun X => (X.cell? ⟨W1.heap.size, 0, none⟩ = some (.slice va vn vq) ∧ X.cell? ⟨W1.heap.size, 1, none⟩ = some (.int .i64 H) ∧ X.cell? ⟨W1.heap.size, 2, none⟩ = some (.int .i64 F)) ∧ (X.cell? ⟨W3.heap.size, 0, none⟩ = some (.slice xa xn xq) ∧ X.cell? ⟨W3.heap.size, 1, none⟩ = some (.int .i64 H) ∧ X.cell? ⟨W3.heap.size, 2, none⟩ = some (.int .i64 F))) (by kernel_rfl) (by exact unhide HKK _ eD) (fun hHeld => ?_)
  refine Grl.yes 0 (v := ?_) rfl (by kernel_rfl) (by kernel_rfl) (by kernel_rfl) (fun _ _ _ h => h) (by kernel_rfl) ?_ (by assumption) ?_
  rotate_left
  · (intro w hSw; (try dsimp only at hSw); go_simp; try with_reducible rfl)
  simp only [Act.put, List.setIfInBounds_toArray, List.set_cons_zero, List.set_cons_succ]
  refine Grl.yes 1 (v := ?_) rfl (by kernel_rfl) (by kernel_rfl) (by kernel_rfl) (fun _ _ _ h => h) (by kernel_rfl) ?_ (by assumption) ?_
  rotate_left
  · (intro w hSw; (try dsimp only at hSw); go_simp; try with_reducible rfl)
  simp only [Act.put, List.setIfInBounds_toArray, List.set_cons_zero, List.set_cons_succ]
  refine Grl.yes 2 (v := ?_) rfl (by kernel_rfl) (by kernel_rfl) (by kernel_rfl) (fun _ _ _ h => h) (by kernel_rfl) ?_ (by assumption) ?_
  rotate_left
  · (intro w hSw; (try dsimp only at hSw); go_simp; try with_reducible rfl)
  simp only [Act.put, List.setIfInBounds_toArray, List.set_cons_zero, List.set_cons_succ]
  refine Grl.yes 3 (v := ?_) rfl (by kernel_rfl) (by kernel_rfl) (by kernel_rfl) (fun _ _ _ h => h) (by kernel_rfl) ?_ (by assumption) ?_
  rotate_left
  · (intro w hSw; (try dsimp only at hSw); go_simp; try with_reducible rfl)
  simp only [Act.put, List.setIfInBounds_toArray, List.set_cons_zero, List.set_cons_succ]
  refine Grl.yes 4 (v := ?_) rfl (by kernel_rfl) (by kernel_rfl) (by kernel_rfl) (fun _ _ _ h => h) (by kernel_rfl) ?_ (by assumption) ?_
  rotate_left
  · (intro w hSw; (try dsimp only at hSw); go_simp; try with_reducible rfl)
  simp only [Act.put, List.setIfInBounds_toArray, List.set_cons_zero, List.set_cons_succ]
  refine Grl.one 5 rfl (by kernel_rfl) (fun K hK => ?_)
  go_simp
  go_wp2_with (refine (unhide HS W4.drew (c4.trans (eD.mono c4.size))).mono ?_; rintro e w5 ⟨y, rfl, oy, b5⟩; have e5 := eD.trans (b5.mono eD.size); obtain ⟨ya, yn, yq, rfl⟩ := oy.form)
  refine hK.out _ _ (by exact unhide HKK _ e5) (fun hHeld => ?_)
  clear hK K
  refine Grl.one 6 rfl (by kernel_rfl) (fun K hK => ?_)
  go_simp
  go_wp2_with (refine (Tab.al_table ((unhide SX4).below e5) oy.is).mono ?_; rintro e w6 ⟨rfl, b6⟩; have e6 := e5.trans (b6.mono e5.size))
  refine hK.out _ _ (by exact unhide HKK _ e6) (fun hHeld => ?_)
  clear hK K
  refine Grl.yes 7 (v := ?_) rfl (by kernel_rfl) (by kernel_rfl) (by kernel_rfl) (fun _ _ _ h => h) (by kernel_rfl) ?_ (by assumption) ?_
  rotate_left
  · (intro w hSw; (try dsimp only at hSw); go_simp; try with_reducible rfl)
  simp only [Act.put, List.setIfInBounds_toArray, List.set_cons_zero, List.set_cons_succ]
  refine Grl.yes 8 (v := ?_) rfl (by kernel_rfl) (by kernel_rfl) (by kernel_rfl) (fun _ _ _ h => h) (by kernel_rfl) ?_ (by assumption) ?_
  rotate_left
  · (intro w hSw; (try dsimp only at hSw); go_simp; try with_reducible rfl)
  simp only [Act.put, List.setIfInBounds_toArray, List.set_cons_zero, List.set_cons_succ]
  refine Grl.yes 9 (v := ?_) rfl (by kernel_rfl) (by kernel_rfl) (by kernel_rfl) (fun _ _ _ h => h) (by kernel_rfl) ?_ (by assumption) ?_
  rotate_left
  · (intro w hSw; (try dsimp only at hSw); go_simp; try with_reducible rfl)
  simp only [Act.put, List.setIfInBounds_toArray, List.set_cons_zero, List.set_cons_succ]
  refine Grl.one 10 rfl (by kernel_rfl) (fun K hK => ?_)
  go_simp
  go_wp2_with (refine (unhide HOk w6 (c4.trans (e6.mono c4.size))).mono ?_; rintro e w7 ⟨rfl, b7⟩; have e7 := e6.trans (b7.mono e6.size))
  refine hK.out _ _ (by exact unhide HKK _ e7) (fun hHeld => ?_)
  clear hK K
  refine Grl.yes 11 (v := ?_) rfl (by kernel_rfl) (by kernel_rfl) (by kernel_rfl) (fun _ _ _ h => h) (by kernel_rfl) ?_ (by assumption) ?_
  rotate_left
  · (intro w hSw; (try dsimp only at hSw); go_simp; try with_reducible rfl)
  simp only [Act.put, List.setIfInBounds_toArray, List.set_cons_zero, List.set_cons_succ]
  refine Grl.yes 12 (v := ?_) rfl (by kernel_rfl) (by kernel_rfl) (by kernel_rfl) (fun _ _ _ h => h) (by kernel_rfl) ?_ (by assumption) ?_
  rotate_left
  · (intro w hSw; (try dsimp only at hSw); go_simp; try with_reducible rfl)
  simp only [Act.put, List.setIfInBounds_toArray, List.set_cons_zero, List.set_cons_succ]
  refine Grl.yes 13 (v := ?_) rfl (by kernel_rfl) (by kernel_rfl) (by kernel_rfl) (fun _ _ _ h => h) (by kernel_rfl) ?_ (by assumption) ?_
  rotate_left
  · (intro w hSw; (try dsimp only at hSw); go_simp; try with_reducible rfl)
  simp only [Act.put, List.setIfInBounds_toArray, List.set_cons_zero, List.set_cons_succ]
  refine Grl.yes 14 (v := ?_) rfl (by kernel_rfl) (by kernel_rfl) (by kernel_rfl) (fun _ _ _ h => h) (by kernel_rfl) ?_ (by assumption) ?_
  rotate_left
  · (intro w hSw; (try dsimp only at hSw); go_simp; try with_reducible rfl)
  simp only [Act.put, List.setIfInBounds_toArray, List.set_cons_zero, List.set_cons_succ]
  refine Grl.one 15 rfl (by kernel_rfl) (fun K hK => ?_)
  go_simp
  go_wp2_with (refine (unhide HMk w7 (c4.trans (e7.mono c4.size))).mono ?_; rintro e w8 ⟨rfl, b8⟩; have e8 := e7.trans (b8.mono e7.size))
  refine hK.out _ _ (by exact unhide HKK _ e8) (fun hHeld => ?_)
  clear hK K
  refine Grl.yes 16 (v := ?_) rfl (by kernel_rfl) (by kernel_rfl) (by kernel_rfl) (fun _ _ _ h => h) (by kernel_rfl) ?_ (by assumption) ?_
  rotate_left
  · (intro w hSw; (try dsimp only at hSw); go_simp; try with_reducible rfl)
  simp only [Act.put, List.setIfInBounds_toArray, List.set_cons_zero, List.set_cons_succ]
  refine Grl.yes 17 (v := ?_) rfl (by kernel_rfl) (by kernel_rfl) (by kernel_rfl) (fun _ _ _ h => h) (by kernel_rfl) ?_ (by assumption) ?_
  rotate_left
  · (intro w hSw; (try dsimp only at hSw); go_simp; try with_reducible rfl)
  simp only [Act.put, List.setIfInBounds_toArray, List.set_cons_zero, List.set_cons_succ]
  refine wpAnyH_done (by kernel_rfl) ?_ _
  have c8 := hide (c4.trans (e8.mono c4.size))
  have SX8 := hide ((unhide SX4).below e8)
  have HK8 := hide (fun (X : World) (hb : Below w8.heap.size w8 X) => unhide HKK X (e8.trans (hb.mono e8.size)))
  clear b5 b6 b7 b8 e5 e6 e7 e8 eD oy HS HOk HMk SX4 HKK
  obtain ⟨⟨k0, k1, k2⟩, ⟨j0, j1, j2⟩⟩ := unhide HK8 w8 (Below.refl _ _)
  go_wp2_with fail
  refine (unhide HA w8 (unhide c8)).mono ?_
  rintro e W9 ⟨y, rfl, oy, b9⟩
  rw [unhide HYe] at oy
  clear k0 k1 k2 j0 j1 j2
  have c9 := hide ((unhide c8).trans (b9.mono (unhide c8).size))
  have HKK := hide (fun (X : World) (hb : Below W9.heap.size W9 X) => unhide HK8 X (b9.trans (hb.mono b9.size)))
  have SX9 := hide ((unhide SX8).below b9)
  have SY9 := hide oy.is
  obtain ⟨ya, yn, yq, rfl⟩ := oy.form
  have HV9 := hide ((unhide HV).below (unhide c9))
  have HU9 := hide ((unhide HU).below (unhide c9))
  clear oy b9 HK8 SX8 HA c8 HYe
  have HXg := hide (Row.fine_good (Row.fine_ok (unhide HXok)))
  have hmlX : Hid (X.length ≤ maxLen) := by have := Row.ok_len (unhide HXok); show X.length ≤ maxLen; unfold maxLen; omega
  have HTx := hide (fun Z (hb : Below W9.heap.size W9 Z) => Tab.impl_table2 ((unhide SX9).below hb) (unhide HXg) (unhide hmlX) (unhide HXt))
  have HAx := hide (fun Z (hb : Below W9.heap.size W9 Z) => Tab.impl_ask2 A B H F ((unhide SX9).below hb) ((unhide HU9).below hb) (unhide HXg) (unhide hmlX) (unhide hgM) (unhide hlM) (unhide HXA2))
  have sX := Row.small_ok (unhide HXok)
  have sY := Row.small_ok (unhide HYok)
  have sL := Row.small_ok (unhide HRK)
  have HcX := hide (fun Z (hb : Below W9.heap.size W9 Z) => Row.al_count ((unhide SX9).below hb) sX.1 sX.2.1)
  have HcY := hide (fun Z (hb : Below W9.heap.size W9 Z) => Row.al_count ((unhide SY9).below hb) sY.1 sY.2.1)
  have HcL := hide (fun Z (hb : Below W9.heap.size W9 Z) => Row.al_count ((unhide HV9).below hb) sL.1 sL.2.1)
  have hcn := unhide HCn
  obtain ⟨nX, hnX⟩ : ∃ k, k = Row.cntS X := ⟨_, rfl⟩
  obtain ⟨nY, hnY⟩ : ∃ k, k = Row.cntS (Row.ask ms A B L) := ⟨_, rfl⟩
  obtain ⟨nL, hnL⟩ : ∃ k, k = Row.cntS L := ⟨_, rfl⟩
  have bX := sX.2.2
  have bY := sY.2.2
  rw [← hnX] at HcX hcn bX
  rw [← hnY] at HcY hcn bY
  rw [← hnL] at HcL hcn
  have hsum : (nY : Int) + (nX : Int) = (nL : Int) := by omega
  have hwr : IntKind.i64.wrap (nL : Int) = (nL : Int) := Tab.wrap_in (n := (nL : Int)) (by omega) (by omega)
  have d9 := hide (d2.trans ((unhide c9).mono d2.size))
  have eD : Below W9.heap.size W9 W9.drew := (Below.refl _ _).drew
  obtain ⟨⟨k0, k1, k2⟩, ⟨j0, j1, j2⟩⟩ := unhide HKK W9 (Below.refl _ _)
  clear sX sY sL hnX hnY hnL hcn HCn HXt HXok HYok HXA2 HRK HV9 HU9 bX bY HT HVN
  go_wp2_with fail
  clear k0 k1 k2 j0 j1 j2
  refine Grl.start (S := fun X => (X.cell? ⟨W1.heap.size, 0, none⟩ = some (.slice va vn vq) ∧ X.cell? ⟨W1.heap.size, 1, none⟩ = some (.int .i64 H) ∧ X.cell? ⟨W1.heap.size, 2, none⟩ = some (.int .i64 F)) ∧ (X.cell? ⟨W3.heap.size, 0, none⟩ = some (.slice xa xn xq) ∧ X.cell? ⟨W3.heap.size, 1, none⟩ = some (.int .i64 H) ∧ X.cell? ⟨W3.heap.size, 2, none⟩ = some (.int .i64 F))) (by kernel_rfl) (by exact unhide HKK _ eD) (fun hHeld => ?_)
  refine Grl.yes 0 (v := ?_) rfl (by kernel_rfl) (by kernel_rfl) (by kernel_rfl) (fun _ _ _ h => h) (by kernel_rfl) ?_ (by assumption) ?_
  rotate_left
  · (intro w hSw; (try dsimp only at hSw); go_simp; try with_reducible rfl)
  simp only [Act.put, List.setIfInBounds_toArray, List.set_cons_zero, List.set_cons_succ]
  refine Grl.one 1 rfl (by kernel_rfl) (fun K hK => ?_)
  go_simp
  go_wp2_with (refine (unhide HTx W9.drew eD).mono ?_; rintro e w10 ⟨rfl, b10⟩; have e10 := eD.trans (b10.mono eD.size))
  refine hK.out _ _ (by exact unhide HKK _ e10) (fun hHeld => ?_)
  clear hK K
  refine Grl.yes 2 (v := ?_) rfl (by kernel_rfl) (by kernel_rfl) (by kernel_rfl) (fun _ _ _ h => h) (by kernel_rfl) ?_ (by assumption) ?_
  rotate_left
  · (intro w hSw; (try dsimp only at hSw); go_simp; try with_reducible rfl)
  simp only [Act.put, List.setIfInBounds_toArray, List.set_cons_zero, List.set_cons_succ]
  refine Grl.yes 3 (v := ?_) rfl (by kernel_rfl) (by kernel_rfl) (by kernel_rfl) (fun _ _ _ h => h) (by kernel_rfl) ?_ (by assumption) ?_
  rotate_left
  · (intro w hSw; (try dsimp only at hSw); go_simp; try with_reducible rfl)
  simp only [Act.put, List.setIfInBounds_toArray, List.set_cons_zero, List.set_cons_succ]
  refine Grl.yes 4 (v := ?_) rfl (by kernel_rfl) (by kernel_rfl) (by kernel_rfl) (fun _ _ _ h => h) (by kernel_rfl) ?_ (by assumption) ?_
  rotate_left
  · (intro w hSw; (try dsimp only at hSw); go_simp; try with_reducible rfl)
  simp only [Act.put, List.setIfInBounds_toArray, List.set_cons_zero, List.set_cons_succ]
  refine Grl.yes 5 (v := ?_) rfl (by kernel_rfl) (by kernel_rfl) (by kernel_rfl) (fun _ _ _ h => h) (by kernel_rfl) ?_ (by assumption) ?_
  rotate_left
  · (intro w hSw; (try dsimp only at hSw); go_simp; try with_reducible rfl)
  simp only [Act.put, List.setIfInBounds_toArray, List.set_cons_zero, List.set_cons_succ]
  refine Grl.yes 6 (v := ?_) rfl (by kernel_rfl) (by kernel_rfl) (by kernel_rfl) (fun _ _ _ h => h) (by kernel_rfl) ?_ (by assumption) ?_
  rotate_left
  · (intro w hSw; (try dsimp only at hSw); go_simp; try with_reducible rfl)
  simp only [Act.put, List.setIfInBounds_toArray, List.set_cons_zero, List.set_cons_succ]
  refine Grl.yes 7 (v := ?_) rfl (by kernel_rfl) (by kernel_rfl) (by kernel_rfl) (fun _ _ _ h => h) (by kernel_rfl) ?_ (by assumption) ?_
  rotate_left
  · (intro w hSw; (try dsimp only at hSw); go_simp; try with_reducible rfl)
  simp only [Act.put, List.setIfInBounds_toArray, List.set_cons_zero, List.set_cons_succ]
  refine Grl.yes 8 (v := ?_) rfl (by kernel_rfl) (by kernel_rfl) (by kernel_rfl) (fun _ _ _ h => h) (by kernel_rfl) ?_ (by assumption) ?_
  rotate_left
  · (intro w hSw; (try dsimp only at hSw); go_simp; try with_reducible rfl)
  simp only [Act.put, List.setIfInBounds_toArray, List.set_cons_zero, List.set_cons_succ]
  refine Grl.yes 9 (v := ?_) rfl (by kernel_rfl) (by kernel_rfl) (by kernel_rfl) (fun _ _ _ h => h) (by kernel_rfl) ?_ (by assumption) ?_
  rotate_left
  · (intro w hSw; (try dsimp only at hSw); go_simp; try with_reducible rfl)
  simp only [Act.put, List.setIfInBounds_toArray, List.set_cons_zero, List.set_cons_succ]
  refine Grl.yes 10 (v := ?_) rfl (by kernel_rfl) (by kernel_rfl) (by kernel_rfl) (fun _ _ _ h => h) (by kernel_rfl) ?_ (by assumption) ?_
  rotate_left
  · (intro w hSw; (try dsimp only at hSw); go_simp; try with_reducible rfl)
  simp only [Act.put, List.setIfInBounds_toArray, List.set_cons_zero, List.set_cons_succ]
  refine Grl.yes 11 (v := ?_) rfl (by kernel_rfl) (by kernel_rfl) (by kernel_rfl) (fun _ _ _ h => h) (by kernel_rfl) ?_ (by assumption) ?_
  rotate_left
  · (intro w hSw; (try dsimp only at hSw); go_simp; try with_reducible rfl)
  simp only [Act.put, List.setIfInBounds_toArray, List.set_cons_zero, List.set_cons_succ]
  refine Grl.yes 12 (v := ?_) rfl (by kernel_rfl) (by kernel_rfl) (by kernel_rfl) (fun _ _ _ h => h) (by kernel_rfl) ?_ (by assumption) ?_
  rotate_left
  · (intro w hSw; (try dsimp only at hSw); go_simp; try with_reducible rfl)
  simp only [Act.put, List.setIfInBounds_toArray, List.set_cons_zero, List.set_cons_succ]
  refine Grl.yes 13 (v := ?_) rfl (by kernel_rfl) (by kernel_rfl) (by kernel_rfl) (fun _ _ _ h => h) (by kernel_rfl) ?_ (by assumption) ?_
  rotate_left
  · (intro w hSw; (try dsimp only at hSw); go_simp; try with_reducible rfl)
  simp only [Act.put, List.setIfInBounds_toArray, List.set_cons_zero, List.set_cons_succ]
  refine Grl.yes 14 (v := ?_) rfl (by kernel_rfl) (by kernel_rfl) (by kernel_rfl) (fun _ _ _ h => h) (by kernel_rfl) ?_ (by assumption) ?_
  rotate_left
  · (intro w hSw; (try dsimp only at hSw); go_simp; try with_reducible rfl)
  simp only [Act.put, List.setIfInBounds_toArray, List.set_cons_zero, List.set_cons_succ]
  refine Grl.yes 15 (v := ?_) rfl (by kernel_rfl) (by kernel_rfl) (by kernel_rfl) (fun _ _ _ h => h) (by kernel_rfl) ?_ (by assumption) ?_
  rotate_left
  · (intro w hSw; (try dsimp only at hSw); go_simp; try with_reducible rfl)
  simp only [Act.put, List.setIfInBounds_toArray, List.set_cons_zero, List.set_cons_succ]
  refine Grl.yes 16 (v := ?_) rfl (by kernel_rfl) (by kernel_rfl) (by kernel_rfl) (fun _ _ _ h => h) (by kernel_rfl) ?_ (by assumption) ?_
  rotate_left
  · (intro w hSw; (try dsimp only at hSw); go_simp; try with_reducible rfl)
  simp only [Act.put, List.setIfInBounds_toArray, List.set_cons_zero, List.set_cons_succ]
  refine Grl.yes 17 (v := ?_) rfl (by kernel_rfl) (by kernel_rfl) (by kernel_rfl) (fun _ _ _ h => h) (by kernel_rfl) ?_ (by assumption) ?_
  rotate_left
  · (intro w hSw; (try dsimp only at hSw); go_simp; try with_reducible rfl)
  simp only [Act.put, List.setIfInBounds_toArray, List.set_cons_zero, List.set_cons_succ]
  refine Grl.yes 18 (v := ?_) rfl (by kernel_rfl) (by kernel_rfl) (by kernel_rfl) (fun _ _ _ h => h) (by kernel_rfl) ?_ (by assumption) ?_
  rotate_left
  · (intro w hSw; (try dsimp only at hSw); go_simp; try with_reducible rfl)
  simp only [Act.put, List.setIfInBounds_toArray, List.set_cons_zero, List.set_cons_succ]
  refine Grl.yes 19 (v := ?_) rfl (by kernel_rfl) (by kernel_rfl) (by kernel_rfl) (fun _ _ _ h => h) (by kernel_rfl) ?_ (by assumption) ?_
  rotate_left
  · (intro w hSw; (try dsimp only at hSw); go_simp; try with_reducible rfl)
  simp only [Act.put, List.setIfInBounds_toArray, List.set_cons_zero, List.set_cons_succ]
  refine Grl.yes 20 (v := ?_) rfl (by kernel_rfl) (by kernel_rfl) (by kernel_rfl) (fun _ _ _ h => h) (by kernel_rfl) ?_ (by assumption) ?_
  rotate_left
  · (intro w hSw; (try dsimp only at hSw); go_simp; try with_reducible rfl)
  simp only [Act.put, List.setIfInBounds_toArray, List.set_cons_zero, List.set_cons_succ]
  refine Grl.one 21 rfl (by kernel_rfl) (fun K hK => ?_)
  go_simp
  go_wp2_with (refine (unhide HAx w10 e10).mono ?_; rintro e w11 ⟨q, rfl, oq, b11⟩; have e11 := e10.trans (b11.mono e10.size); obtain ⟨qa, qq, hq⟩ := Tab.row_form oq.is; simp only [List.length_nil] at hq; subst hq)
  refine hK.out _ _ (by exact unhide HKK _ e11) (fun hHeld => ?_)
  clear hK K
  refine Grl.yes 22 (v := ?_) rfl (by kernel_rfl) (by kernel_rfl) (by kernel_rfl) (fun _ _ _ h => h) (by kernel_rfl) ?_ (by assumption) ?_
  rotate_left
  · (intro w hSw; (try dsimp only at hSw); go_simp; try with_reducible rfl)
  simp only [Act.put, List.setIfInBounds_toArray, List.set_cons_zero, List.set_cons_succ]
  refine Grl.yes 23 (v := ?_) rfl (by kernel_rfl) (by kernel_rfl) (by kernel_rfl) (fun _ _ _ h => h) (by kernel_rfl) ?_ (by assumption) ?_
  rotate_left
  · (intro w hSw; (try dsimp only at hSw); go_simp; try with_reducible rfl)
  simp only [Act.put, List.setIfInBounds_toArray, List.set_cons_zero, List.set_cons_succ]
  refine Grl.yes 24 (v := ?_) rfl (by kernel_rfl) (by kernel_rfl) (by kernel_rfl) (fun _ _ _ h => h) (by kernel_rfl) ?_ (by assumption) ?_
  rotate_left
  · (intro w hSw; (try dsimp only at hSw); go_simp; try with_reducible rfl)
  simp only [Act.put, List.setIfInBounds_toArray, List.set_cons_zero, List.set_cons_succ]
  refine Grl.yes 25 (v := ?_) rfl (by kernel_rfl) (by kernel_rfl) (by kernel_rfl) (fun _ _ _ h => h) (by kernel_rfl) ?_ (by assumption) ?_
  rotate_left
  · (intro w hSw; (try dsimp only at hSw); go_simp; try with_reducible rfl)
  simp only [Act.put, List.setIfInBounds_toArray, List.set_cons_zero, List.set_cons_succ]
  refine Grl.yes 26 (v := ?_) rfl (by kernel_rfl) (by kernel_rfl) (by kernel_rfl) (fun _ _ _ h => h) (by kernel_rfl) ?_ (by assumption) ?_
  rotate_left
  · (intro w hSw; (try dsimp only at hSw); go_simp; try with_reducible rfl)
  simp only [Act.put, List.setIfInBounds_toArray, List.set_cons_zero, List.set_cons_succ]
  refine Grl.yes 28 (v := ?_) rfl (by kernel_rfl) (by kernel_rfl) (by kernel_rfl) (fun _ _ _ h => h) (by kernel_rfl) ?_ (by assumption) ?_
  rotate_left
  · (intro w hSw; (try dsimp only at hSw); go_simp; try with_reducible rfl)
  simp only [Act.put, List.setIfInBounds_toArray, List.set_cons_zero, List.set_cons_succ]
  refine Grl.yes 29 (v := ?_) rfl (by kernel_rfl) (by kernel_rfl) (by kernel_rfl) (fun _ _ _ h => h) (by kernel_rfl) ?_ (by assumption) ?_
  rotate_left
  · (intro w hSw; (try dsimp only at hSw); go_simp; try with_reducible rfl)
  simp only [Act.put, List.setIfInBounds_toArray, List.set_cons_zero, List.set_cons_succ]
  refine Grl.yes 32 (v := ?_) rfl (by kernel_rfl) (by kernel_rfl) (by kernel_rfl) (fun _ _ _ h => h) (by kernel_rfl) ?_ (by assumption) ?_
  rotate_left
  · (intro w hSw; (try dsimp only at hSw); go_simp; try with_reducible rfl)
  simp only [Act.put, List.setIfInBounds_toArray, List.set_cons_zero, List.set_cons_succ]
  refine Grl.yes 33 (v := ?_) rfl (by kernel_rfl) (by kernel_rfl) (by kernel_rfl) (fun _ _ _ h => h) (by kernel_rfl) ?_ (by assumption) ?_
  rotate_left
  · (intro w hSw; (try dsimp only at hSw); go_simp; try with_reducible rfl)
  simp only [Act.put, List.setIfInBounds_toArray, List.set_cons_zero, List.set_cons_succ]
  refine Grl.one 27 rfl (by kernel_rfl) (fun K hK => ?_)
  go_simp
  go_wp2_with (refine (unhide HcY w11 e11).mono ?_; rintro e w12 ⟨rfl, b12⟩; have e12 := e11.trans (b12.mono e11.size))
  refine hK.out _ _ (by exact unhide HKK _ e12) (fun hHeld => ?_)
  clear hK K
  refine Grl.one 30 rfl (by kernel_rfl) (fun K hK => ?_)
  go_simp
  go_wp2_with (refine (unhide HcX w12 e12).mono ?_; rintro e w13 ⟨rfl, b13⟩; have e13 := e12.trans (b13.mono e12.size))
  refine hK.out _ _ (by exact unhide HKK _ e13) (fun hHeld => ?_)
  clear hK K
  refine Grl.yes 31 (v := ?_) rfl (by kernel_rfl) (by kernel_rfl) (by kernel_rfl) (fun _ _ _ h => h) (by kernel_rfl) ?_ (by assumption) ?_
  rotate_left
  · (intro w hSw; (try dsimp only at hSw); go_simp; try with_reducible rfl)
  simp only [Act.put, List.setIfInBounds_toArray, List.set_cons_zero, List.set_cons_succ]
  refine Grl.one 34 rfl (by kernel_rfl) (fun K hK => ?_)
  go_simp
  go_wp2_with (refine (unhide HcL w13 e13).mono ?_; rintro e w14 ⟨rfl, b14⟩; have e14 := e13.trans (b14.mono e13.size))
  refine hK.out _ _ (by exact unhide HKK _ e14) (fun hHeld => ?_)
  clear hK K
  refine Grl.yes 35 (v := ?_) rfl (by kernel_rfl) (by kernel_rfl) (by kernel_rfl) (fun _ _ _ h => h) (by kernel_rfl) ?_ (by assumption) ?_
  rotate_left
  · (intro w hSw; (try dsimp only at hSw); go_simp; try with_reducible rfl)
  simp only [Act.put, List.setIfInBounds_toArray, List.set_cons_zero, List.set_cons_succ]
  refine Grl.yes 36 (v := ?_) rfl (by kernel_rfl) (by kernel_rfl) (by kernel_rfl) (fun _ _ _ h => h) (by kernel_rfl) ?_ (by assumption) ?_
  rotate_left
  · (intro w hSw; (try dsimp only at hSw); go_simp; try with_reducible rfl)
  simp only [Act.put, List.setIfInBounds_toArray, List.set_cons_zero, List.set_cons_succ]
  refine Grl.yes 37 (v := ?_) rfl (by kernel_rfl) (by kernel_rfl) (by kernel_rfl) (fun _ _ _ h => h) (by kernel_rfl) ?_ (by assumption) ?_
  rotate_left
  · (intro w hSw; (try dsimp only at hSw); go_simp; try with_reducible rfl)
  simp only [Act.put, List.setIfInBounds_toArray, List.set_cons_zero, List.set_cons_succ]
  refine wpAnyH_done (by kernel_rfl) ?_ _
  have d14 := (unhide d9).trans (e14.mono (unhide d9).size)
  go_wp2
  go_ret
  exact ⟨rfl, d14⟩
end Go.Proofs.YtlboekimnhgfdaaGreat
