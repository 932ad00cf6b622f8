/- My own texts of one claim, laid together by program: TabMath2, TabTell, FnTableAskWalk. -/
import Derived.Test.YtlboekimnhgfdaaGreatGef33893e54
import Derived.Test.YtlboekimnhgfdaaGreatGff8a48f01d
import Derived.Test.YtlboekimnhgfdaaGreatGf3cb340b64
import Derived.Test.YtlboekimnhgfdaaGreatGaf7de35f46
import Derived.Test.YtlboekimnhgfdaaGreatGf4b634e24e
/- Tables asked in parts, dropped, kept, as plain mathematics. No condition. -/
namespace Go.Proofs.YtlboekimnhgfdaaGreat.Row
open Go.RowKit Rw
set_option linter.unusedVariables false
theorem outL_outL {g h g' : E → List Sam.E} : ∀ {L : List E}, (∀ x ∈ L, (h x = [] → g' x = []) ∧ g (x.1, h x) = g' x) → outL g (outL h L) = outL g' L
  | [], _ => rfl
  | x :: L, hh => by
    have ih := outL_outL (g := g) (h := h) (g' := g') (L := L) (fun y hy => hh y (List.mem_cons_of_mem _ hy))
    obtain ⟨h1, h2⟩ := hh x (List.mem_cons_self ..)
    rw [outL_cons h, outL_cons g']
    by_cases e : h x = []
    · rw [if_pos e, if_pos (h1 e), List.nil_append, List.nil_append, ih]
    · rw [if_neg e, List.singleton_append, outL_cons, h2, ih]
theorem cut_sub {zs : List Sam.E} {f t f' t' : Int} (h1 : f ≤ f') (h2 : t' ≤ t) : Samp.cutL (Samp.cutL zs f t) f' t' = Samp.cutL zs f' t' := by
  unfold Samp.cutL
  rw [List.filter_filter]
  refine List.filter_congr fun z _ => ?_
  unfold Samp.inT
  rw [Bool.eq_iff_iff]
  simp only [Bool.and_eq_true, decide_eq_true_eq]
  omega
theorem askG_yes {ms : List Mat.E} {f t : Int} {x : E} (h : Mat.mlet ms x.1 = true) : askG ms f t x = Samp.cutL x.2 f t := by unfold askG; rw [if_pos h]
theorem askG_no {ms : List Mat.E} {f t : Int} {x : E} (h : ¬ Mat.mlet ms x.1 = true) : askG ms f t x = [] := by unfold askG; rw [if_neg h]
theorem ask_sub {ms : List Mat.E} {f t f' t' : Int} (h1 : f ≤ f') (h2 : t' ≤ t) {L : List E} (h : ok L = true) : ask ms f' t' (ask ms f t L) = ask ms f' t' L := by
  have e1 : ask ms f' t' (ask ms f t L) = outL (askG ms f' t') (ask ms f t L) := if_pos (ask_ok f t h)
  have e2 : ask ms f' t' L = outL (askG ms f' t') L := if_pos h
  have e3 : ask ms f t L = outL (askG ms f t) L := if_pos h
  rw [e1, e2, e3]
  refine outL_outL fun x hx => ?_
  by_cases hm : Mat.mlet ms x.1 = true
  · rw [askG_yes (f := f) (t := t) hm, askG_yes (x := x) (f := f') (t := t') hm]
    have hs := cut_sub (zs := x.2) h1 h2
    refine ⟨fun e => ?_, ?_⟩
    · rw [← hs, e]; rfl
    · rw [askG_yes (x := (x.1, Samp.cutL x.2 f t)) hm]; exact hs
  · rw [askG_no (f := f) (t := t) hm, askG_no (x := x) (f := f') (t := t') hm]
    exact ⟨fun _ => rfl, by rw [askG_no (x := (x.1, [])) hm]⟩
/-- two sides of samples, put together -/
theorem split_of (p : Sam.E → Bool) {xs : List Sam.E} (h : SampMath.ok xs = true) : (xs.filter p = [] → (xs.filter fun z => !p z) = xs) ∧ ((xs.filter fun z => !p z) = [] → xs.filter p = xs) ∧ SampMath.join (xs.filter p) (xs.filter fun z => !p z) = (xs, true) := by
  refine ⟨fun e => ?_, fun e => ?_, ?_⟩
  · rw [List.filter_eq_nil_iff] at e
    exact List.filter_eq_self.2 fun z hz => by have := e z hz; simpa using this
  · rw [List.filter_eq_nil_iff] at e
    exact List.filter_eq_self.2 fun z hz => by have := e z hz; simpa using this
  · have hmg := Samp.merge_filter xs p (fun z => !p z) ((Samp.ok_iff _).1 h).2
    have hall : (xs.filter fun z => p z || !p z) = xs := List.filter_eq_self.2 (fun z _ => by cases p z <;> rfl)
    rw [hall] at hmg
    exact SampMath.join_some (SampMath.ok_sub h List.filter_sublist) (SampMath.ok_sub h List.filter_sublist) hmg
theorem ask_parts {ms : List Mat.E} {f m t : Int} (h1 : f ≤ m) (h2 : m ≤ t) {L : List E} (h : ok L = true) : join (ask ms f m L) (ask ms m t L) = (ask ms f t L, true) := by
  refine join_yes (ask_ok f m h) (ask_ok m t h) ?_ (ask_ok f t h)
  rw [← ask_sub (ms := ms) (Int.le_refl f) h2 h, ← ask_sub (ms := ms) h1 (Int.le_refl t) h]
  have hM := ask_ok (ms := ms) f t h
  have hin := fun y (hy : y ∈ ask ms f t L) => ask_in h hy
  generalize ask ms f t L = M at hM hin
  rw [show ask ms f m M = outL (askG ms f m) M from if_pos hM, show ask ms m t M = outL (askG ms m t) M from if_pos hM]
  refine insAll_parts _ _ (fine_ok hM) fun x hx => ?_
  obtain ⟨hl, hne, hc⟩ := hin x hx
  have hok := ((fine_ok hM).sam x hx).1
  rw [askG_yes hl, askG_yes hl]
  have e : Samp.cutL x.2 m t = x.2.filter fun z => !Samp.inT f m z := by
    unfold Samp.cutL
    refine List.filter_congr fun z hz => ?_
    have hz' : z ∈ Samp.cutL x.2 f t := by rw [hc]; exact hz
    have := (List.mem_filter.1 hz').2
    unfold Samp.inT at this ⊢
    rw [Bool.eq_iff_iff]
    simp only [Bool.and_eq_true, decide_eq_true_eq, Bool.not_eq_true', Bool.and_eq_false_iff, decide_eq_false_iff_not] at this ⊢
    omega
  rw [e]
  exact split_of (Samp.inT f m) hok
theorem tab_parts {L : List E} {H F : Int} (h : tableB L H F = true) : -1 ≤ H ∧ H ≤ 9999 ∧ floorB F = true ∧ (F = 0 ∨ F ≤ H) ∧ ok L = true ∧ within L F (H + 1) = true := by
  unfold tableB at h
  simp only [Bool.and_eq_true, Bool.or_eq_true, decide_eq_true_eq] at h
  obtain ⟨⟨⟨⟨⟨a, b⟩, c⟩, d⟩, e⟩, f⟩ := h
  exact ⟨a, b, c, d, e, f⟩
theorem within_out {g : E → List Sam.E} {L : List E} {f t : Int} (hg : ∀ x ∈ L, ∀ z ∈ g x, inT f t z = true) : within (outL g L) f t = true := by
  unfold within
  rw [List.all_eq_true]
  intro y hy
  obtain ⟨x, hx, rfl, -⟩ := outL_in hy
  unfold within1
  rw [List.all_eq_true]
  exact hg x hx
theorem within_in {L : List E} {f t : Int} (h : within L f t = true) {x : E} (hx : x ∈ L) {z : Sam.E} (hz : z ∈ x.2) : inT f t z = true := by
  unfold within at h
  rw [List.all_eq_true] at h
  have := h x hx
  unfold within1 at this
  rw [List.all_eq_true] at this
  exact this z hz
theorem dropG_in {ms : List Mat.E} {f t : Int} {x : E} {z : Sam.E} (h : z ∈ dropG ms f t x) : z ∈ x.2 := by
  unfold dropG at h
  split at h
  · exact (List.mem_filter.1 h).1
  · exact h
theorem drop_tab {ms : List Mat.E} (f t : Int) {L : List E} {H F : Int} (h : tableB L H F = true) (hm : Mat.ok ms = true) : tableB (drop ms f t L) H F = true := by
  obtain ⟨h1, h2, h3, h4, h5, h6⟩ := tab_parts h
  refine tableB_yes h1 h2 h3 h4 (drop_ok f t h5 hm) ?_
  rw [drop_is f t h5 hm]
  exact within_out fun x hx z hz => within_in h6 hx (dropG_in hz)
theorem mat_nil : Mat.ok [] = true := rfl
theorem let_nil {x : E} {L : List E} (h : ok L = true) (hx : x ∈ L) : Mat.mlet [] x.1 = true := by unfold Mat.mlet; rw [(fine_ok h).lab x hx]; rfl
theorem small_ok {L : List E} (h : ok L = true) : L.length ≤ 1000 ∧ (∀ x ∈ L, x.2.length ≤ 1000) ∧ cntS L ≤ 10000 := by
  have h10 := ok_len h
  have hb : ∀ x ∈ L, x.2.length ≤ 1000 := fun x hx => row_bounds h hx
  have := cntS_le hb
  exact ⟨by omega, hb, by omega⟩
/-- what is kept is what is asked for from a time on -/
theorem keep_ask {L : List E} (f : Int) (h : ok L = true) (h0 : 0 ≤ f) : drop [] 0 f L = ask [] f 10000 L := by
  rw [drop_is 0 f h mat_nil, show ask [] f 10000 L = outL (askG [] f 10000) L from if_pos h]
  refine outL_same fun x hx => ?_
  have hm := let_nil h hx
  rw [askG_yes hm]
  unfold dropG
  rw [if_pos hm]
  unfold Samp.sides Samp.cutL
  refine List.filter_congr fun z _ => ?_
  unfold Samp.inT
  rw [Bool.eq_iff_iff]
  simp only [Bool.or_eq_true, Bool.and_eq_true, decide_eq_true_eq]
  omega
end Go.Proofs.YtlboekimnhgfdaaGreat.Row
namespace Go.Proofs.YtlboekimnhgfdaaGreat.Tab
open Go.RowKit Rw
set_option linter.unusedVariables false
theorem floor_parts {F : Int} (h : Row.floorB F = true) : 0 ≤ F ∧ F ≤ 9999 ∧ F.tmod 100 = 0 := by
  unfold Row.floorB at h
  simp only [Bool.and_eq_true, decide_eq_true_eq] at h
  omega
/-- the time ahead of which nothing is kept -/
theorem keepF_is {H F age : Int} (h1 : -1 ≤ H) (h2 : H ≤ 9999) (h3 : Row.floorB F = true) (h4 : F = 0 ∨ F ≤ H) (h0 : 0 ≤ age) :
    Row.floorB (keepF H F age) = true ∧ (keepF H F age = 0 ∨ keepF H F age ≤ H) ∧ F ≤ keepF H F age ∧ (keepF H F age = F ∨ keepF H F age ≤ H - age ∧ H - age < keepF H F age + 100) ∧ keepF H (keepF H F age) age = keepF H F age := by
  obtain ⟨f1, f2, f3⟩ := floor_parts h3
  have hf : F % 100 = 0 := by rw [← Int.tmod_eq_emod_of_nonneg f1]; exact f3
  have key : ∀ f, 0 ≤ f → f ≤ 9999 → f % 100 = 0 → Row.floorB f = true := fun f a b c => Row.floorB_yes a b (by rw [Int.tmod_eq_emod_of_nonneg a]; exact c)
  have e : ∀ G, keepF H G age = if (if 0 < H - age then (H - age) / 100 * 100 else 0) < G then G else (if 0 < H - age then (H - age) / 100 * 100 else 0) := fun G => rfl
  obtain ⟨q, hq⟩ : ∃ q, q = (if 0 < H - age then (H - age) / 100 * 100 else 0) := ⟨_, rfl⟩
  have hq1 : 0 ≤ q ∧ q ≤ 9999 ∧ q % 100 = 0 ∧ (q = 0 ∨ q ≤ H) ∧ (q ≤ H - age ∧ H - age < q + 100 ∨ q = 0 ∧ H - age ≤ 0) := by rw [hq]; split <;> omega
  have e' : ∀ G, keepF H G age = if q < G then G else q := fun G => by rw [e, ← hq]
  rw [e' F]
  obtain ⟨a1, a2, a3, a4, a5⟩ := hq1
  by_cases hlt : q < F
  · rw [if_pos hlt, e' F, if_pos hlt]
    exact ⟨h3, h4, Int.le_refl _, .inl rfl, rfl⟩
  · rw [if_neg hlt, e' q, if_neg (Int.lt_irrefl q)]
    exact ⟨key q a1 a2 a3, a4, by omega, by omega, rfl⟩
theorem keep_okay {L : List Row.E} {H F age : Int} (h : Row.tableB L H F = true) (h0 : 0 ≤ age) : Row.tableB (Row.drop [] 0 (keepF H F age) L) H (keepF H F age) = true := by
  obtain ⟨h1, h2, h3, h4, h5, h6⟩ := Row.tab_parts h
  obtain ⟨k1, k2, k3, -, -⟩ := keepF_is h1 h2 h3 h4 h0
  have hk := (floor_parts k1).1
  refine Row.tableB_yes h1 h2 k1 k2 (Row.drop_ok 0 _ h5 Row.mat_nil) ?_
  rw [Row.keep_ask _ h5 hk, show Row.ask [] (keepF H F age) 10000 L = Row.outL (Row.askG [] (keepF H F age) 10000) L from if_pos h5]
  refine Row.within_out fun x hx z hz => ?_
  rw [Row.askG_yes (Row.let_nil h5 hx)] at hz
  have hz2 := List.mem_filter.1 hz
  have a := Row.within_in h6 hx hz2.1
  have b := hz2.2
  unfold Samp.inT at b
  unfold Row.inT at a ⊢
  simp only [Bool.and_eq_true, decide_eq_true_eq] at a b ⊢
  exact ⟨b.1, a.2⟩
theorem keep_keep {L : List Row.E} {H F age : Int} (h : Row.tableB L H F = true) (h0 : 0 ≤ age) : keep age (Row.drop [] 0 (keepF H F age) L) H (keepF H F age) = (Row.drop [] 0 (keepF H F age) L, H, keepF H F age) := by
  obtain ⟨h1, h2, h3, h4, h5, h6⟩ := Row.tab_parts h
  have hk := (keepF_is h1 h2 h3 h4 h0).2.2.2.2
  have hn : ¬ age < 0 := by omega
  unfold keep
  rw [if_pos (keep_okay h h0), if_neg hn, hk, Row.drop_drop 0 _ h5 Row.mat_nil]
end Go.Proofs.YtlboekimnhgfdaaGreat.Tab

/- What tables that are ok tell. No condition. -/
namespace Go.Proofs.YtlboekimnhgfdaaGreat.Tab
open Go.RowKit Rw
set_option linter.unusedVariables false
theorem impl_ask2 {w : World} {v u : Value} {zs R : List Row.E} {ms : List Mat.E} (f t H F : Int) (h : Row.Is w v zs) (hm : Mat.Is w u ms) (hg : ∀ x ∈ zs, Row.good x) (hlen : zs.length ≤ maxLen) (hmg : ∀ x ∈ ms, Mat.good x) (hml : ms.length ≤ maxLen) (hR : ask ms f t zs H F = R) :
    Calls Tryz.prog 27 #[.agg #[v, .int .i64 H, .int .i64 F], u, .int .i64 f, .int .i64 t] w fun e w' => ∃ r, e = .returned r ∧ Row.Own w.heap.size w'.heap.size w' r R ∧ Below w.heap.size w w' := by
  have h := impl_ask f t H F h hm hg hlen hmg hml
  rw [hR] at h
  exact h
theorem impl_table2 {w : World} {v : Value} {zs : List Row.E} {H F : Int} {b : Bool} (h : Row.Is w v zs) (hg : ∀ x ∈ zs, Row.good x) (hlen : zs.length ≤ maxLen) (hb : Row.tableB zs H F = b) :
    Calls Tryz.prog 28 #[.agg #[v, .int .i64 H, .int .i64 F]] w fun e w' => e = .returned (.bool b) ∧ Below w.heap.size w w' := by
  have h := Row.impl_table (H := H) (F := F) h hg hlen
  rw [hb] at h
  exact h
theorem impl_join2 {w : World} {v u : Value} {a b R : List Row.E} {k : Bool} (h : Row.Is w v a) (h' : Row.Is w u b) (hg : ∀ x ∈ a, Row.good x) (hl : a.length ≤ maxLen) (hg' : ∀ x ∈ b, Row.good x) (hl' : b.length ≤ maxLen) (hR : Row.join a b = (R, k)) :
    Calls Tryz.prog 33 #[v, u] w fun e w' => ∃ r, e = .returned (.tuple #[r, .bool k]) ∧ Row.Own w.heap.size w'.heap.size w' r R ∧ Below w.heap.size w w' := by
  have h := Row.impl_join h h' hg hl hg' hl'
  rw [hR] at h
  exact h
theorem impl_keep2 {w : World} {v : Value} {zs R : List Row.E} (age H F : Int) {H2 F2 : Int} (hage : age ≤ 9223372036854775807) (h : Row.Is w v zs) (hg : ∀ x ∈ zs, Row.good x) (hlen : zs.length ≤ maxLen) (hR : keep age zs H F = (R, H2, F2)) :
    Calls Tryz.prog 35 #[.agg #[v, .int .i64 H, .int .i64 F], .int .i64 age] w fun e w' => ∃ r, e = .returned (.agg #[r, .int .i64 H2, .int .i64 F2]) ∧ Row.Own w.heap.size w'.heap.size w' r R ∧ Below w.heap.size w w' := by
  have h := impl_keep age H F hage h hg hlen
  rw [hR] at h
  exact h
theorem ask_is {ms : List Mat.E} (f t : Int) {zs : List Row.E} {H F : Int} (h : Row.tableB zs H F = true) : ask ms f t zs H F = Row.ask ms f t zs := by unfold ask; rw [if_pos h]
end Go.Proofs.YtlboekimnhgfdaaGreat.Tab

/- FnTableAsk returns true at every text of bytes. -/
namespace Go.Proofs.YtlboekimnhgfdaaGreat
open Go.RowKit Draw Rw
set_option linter.unusedVariables false
set_option linter.unusedSimpArgs false
set_option maxRecDepth 100000 in
set_option maxHeartbeats 32000000 in
theorem fnTableAsk.walk (a0 : Option Addr) (len0 cap0 : Nat) (z0 : List Int) (w : World) (w0 : IsRow .u8 w a0 len0 cap0 z0) :
    Calls Tryz.prog 5 #[.slice a0 len0 cap0] w fun e w' => e = .returned (.bool true) ∧ Below w.heap.size w w' := by
  have l0 := (row_bytes w0)
  have c0 : len0 ≤ 9223372036854775807 := by have := l0.1; have := l0.2.1; unfold maxLen at this; omega
  have H0 := hide (draw_task w w w0 (Below.refl _ _))
  clear l0 w0
  by_cases hb0 : 1048576 < len0
  · go_enter Tryz.func5, Tryz.ntmps5
    go_wp2
    go_ret
    exact ⟨rfl, Below.refl _ _⟩
  go_enter Tryz.func5, Tryz.ntmps5
  go_wp2_with fail
  refine (unhide H0).mono ?_
  rintro e W1 ⟨L, ms, v, u, H, F, A, B, rfl, hTG, hv0, hMG, hu0, hAB, b1⟩
  have hv := hv0.is
  have hu := Mat.is_of_own hu0
  clear hv0 hu0
  have hgL : Hid (∀ x ∈ L, Row.good x) := fun x hx => (hTG.1.2 x hx).1
  have hlL : Hid (L.length ≤ maxLen) := by have := hTG.1.1; show L.length ≤ maxLen; unfold maxLen; omega
  have hHF := hTG.2
  obtain ⟨va, vq, rfl⟩ := Tab.row_form hv
  obtain ⟨vn, hvn⟩ : ∃ n, n = L.length := ⟨_, rfl⟩
  rw [← hvn] at hv ⊢
  have HVN := hide hvn
  clear H0 hTG hvn
  have hgM : Hid (∀ x ∈ ms, Mat.good x) := hMG.2
  have hlM : Hid (ms.length ≤ maxLen) := by have := hMG.1; show ms.length ≤ maxLen; unfold maxLen; omega
  obtain ⟨ua, un, uq, rfl⟩ : ∃ a n q, u = .slice a n q := by obtain ⟨-, a, q, e, -⟩ := hu; exact ⟨a, _, q, e⟩
  clear hMG
  obtain ⟨sd2, sf2, so2, bb2, zz2⟩ := Tab.box_new (w := W1) (base := w.heap.size) (.slice va vn vq) H F b1.size
  obtain ⟨V2, hV2⟩ : ∃ V, W1.alloc (.cells #[.slice va vn vq, .int .i64 H, .int .i64 0] 30) = V := ⟨_, rfl⟩
  rw [hV2] at sd2 sf2 so2 bb2 zz2
  obtain ⟨W2, hW2⟩ : ∃ V, V2.setCell ⟨W1.heap.size, 2, none⟩ (.int .i64 F) = V := ⟨_, rfl⟩
  rw [hW2] at so2 bb2 zz2
  have HV := hide (hv.below bb2)
  have HK := hide (fun (X : World) (hb : Below W2.heap.size W2 X) => Tab.box_three (own_below so2 hb))
  have d2 := b1.trans (bb2.mono b1.size)
  have HOk := hide (fun X (hb : Below W2.heap.size W2 X) => Row.spec_table (H := H) (F := F) ((unhide HV).below hb) (unhide hgL) (unhide hlL))
  have HU := hide (hu.below bb2)
  have HMk := hide (fun X (hb : Below W2.heap.size W2 X) => Mat.spec_ok ((unhide HU).below hb) (unhide hgM) (unhide hlM))
  have HI := hide (fun X (hb : Below W2.heap.size W2 X) (f t : Int) => Tab.impl_ask f t H F ((unhide HV).below hb) ((unhide HU).below hb) (unhide hgL) (unhide hlL) (unhide hgM) (unhide hlM))
  have HS := hide (fun X (hb : Below W2.heap.size W2 X) => Tab.spec_ask A B H F ((unhide HV).below hb) ((unhide HU).below hb) (unhide hgL) (unhide hlL) (unhide hgM) (unhide hlM))
  obtain ⟨k0, k1, k2⟩ := unhide HK W2 (Below.refl _ _)
  clear hv hu bb2 so2 b1
  go_wp2_with fail
  refine (unhide HI W2 (Below.refl _ _) A B).mono ?_
  rintro e W3 ⟨x, rfl, ox, c3⟩
  have SX3 := hide ox.is
  obtain ⟨xa, xn, xq, rfl⟩ := ox.form
  clear k0 k1 k2 ox sd2 sf2 hV2 hW2
  obtain ⟨k0, k1, k2⟩ := unhide HK W3 c3
  go_wp2_with fail
  refine (unhide HS W3 c3).mono ?_
  rintro e W4 ⟨y, rfl, oy, b4⟩
  have c4 := c3.trans (b4.mono c3.size)
  have HAl := hide (Row.al_rows ((unhide SX3).below b4) oy.is)
  have SX4 := hide ((unhide SX3).below b4)
  obtain ⟨ya, yn, yq, rfl⟩ := oy.form
  clear oy b4 SX3 k0 k1 k2
  go_wp2_with fail
  refine (unhide HAl).mono ?_
  rintro e W5 ⟨rfl, b5⟩
  have c5 := c4.trans (b5.mono c4.size)
  have SX5 := hide ((unhide SX4).below b5)
  clear HAl SX4 b5 c4
  obtain ⟨k0, k1, k2⟩ := unhide HK W5 c5
  go_wp2_with fail
  refine (unhide HOk W5 c5).mono ?_
  rintro e W6 ⟨rfl, b6⟩
  have c6 := c5.trans (b6.mono c5.size)
  have SX6 := hide ((unhide SX5).below b6)
  clear HOk SX5 b6 c5 k0 k1 k2
  cases hT : Row.tableB L H F
  · clear hT
    obtain ⟨k0, k1, k2⟩ := unhide HK W6 c6
    go_wp2_with fail
    refine (unhide HS W6 c6).mono ?_
    rintro e W8 ⟨y, rfl, oy, b8⟩
    have c8 := c6.trans (b8.mono c6.size)
    have HAl := hide (Row.al_rows ((unhide SX6).below b8) oy.is)
    obtain ⟨ya, yn, yq, rfl⟩ := oy.form
    clear oy b8
    go_wp2_with fail
    refine (unhide HAl).mono ?_
    rintro e W9 ⟨rfl, b9⟩
    have d9 := d2.trans ((c8.trans (b9.mono c8.size)).mono d2.size)
    go_wp2
    go_ret
    exact ⟨rfl, d9⟩
  have HT := hide hT
  have hrk := hide (Tab.table_ok hT)
  have HE := hide (fun f t => Tab.ask_is (ms := ms) f t hT)
  clear hT
  go_wp2_with fail
  refine (unhide HMk W6 c6).mono ?_
  rintro e W7 ⟨rfl, b7⟩
  have c7 := c6.trans (b7.mono c6.size)
  have SX7 := hide ((unhide SX6).below b7)
  clear HMk SX6 b7 c6
  cases hM : Mat.ok ms
  · clear hM
    obtain ⟨k0, k1, k2⟩ := unhide HK W7 c7
    go_wp2_with fail
    refine (unhide HS W7 c7).mono ?_
    rintro e W8 ⟨y, rfl, oy, b8⟩
    have c8 := c7.trans (b8.mono c7.size)
    have HAl := hide (Row.al_rows ((unhide SX7).below b8) oy.is)
    obtain ⟨ya, yn, yq, rfl⟩ := oy.form
    clear oy b8
    go_wp2_with fail
    refine (unhide HAl).mono ?_
    rintro e W9 ⟨rfl, b9⟩
    have d9 := d2.trans ((c8.trans (b9.mono c8.size)).mono d2.size)
    go_wp2
    go_ret
    exact ⟨rfl, d9⟩
  clear hM
  by_cases hA : A < 0
  · obtain ⟨k0, k1, k2⟩ := unhide HK W7 c7
    go_wp2_with fail
    refine (unhide HS W7 c7).mono ?_
    rintro e W8 ⟨y, rfl, oy, b8⟩
    have c8 := c7.trans (b8.mono c7.size)
    have HAl := hide (Row.al_rows ((unhide SX7).below b8) oy.is)
    obtain ⟨ya, yn, yq, rfl⟩ := oy.form
    clear oy b8
    go_wp2_with fail
    refine (unhide HAl).mono ?_
    rintro e W9 ⟨rfl, b9⟩
    have d9 := d2.trans ((c8.trans (b9.mono c8.size)).mono d2.size)
    go_wp2
    go_ret
    exact ⟨rfl, d9⟩
  by_cases hB : B < A
  · obtain ⟨k0, k1, k2⟩ := unhide HK W7 c7
    go_wp2_with fail
    refine (unhide HS W7 c7).mono ?_
    rintro e W8 ⟨y, rfl, oy, b8⟩
    have c8 := c7.trans (b8.mono c7.size)
    have HAl := hide (Row.al_rows ((unhide SX7).below b8) oy.is)
    obtain ⟨ya, yn, yq, rfl⟩ := oy.form
    clear oy b8
    go_wp2_with fail
    refine (unhide HAl).mono ?_
    rintro e W9 ⟨rfl, b9⟩
    have d9 := d2.trans ((c8.trans (b9.mono c8.size)).mono d2.size)
    go_wp2
    go_ret
    exact ⟨rfl, d9⟩
  obtain ⟨D, hD⟩ : ∃ D, B - A = D := ⟨_, rfl⟩
  obtain ⟨Q, hQ⟩ : ∃ Q, D.tdiv 2 = Q := ⟨_, rfl⟩
  obtain ⟨m, hm⟩ : ∃ m, A + Q = m := ⟨_, rfl⟩
  have hDr : 0 ≤ D ∧ D ≤ 20000 := by omega
  have hQr : 0 ≤ Q ∧ Q ≤ D := by rw [← hQ, Int.tdiv_eq_ediv_of_nonneg hDr.1]; omega
  have u1 := Tab.wrap_in (n := D) (by omega) (by omega)
  have u2 := Tab.wrap_in (n := Q) (by omega) (by omega)
  have u3 := Tab.wrap_in (n := m) (by omega) (by omega)
  have v1 : wrap64 D = D := IntWalk.wrap64_in D ⟨by omega, by omega⟩
  have v2 : wrap64 Q = Q := IntWalk.wrap64_in Q ⟨by omega, by omega⟩
  have v3 : wrap64 m = m := IntWalk.wrap64_in m ⟨by omega, by omega⟩
  have HJ := hide (Row.ask_parts (ms := ms) (show A ≤ m by omega) (show m ≤ B by omega) (unhide hrk))
  have HG1 := hide (Row.ask_ok (ms := ms) A m (unhide hrk))
  have HG2 := hide (Row.ask_ok (ms := ms) m B (unhide hrk))
  have HI2 := hide (fun X (hb : Below W2.heap.size W2 X) (f t : Int) => Tab.impl_ask2 f t H F ((unhide HV).below hb) ((unhide HU).below hb) (unhide hgL) (unhide hlL) (unhide hgM) (unhide hlM) (unhide HE f t))
  rw [unhide HE A B] at SX7
  have gA := hide (Row.fine_good (Row.fine_ok (unhide HG1)))
  have gB := hide (Row.fine_good (Row.fine_ok (unhide HG2)))
  have lA := hide (show (Row.ask ms A m L).length ≤ maxLen by have := Row.ok_len (unhide HG1); unfold maxLen; omega)
  have lB := hide (show (Row.ask ms m B L).length ≤ maxLen by have := Row.ok_len (unhide HG2); unfold maxLen; omega)
  have HJn := hide (fun (X : World) (r1 r2 : Value) (h1 : Row.Is X r1 (Row.ask ms A m L)) (h2 : Row.Is X r2 (Row.ask ms m B L)) => Tab.impl_join2 h1 h2 (unhide gA) (unhide lA) (unhide gB) (unhide lB) (unhide HJ))
  have cD : Below W2.heap.size W2 W7.drew := c7.drew
  have SXd := hide (show Row.Is W7.drew (.slice xa xn xq) (Row.ask ms A B L) from (unhide SX7).below (Below.refl _ _).drew)
  have HKd := hide (fun (X : World) (hb : Below W7.drew.heap.size W7.drew X) => unhide HK X (cD.trans (hb.mono cD.size)))
  obtain ⟨k0, k1, k2⟩ := unhide HKd W7.drew (Below.refl _ _)
  clear HI HS HE HJ HG1 HG2 gA gB lA lB SX7 hHF hAB
  go_wp2_with fail
  clear k0 k1 k2
  refine Grl.start (S := fun X => X.cell? ⟨W1.heap.size, 0, none⟩ = some (.slice va vn vq) ∧ X.cell? ⟨W1.heap.size, 1, none⟩ = some (.int .i64 H) ∧ X.cell? ⟨W1.heap.size, 2, none⟩ = some (.int .i64 F)) (by kernel_rfl) (by exact unhide HKd _ (Below.refl _ _)) (fun hHeld => ?_)
  refine Grl.yes 0 (v := ?_) rfl (by kernel_rfl) (by kernel_rfl) (by kernel_rfl) (fun _ _ _ h => h) (by kernel_rfl) ?_ (by assumption) ?_
  rotate_left
  · (intro w hSw; (try dsimp only at hSw); go_simp; try with_reducible rfl)
  simp only [Act.put, List.setIfInBounds_toArray, List.set_cons_zero, List.set_cons_succ]
  refine Grl.yes 1 (v := ?_) rfl (by kernel_rfl) (by kernel_rfl) (by kernel_rfl) (fun _ _ _ h => h) (by kernel_rfl) ?_ (by assumption) ?_
  rotate_left
  · (intro w hSw; (try dsimp only at hSw); go_simp; try with_reducible rfl)
  simp only [Act.put, List.setIfInBounds_toArray, List.set_cons_zero, List.set_cons_succ]
  refine Grl.yes 2 (v := ?_) rfl (by kernel_rfl) (by kernel_rfl) (by kernel_rfl) (fun _ _ _ h => h) (by kernel_rfl) ?_ (by assumption) ?_
  rotate_left
  · (intro w hSw; (try dsimp only at hSw); go_simp; try with_reducible rfl)
  simp only [Act.put, List.setIfInBounds_toArray, List.set_cons_zero, List.set_cons_succ]
  refine Grl.yes 3 (v := ?_) rfl (by kernel_rfl) (by kernel_rfl) (by kernel_rfl) (fun _ _ _ h => h) (by kernel_rfl) ?_ (by assumption) ?_
  rotate_left
  · (intro w hSw; (try dsimp only at hSw); go_simp; try with_reducible rfl)
  simp only [Act.put, List.setIfInBounds_toArray, List.set_cons_zero, List.set_cons_succ]
  refine Grl.yes 5 (v := ?_) rfl (by kernel_rfl) (by kernel_rfl) (by kernel_rfl) (fun _ _ _ h => h) (by kernel_rfl) ?_ (by assumption) ?_
  rotate_left
  · (intro w hSw; (try dsimp only at hSw); go_simp; try with_reducible rfl)
  simp only [Act.put, List.setIfInBounds_toArray, List.set_cons_zero, List.set_cons_succ]
  refine Grl.yes 6 (v := ?_) rfl (by kernel_rfl) (by kernel_rfl) (by kernel_rfl) (fun _ _ _ h => h) (by kernel_rfl) ?_ (by assumption) ?_
  rotate_left
  · (intro w hSw; (try dsimp only at hSw); go_simp; try with_reducible rfl)
  simp only [Act.put, List.setIfInBounds_toArray, List.set_cons_zero, List.set_cons_succ]
  refine Grl.yes 7 (v := ?_) rfl (by kernel_rfl) (by kernel_rfl) (by kernel_rfl) (fun _ _ _ h => h) (by kernel_rfl) ?_ (by assumption) ?_
  rotate_left
  · (intro w hSw; (try dsimp only at hSw); go_simp; try with_reducible rfl)
  simp only [Act.put, List.setIfInBounds_toArray, List.set_cons_zero, List.set_cons_succ]
  refine Grl.yes 8 (v := ?_) rfl (by kernel_rfl) (by kernel_rfl) (by kernel_rfl) (fun _ _ _ h => h) (by kernel_rfl) ?_ (by assumption) ?_
  rotate_left
  · (intro w hSw; (try dsimp only at hSw); go_simp; try with_reducible rfl)
  simp only [Act.put, List.setIfInBounds_toArray, List.set_cons_zero, List.set_cons_succ]
  refine Grl.one 4 rfl (by kernel_rfl) (fun K hK => ?_)
  go_simp
  go_wp2_with (refine (unhide HI2 W7.drew (cD) A m).mono ?_; rintro e w8 ⟨x8, rfl, o8, b8⟩; have e8 : Below W7.drew.heap.size W7.drew w8 := (show Below W7.drew.heap.size W7.drew w8 from b8); obtain ⟨xa8, xn8, xq8, rfl⟩ := o8.form)
  refine hK.out _ _ (by exact unhide HKd _ e8) (fun hHeld => ?_)
  clear hK K
  refine Grl.one 9 rfl (by kernel_rfl) (fun K hK => ?_)
  go_simp
  go_wp2_with (refine (unhide HI2 w8 (cD.trans (e8.mono cD.size)) m B).mono ?_; rintro e w9 ⟨x9, rfl, o9, b9⟩; have e9 : Below W7.drew.heap.size W7.drew w9 := e8.trans (b9.mono e8.size); obtain ⟨xa9, xn9, xq9, rfl⟩ := o9.form)
  refine hK.out _ _ (by exact unhide HKd _ e9) (fun hHeld => ?_)
  clear hK K
  refine Grl.one 10 rfl (by kernel_rfl) (fun K hK => ?_)
  go_simp
  go_wp2_with (refine (unhide HJn w9 _ _ (o8.is.below b9) o9.is).mono ?_; rintro e w10 ⟨r, rfl, orr, b10⟩; have e10 := e9.trans (b10.mono e9.size); obtain ⟨ra, rn, rq, rfl⟩ := orr.form)
  refine hK.out _ _ (by exact unhide HKd _ e10) (fun hHeld => ?_)
  clear hK K
  refine Grl.yes 11 (v := ?_) rfl (by kernel_rfl) (by kernel_rfl) (by kernel_rfl) (fun _ _ _ h => h) (by kernel_rfl) ?_ (by assumption) ?_
  rotate_left
  · (intro w hSw; (try dsimp only at hSw); go_simp; try with_reducible rfl)
  simp only [Act.put, List.setIfInBounds_toArray, List.set_cons_zero, List.set_cons_succ]
  refine Grl.yes 12 (v := ?_) rfl (by kernel_rfl) (by kernel_rfl) (by kernel_rfl) (fun _ _ _ h => h) (by kernel_rfl) ?_ (by assumption) ?_
  rotate_left
  · (intro w hSw; (try dsimp only at hSw); go_simp; try with_reducible rfl)
  simp only [Act.put, List.setIfInBounds_toArray, List.set_cons_zero, List.set_cons_succ]
  refine Grl.yes 13 (v := ?_) rfl (by kernel_rfl) (by kernel_rfl) (by kernel_rfl) (fun _ _ _ h => h) (by kernel_rfl) ?_ (by assumption) ?_
  rotate_left
  · (intro w hSw; (try dsimp only at hSw); go_simp; try with_reducible rfl)
  simp only [Act.put, List.setIfInBounds_toArray, List.set_cons_zero, List.set_cons_succ]
  refine Grl.yes 14 (v := ?_) rfl (by kernel_rfl) (by kernel_rfl) (by kernel_rfl) (fun _ _ _ h => h) (by kernel_rfl) ?_ (by assumption) ?_
  rotate_left
  · (intro w hSw; (try dsimp only at hSw); go_simp; try with_reducible rfl)
  simp only [Act.put, List.setIfInBounds_toArray, List.set_cons_zero, List.set_cons_succ]
  refine Grl.yes 15 (v := ?_) rfl (by kernel_rfl) (by kernel_rfl) (by kernel_rfl) (fun _ _ _ h => h) (by kernel_rfl) ?_ (by assumption) ?_
  rotate_left
  · (intro w hSw; (try dsimp only at hSw); go_simp; try with_reducible rfl)
  simp only [Act.put, List.setIfInBounds_toArray, List.set_cons_zero, List.set_cons_succ]
  refine wpAnyH_done (by kernel_rfl) ?_ _
  have HAl := hide (Row.al_rows orr.is ((unhide SXd).below e10))
  have d10 := hide (d2.trans ((cD.trans (e10.mono cD.size)).mono d2.size))
  clear o8 o9 b8 b9 b10 e8 e9 e10 orr HJn HI2
  go_wp2_with fail
  refine (unhide HAl).mono ?_
  rintro e W11 ⟨rfl, b11⟩
  have d11 := (unhide d10).trans (b11.mono (unhide d10).size)
  go_wp2
  go_ret
  exact ⟨rfl, d11⟩
end Go.Proofs.YtlboekimnhgfdaaGreat
