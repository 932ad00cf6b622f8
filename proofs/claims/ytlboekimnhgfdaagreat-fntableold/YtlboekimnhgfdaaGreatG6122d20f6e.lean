/- My own texts of one claim, laid together by program: NbMath, DrawLabNb, DrawBatch2, DrawBatchNb. -/
import Derived.Test.YtlboekimnhgfdaaGreatG3b13e63e26
import Derived.Test.YtlboekimnhgfdaaGreatGd32421efb3
import Derived.Test.YtlboekimnhgfdaaGreatG914d26d0fc
import Derived.Test.YtlboekimnhgfdaaGreatG016b64dc06
/- No labels that are drawn bear the name nobody; nor do those of a table that is drawn. No condition. -/
namespace Go.Proofs.YtlboekimnhgfdaaGreat.Draw
open Go.RowKit Rw
set_option linter.unusedVariables false
def nbL (ls : List Lab.E) : Prop := ∀ y ∈ ls, y.1 ≠ nobody
def NBR (L : List Row.E) : Prop := ∀ x ∈ L, nbL x.1
def OkN (L : List Row.E) : Prop := Row.ok L = true ∧ NBR L
theorem nbr_nil : NBR [] := fun x hx => by cases hx
theorem okN_nil : OkN [] := ⟨rfl, nbr_nil⟩
theorem nb_of {L : List Lab.E} (h : ∀ x ∈ L, okL x) : nbL L := fun y hy => by
  have hn : ∀ b ∈ names4, b ≠ nobody := by decide
  exact hn _ (h y hy).1
theorem nbr_ins {L R : List Row.E} {x : Row.E} (h : NBR L) (hx : nbL x.1) (hi : Row.ins L x = some R) : NBR R := fun y hy => by
  rcases (Row.ins_sub hi y hy).1 with e | ⟨u, hu, e⟩
  · rw [e]; exact hx
  · rw [← e]; exact h u hu
theorem okN_add {L R : List Row.E} {x : Row.E} (h : OkN L) (hf : Row.Fine [x]) (ha : Row.add L x = some R) (hx : nbL x.1) : OkN R := ⟨Row.add_ok h.1 hf ha, nbr_ins h.2 hx (Row.add_ins ha)⟩
theorem nbr_set {L : List Row.E} {k : Nat} {y : Row.E} (h : NBR L) (hy : nbL y.1) : NBR (L.set k y) := fun x hx => by
  rcases List.mem_or_eq_of_mem_set hx with h1 | h1
  · exact h x h1
  · rw [h1]; exact hy
theorem nbr_out {g : Row.E → List Sam.E} {L : List Row.E} (h : NBR L) : NBR (Row.outL g L) := fun y hy => by
  obtain ⟨x, hx, rfl, -⟩ := Row.outL_in hy
  exact h x hx
end Go.Proofs.YtlboekimnhgfdaaGreat.Draw
namespace Go.Proofs.YtlboekimnhgfdaaGreat.Tab
open Go.RowKit Rw Draw
set_option linter.unusedVariables false
def tabN (t : T3) : Prop := tabB t ∧ NBR t.1
def TabAtN (B D q : Nat) (wx : World) (ra : Option Addr) (rl rq : Nat) (R : List Row.E) (H F : Int) : Prop :=
  wx.ownsRow B 30 3 (.slice (some ⟨q, 0, none⟩) 1 1) 1 [.slice ra rl rq, .int .i64 H, .int .i64 F] ∧ Row.IsF D wx (.slice ra rl rq) R ∧ tabN (R, H, F)
theorem TabAtN.grown {B D q rb : Nat} {w w' : World} {ra : Option Addr} {rl rq : Nat} {R : List Row.E} {H F : Int} (h : TabAtN B D q w ra rl rq R H F) (hg : w.grownBy w' (some rb)) (hr : rb < B ∧ rb < D) : TabAtN B D q w' ra rl rq R H F :=
  ⟨own_kept h.1 hg hr.1, h.2.1.grown hg hr.2, h.2.2⟩
theorem TabAtN.below {B D q : Nat} {w w' : World} {ra : Option Addr} {rl rq : Nat} {R : List Row.E} {H F : Int} (h : TabAtN B D q w ra rl rq R H F) (hb : Below w.heap.size w w') : TabAtN B D q w' ra rl rq R H F :=
  ⟨own_below h.1 hb, h.2.1.below hb, h.2.2⟩
theorem new_tabN : tabN ([], -1, 0) := ⟨new_tab, nbr_nil⟩
theorem keep_tabN {R : List Row.E} {H F age : Int} (h : tabN (R, H, F)) (h0 : -1 ≤ age) : tabN (keep age R H F) := by
  refine ⟨keep_tab h.1 h0, ?_⟩
  unfold keep
  split
  · split
    · exact h.2
    · show NBR (Row.drop _ _ _ _)
      unfold Row.drop
      split
      · exact nbr_out h.2
      · exact nbr_nil
  · exact nbr_nil
theorem one_nb {t : T3} {e : En} (h : NBR t.1) (he : nbL e.1) : NBR (oneE t e).1.1 := by
  by_cases h1 : codeE t.2.1 t.2.2 e.1 e.2.1 e.2.2 = 0
  · cases h2 : otherE t.1 e.1 e.2.1 e.2.2
    · cases h3 : Row.add t.1 (e.1, [(e.2.1, e.2.2)]) with
      | none => rw [one_many h1 h2 h3]; exact h
      | some R => rw [one_fine h1 h2 h3]; exact nbr_ins h he (Row.add_ins h3)
    · rw [one_other h1 h2]; exact h
  · rw [one_none h1]; exact h
theorem run_nb : ∀ (b : List En) {t : T3}, NBR t.1 → (∀ e ∈ b, nbL e.1) → NBR (runT t b).1.1
  | [], t, h, _ => h
  | e :: b, t, h, hb => by
    rw [runT_cons]
    split
    · exact run_nb b (one_nb h (hb e (List.mem_cons_self ..))) (fun x hx => hb x (List.mem_cons_of_mem _ hx))
    · exact one_nb h (hb e (List.mem_cons_self ..))
theorem addE_tabN {t : T3} {b : List En} (h : tabN t) (hb : ∀ e ∈ b, nbL e.1) : tabN (addE t b).1 := by
  refine ⟨addE_tab h.1, ?_⟩
  unfold addE
  split
  · split
    · exact run_nb b h.2 hb
    · exact h.2
  · exact h.2
/-- labels that are in no table that is drawn -/
def nbls : List Lab.E := [(nobody, ⟨#[110, 101, 119]⟩)]
theorem nb_there {L : List Row.E} (h : NBR L) : Row.there L nbls = false := by
  unfold Row.there
  rw [Bool.and_eq_false_iff]
  by_cases hk : Row.place L nbls < L.length
  · right
    rw [decide_eq_false_iff_not]
    intro hc
    have he := Lab.ordL.zero _ _ hc
    have := h _ (Row.at_mem L _ hk) (nobody, ⟨#[110, 101, 119]⟩) (by rw [he]; exact List.mem_singleton.2 rfl)
    exact this rfl
  · left; exact decide_eq_false hk
theorem nb_add {L : List Row.E} (hok : Row.ok L = true) (h : NBR L) (T V : Int) : (L.length ≤ 9 → ∃ R, Row.add L (nbls, [(T, V)]) = some R) ∧ (¬ L.length ≤ 9 → Row.add L (nbls, [(T, V)]) = none) := by
  have e := Row.add_new (x := (nbls, [(T, V)])) hok (nb_there h)
  refine ⟨fun hl => ?_, fun hl => ?_⟩
  · rw [e, if_pos (by simp; omega)]; exact ⟨_, rfl⟩
  · rw [e, if_neg (by simp; omega)]
/-- the code of a sample under them -/
theorem nb_code {L : List Row.E} {H F T : Int} (ht : Row.tableB L H F = true) (h : NBR L) (hT : 0 ≤ T ∧ T ≤ 9999) :
    (tadd L H F [(nbls, T, 1)]).2 = if T < F ∨ T < H - 300 then 2 else if L.length ≤ 9 then 0 else 4 := by
  have hl1 : Lab.ok nbls = true := by decide
  have hr : SampMath.inR T 1 = true := SampMath.inR_iff.2 (by omega)
  have hlen : 1 ≤ ([(nbls, T, 1)] : List En).length ∧ ([(nbls, T, 1)] : List En).length ≤ 6 := by simp
  rw [tadd_yes ht, addE_try hlen]
  have hcode : (tryE (L, H, F) [(nbls, T, 1)]).2 = (oneE (L, H, F) (nbls, T, 1)).2 := by
    unfold tryE
    rw [runT_one]
    by_cases h0 : (oneE (L, H, F) (nbls, T, 1)).2 = 0
    · rw [if_pos h0]
    · rw [if_neg h0]
  rw [hcode]
  by_cases hc : T < F ∨ T < H - 300
  · have h2 : codeE H F nbls T 1 = 2 := by unfold codeE; rw [if_pos hl1, if_pos hr, if_pos hc]
    rw [if_pos hc, one_none (t := (L, H, F)) (e := (nbls, T, 1)) (by show codeE H F nbls T 1 ≠ 0; rw [h2]; decide)]
    exact h2
  · have h2 : codeE H F nbls T 1 = 0 := by unfold codeE; rw [if_pos hl1, if_pos hr, if_neg hc]
    have h3 : otherE L nbls T 1 = false := by unfold otherE; rw [nb_there h]; rfl
    have ha := nb_add (Row.tab_parts ht).2.2.2.2.1 h T 1
    rw [if_neg hc]
    by_cases hl : L.length ≤ 9
    · obtain ⟨R, hR⟩ := ha.1 hl
      rw [if_pos hl, one_fine (t := (L, H, F)) (e := (nbls, T, 1)) h2 h3 hR]
    · rw [if_neg hl, one_many (t := (L, H, F)) (e := (nbls, T, 1)) h2 h3 (ha.2 hl)]
end Go.Proofs.YtlboekimnhgfdaaGreat.Tab

/- Labels that are drawn are ok, and none bears the name nobody. -/
namespace Go.Proofs.YtlboekimnhgfdaaGreat.Draw
open Go.RowKit Rw Lab
set_option linter.unusedVariables false
set_option linter.unusedSimpArgs false
attribute [local go_sem ↓] Go.wp_at_zero Go.wp_at_succ
set_option maxRecDepth 100000 in
set_option maxHeartbeats 4000000 in
theorem labels_nb (rb p : Nat) (w : World) (h : Rd w rb p) (hp : p ≤ 700000) :
    Calls Tryz.prog 142 #[.pointer (some ⟨rb, 0, none⟩)] w fun e w' => ∃ (zs : List Lab.E) (v : Value), e = .returned v ∧ 0 < zs.length ∧ zs.length ≤ 3 ∧ (Lab.ok zs = true ∧ nbL zs) ∧ w'.ownsRow w.heap.size 64 2 v zs.length (Lab.flat zs) ∧ (∃ p', p' ≤ p + 10 ∧ Rd w' rb p') ∧ w.grownBy w' (some rb) := by
  obtain ⟨i0, hi, hz0, hz1, hz2⟩ := info_parts Lab.info_e
  have hrl := h.lt
  have hmx : 1 ≤ maxLen := by unfold maxLen; omega
  have hb1 : Below w.heap.size w (w.alloc (.cells #[] 64)) := (Below.refl _ _).alloc (Nat.le_refl _) _
  have hb2 : Below (w.alloc (.cells #[] 64)).heap.size (w.alloc (.cells #[] 64)) ((w.alloc (.cells #[] 64)).alloc (.cells (names3.map Value.string).toArray 9)) := (Below.refl _ _).alloc (Nat.le_refl _) _
  have S0 := hide (show LSo w ((w.alloc (.cells #[] 64)).alloc (.cells (names3.map Value.string).toArray 9)) rb (w.alloc (.cells #[] 64)).heap.size p (.slice (some ⟨w.heap.size, 0, none⟩) 0 0) [] from
    ⟨by simp, (own_empty (w := w) (base := w.heap.size) (e := 64) (size := 2) (Nat.le_refl _)).alloc _, fun k hk => by have := Option.some.inj hk; simp at this ⊢; omega, strs_block (heap_alloc_new _ _), ⟨by simp, by simp⟩, (h.below hb1).below hb2, grown_trans (grown_below hb1) (grown_below hb2), hrl⟩)
  clear h hb1 hb2
  go_enter Tryz.func142, Tryz.ntmps142
  go_wp2_with fail
  go_loopw [3, 9] (fun ov iv wr => ∃ (i : Nat) (L : List Lab.E) (p' : Nat), iv = .int .i64 (i : Int) ∧ i ≤ 3 ∧ L.length ≤ i ∧ Hid ((L.map (·.1)).Sublist (names3.take i)) ∧ p' ≤ p + 3 * i ∧ LSo w wr rb (w.heap.size + 1) p' ov L) (fun _ iv _ => 3 - (intOf iv).toNat)
  case atStart => exact ⟨0, [], p, rfl, by omega, by simp, List.nil_sublist _, by omega, by simpa [names3] using unhide S0⟩
  case round =>
    clear S0
    obtain ⟨i, L, p', rfl, hi3, hL, HSub, hp', hS⟩ := hrel
    by_cases h3 : i < 3
    · rcases (show i = 0 ∨ i = 1 ∨ i = 2 from by omega) with rfl | rfl | rfl
      · have hc : wr.cell? ⟨w.heap.size + 1, 0, none⟩ = some (.string ⟨#[97, 112, 112]⟩) := hS.2.2.2.1 0 (by decide)
        have HS := hide hS
        clear hS
        go_wp2_with fail
        refine (pick_any rb p' _ _ (unhide HS).2.2.2.2.2.1 (by omega) (by omega)).mono ?_
        rintro e w1 ⟨x, rfl, x0, x1, -, r1, g1⟩
        have HS1 := hide ((unhide HS).pick r1 g1)
        clear HS hc r1 g1 x1
        by_cases hx : x = 0
        · subst hx
          go_wp2_with fail
          have hof := of_new rb (p' + 1) [⟨#[97]⟩, ⟨#[97, 98]⟩, ⟨#[98]⟩, ⟨#[97]⟩, ⟨#[97]⟩] _ (unhide HS1).2.2.2.2.2.1 (by omega) (by simp) (by simp)
          simp only [List.map_cons, List.map_nil, List.length_cons, List.length_nil, Nat.zero_add, Nat.reduceAdd] at hof
          refine hof.mono ?_
          clear hof
          rintro e w3 ⟨B, rfl, hB, r3, g3⟩
          have B0 := hide (show B ∈ words4 by
            simp only [List.mem_cons, List.not_mem_nil, or_false] at hB
            rcases hB with rfl | rfl | rfl | rfl | rfl <;> simp [words4])
          have HT := hide ((unhide HS1).pick r3 g3)
          clear HS1 r3 g3 hB
          go_wp2_with (at_builtin; refine app_wp _ rfl _ _ _ rfl w.heap.size 64 i0 _ 2 32 Tryz.underlying60 hi hz0 hz1 hz2 rfl (by omega) _ L.length _ rfl ((unhide HT).2.1.alloc _) _ 1 [.string ⟨#[97, 112, 112]⟩, .string B] rfl (lies_new rfl rfl hmx) (by simp [Value.oneCell']) (by unfold maxLen; omega) (by omega) (by have := (unhide HT).2.2.2.2.1; simp; omega) ?_; intro vn w9 on gn an)
          have HU := hide ((unhide HT).app (x := (⟨#[97, 112, 112]⟩, B)) ⟨by simp [names4, names3], unhide B0⟩ rfl rfl on gn an)
          clear on gn an HT
          go_wp2_with fail
          go_roundw
          case rel => exact ⟨1, L ++ [(⟨#[97, 112, 112]⟩, B)], p' + 1 + 1, by go_num, by omega, by rw [List.length_append]; exact Nat.add_le_add_right hL 1, sub_app (unhide HSub) rfl, by omega, unhide HU⟩
          case measure => simp [intOf]
        · have hxf : (x == 0) = false := by simpa using hx
          go_wp2_with fail
          refine (pick_any rb (p' + 1) _ _ (unhide HS1).2.2.2.2.2.1 (by omega) (by omega)).mono ?_
          rintro e w2 ⟨y, rfl, y0, y1, -, r2, g2⟩
          have HS2 := hide ((unhide HS1).pick r2 g2)
          clear HS1 r2 g2 y1
          by_cases hy : 0 < y
          · go_wp2_with fail
            have hof := of_new rb (p' + 1 + 1) [⟨#[97]⟩, ⟨#[97, 98]⟩, ⟨#[98]⟩, ⟨#[97]⟩, ⟨#[97]⟩] _ (unhide HS2).2.2.2.2.2.1 (by omega) (by simp) (by simp)
            simp only [List.map_cons, List.map_nil, List.length_cons, List.length_nil, Nat.zero_add, Nat.reduceAdd] at hof
            refine hof.mono ?_
            clear hof
            rintro e w3 ⟨B, rfl, hB, r3, g3⟩
            have B0 := hide (show B ∈ words4 by
              simp only [List.mem_cons, List.not_mem_nil, or_false] at hB
              rcases hB with rfl | rfl | rfl | rfl | rfl <;> simp [words4])
            have HT := hide ((unhide HS2).pick r3 g3)
            clear HS2 r3 g3 hB
            go_wp2_with (at_builtin; refine app_wp _ rfl _ _ _ rfl w.heap.size 64 i0 _ 2 32 Tryz.underlying60 hi hz0 hz1 hz2 rfl (by omega) _ L.length _ rfl ((unhide HT).2.1.alloc _) _ 1 [.string ⟨#[97, 112, 112]⟩, .string B] rfl (lies_new rfl rfl hmx) (by simp [Value.oneCell']) (by unfold maxLen; omega) (by omega) (by have := (unhide HT).2.2.2.2.1; simp; omega) ?_; intro vn w9 on gn an)
            have HU := hide ((unhide HT).app (x := (⟨#[97, 112, 112]⟩, B)) ⟨by simp [names4, names3], unhide B0⟩ rfl rfl on gn an)
            clear on gn an HT
            go_wp2_with fail
            go_roundw
            case rel => exact ⟨1, L ++ [(⟨#[97, 112, 112]⟩, B)], p' + 1 + 1 + 1, by go_num, by omega, by rw [List.length_append]; exact Nat.add_le_add_right hL 1, sub_app (unhide HSub) rfl, by omega, unhide HU⟩
            case measure => simp [intOf]
          · have hyf : decide (0 < y) = false := by simpa using hy
            go_wp2_with fail
            go_roundw
            case rel => exact ⟨1, L, p' + 1 + 1, by go_num, by omega, by omega, sub_skip (unhide HSub) rfl, by omega, unhide HS2⟩
            case measure => simp [intOf]
      · have hc : wr.cell? ⟨w.heap.size + 1, 1, none⟩ = some (.string ⟨#[104, 111, 115, 116]⟩) := hS.2.2.2.1 1 (by decide)
        have HS := hide hS
        clear hS
        go_wp2_with fail
        refine (pick_any rb p' _ _ (unhide HS).2.2.2.2.2.1 (by omega) (by omega)).mono ?_
        rintro e w1 ⟨x, rfl, x0, x1, -, r1, g1⟩
        have HS1 := hide ((unhide HS).pick r1 g1)
        clear HS hc r1 g1 x1
        by_cases hx : x = 0
        · subst hx
          go_wp2_with fail
          have hof := of_new rb (p' + 1) [⟨#[97]⟩, ⟨#[97, 98]⟩, ⟨#[98]⟩, ⟨#[97]⟩, ⟨#[97]⟩] _ (unhide HS1).2.2.2.2.2.1 (by omega) (by simp) (by simp)
          simp only [List.map_cons, List.map_nil, List.length_cons, List.length_nil, Nat.zero_add, Nat.reduceAdd] at hof
          refine hof.mono ?_
          clear hof
          rintro e w3 ⟨B, rfl, hB, r3, g3⟩
          have B0 := hide (show B ∈ words4 by
            simp only [List.mem_cons, List.not_mem_nil, or_false] at hB
            rcases hB with rfl | rfl | rfl | rfl | rfl <;> simp [words4])
          have HT := hide ((unhide HS1).pick r3 g3)
          clear HS1 r3 g3 hB
          go_wp2_with (at_builtin; refine app_wp _ rfl _ _ _ rfl w.heap.size 64 i0 _ 2 32 Tryz.underlying60 hi hz0 hz1 hz2 rfl (by omega) _ L.length _ rfl ((unhide HT).2.1.alloc _) _ 1 [.string ⟨#[104, 111, 115, 116]⟩, .string B] rfl (lies_new rfl rfl hmx) (by simp [Value.oneCell']) (by unfold maxLen; omega) (by omega) (by have := (unhide HT).2.2.2.2.1; simp; omega) ?_; intro vn w9 on gn an)
          have HU := hide ((unhide HT).app (x := (⟨#[104, 111, 115, 116]⟩, B)) ⟨by simp [names4, names3], unhide B0⟩ rfl rfl on gn an)
          clear on gn an HT
          go_wp2_with fail
          go_roundw
          case rel => exact ⟨2, L ++ [(⟨#[104, 111, 115, 116]⟩, B)], p' + 1 + 1, by go_num, by omega, by rw [List.length_append]; exact Nat.add_le_add_right hL 1, sub_app (unhide HSub) rfl, by omega, unhide HU⟩
          case measure => simp [intOf]
        · have hxf : (x == 0) = false := by simpa using hx
          go_wp2_with fail
          go_roundw
          case rel => exact ⟨2, L, p' + 1, by go_num, by omega, by omega, sub_skip (unhide HSub) rfl, by omega, unhide HS1⟩
          case measure => simp [intOf]
      · have hc : wr.cell? ⟨w.heap.size + 1, 2, none⟩ = some (.string ⟨#[122, 111, 110, 101]⟩) := hS.2.2.2.1 2 (by decide)
        have HS := hide hS
        clear hS
        go_wp2_with fail
        refine (pick_any rb p' _ _ (unhide HS).2.2.2.2.2.1 (by omega) (by omega)).mono ?_
        rintro e w1 ⟨x, rfl, x0, x1, -, r1, g1⟩
        have HS1 := hide ((unhide HS).pick r1 g1)
        clear HS hc r1 g1 x1
        by_cases hx : x = 0
        · subst hx
          go_wp2_with fail
          have hof := of_new rb (p' + 1) [⟨#[97]⟩, ⟨#[97, 98]⟩, ⟨#[98]⟩, ⟨#[97]⟩, ⟨#[97]⟩] _ (unhide HS1).2.2.2.2.2.1 (by omega) (by simp) (by simp)
          simp only [List.map_cons, List.map_nil, List.length_cons, List.length_nil, Nat.zero_add, Nat.reduceAdd] at hof
          refine hof.mono ?_
          clear hof
          rintro e w3 ⟨B, rfl, hB, r3, g3⟩
          have B0 := hide (show B ∈ words4 by
            simp only [List.mem_cons, List.not_mem_nil, or_false] at hB
            rcases hB with rfl | rfl | rfl | rfl | rfl <;> simp [words4])
          have HT := hide ((unhide HS1).pick r3 g3)
          clear HS1 r3 g3 hB
          go_wp2_with (at_builtin; refine app_wp _ rfl _ _ _ rfl w.heap.size 64 i0 _ 2 32 Tryz.underlying60 hi hz0 hz1 hz2 rfl (by omega) _ L.length _ rfl ((unhide HT).2.1.alloc _) _ 1 [.string ⟨#[122, 111, 110, 101]⟩, .string B] rfl (lies_new rfl rfl hmx) (by simp [Value.oneCell']) (by unfold maxLen; omega) (by omega) (by have := (unhide HT).2.2.2.2.1; simp; omega) ?_; intro vn w9 on gn an)
          have HU := hide ((unhide HT).app (x := (⟨#[122, 111, 110, 101]⟩, B)) ⟨by simp [names4, names3], unhide B0⟩ rfl rfl on gn an)
          clear on gn an HT
          go_wp2_with fail
          go_roundw
          case rel => exact ⟨3, L ++ [(⟨#[122, 111, 110, 101]⟩, B)], p' + 1 + 1, by go_num, by omega, by rw [List.length_append]; exact Nat.add_le_add_right hL 1, sub_app (unhide HSub) rfl, by omega, unhide HU⟩
          case measure => simp [intOf]
        · have hxf : (x == 0) = false := by simpa using hx
          go_wp2_with fail
          go_roundw
          case rel => exact ⟨3, L, p' + 1, by go_num, by omega, by omega, sub_skip (unhide HSub) rfl, by omega, unhide HS1⟩
          case measure => simp [intOf]
    · obtain rfl : i = 3 := by omega
      obtain ⟨-, am, cm, rfl, -⟩ := lies_of_own hS.2.1
      have HS := hide hS
      clear hS
      by_cases hl0 : L.length = 0
      · have hz : ((L.length : Int) == 0) = true := by simp [hl0]
        go_wp2_with (at_builtin; refine app_wp _ rfl _ _ _ rfl w.heap.size 64 i0 _ 2 32 Tryz.underlying60 hi hz0 hz1 hz2 rfl (by omega) _ L.length _ rfl ((unhide HS).2.1.alloc _) _ 1 [.string ⟨#[106, 111, 98]⟩, .string ⟨#[120]⟩] rfl (lies_new rfl rfl hmx) (by simp [Value.oneCell']) (by unfold maxLen; omega) (by omega) (by have := (unhide HS).2.2.2.2.1; simp; omega) ?_; intro vn w9 on gn an)
        have HU := hide ((unhide HS).app (x := (⟨#[106, 111, 98]⟩, ⟨#[120]⟩)) ⟨by simp [names4, names3], by simp [words4]⟩ rfl rfl on gn an)
        clear on gn an HS
        go_wp2_with fail
        go_ret
        obtain ⟨h1, h2, -, -, -, h7, h8, -⟩ := unhide HU
        exact ⟨_, _, rfl, by rw [List.length_append]; exact Nat.succ_pos _, by rw [List.length_append, hl0]; decide, ⟨ok_job L hl0, nb_of h1⟩, h2, ⟨p', by omega, h7⟩, h8⟩
      · have hz : ((L.length : Int) == 0) = false := beq_false_of_ne (by omega)
        go_wp2_with fail
        go_ret
        obtain ⟨h1, h2, -, -, -, h7, h8, -⟩ := unhide HS
        exact ⟨_, _, rfl, by omega, by omega, ⟨ok_names (unhide HSub) h1 (by omega), nb_of h1⟩, h2, ⟨p', by omega, h7⟩, h8⟩
end Go.Proofs.YtlboekimnhgfdaaGreat.Draw

/- Entries are drawn: one to three of them; entries with one turned. -/
namespace Go.Proofs.YtlboekimnhgfdaaGreat.Draw
open Go.RowKit Rw
set_option linter.unusedVariables false
attribute [local go_sem ↓] Go.wp_at_zero Go.wp_at_succ
theorem ent_cat_set (cs : List Ent.C) (c : Ent.C) (k i : Nat) (hk : k < cs.length) : Ent.cat (cs.set k c) i = if i = k then c else Ent.cat cs i := by
  unfold Ent.cat List.getD
  rw [List.getElem?_set]
  by_cases h : k = i
  · rw [if_pos h, if_pos h.symm, if_pos hk]; rfl
  · rw [if_neg h, if_neg (fun e => h e.symm)]
theorem ent_at_set (cs : List Ent.E) (c : Ent.E) (k i : Nat) (hk : k < cs.length) : Ent.at' (cs.set k c) i = if i = k then c else Ent.at' cs i := by
  unfold Ent.at' List.getD
  rw [List.getElem?_set]
  by_cases h : k = i
  · rw [if_pos h, if_pos h.symm, if_pos hk]; rfl
  · rw [if_neg h, if_neg (fun e => h e.symm)]
theorem ent_flat_set (cs : List Ent.C) (k : Nat) (hk : k < cs.length) (c' : Ent.C) (j : Nat) (hj : j < 3) (x : Value) (hx : Ent.cl c' = (Ent.cl (Ent.cat cs k)).set j x) : flatOf Ent.cl (cs.set k c') = (flatOf Ent.cl cs).set (k * 3 + j) x := by
  have hfl : (flatOf Ent.cl cs).length = cs.length * 3 := flatOf_length Ent.clk cs
  apply List.ext_getElem?
  intro m
  rw [List.getElem?_set]
  rcases Nat.lt_or_ge m (cs.length * 3) with hm | hm
  · obtain ⟨i, c, rfl, hc⟩ : ∃ i c, m = i * 3 + c ∧ c < 3 := ⟨m / 3, m % 3, by omega, by omega⟩
    rw [flatOf_get Ent.clk (cs.set k c') i c (by rw [List.length_set]; omega) hc, flatOf_get Ent.clk cs i c (by omega) hc, List.getElem_set]
    by_cases e : k = i
    · subst e
      rw [if_pos rfl, hx, Ent.cat_get cs k hk, List.getElem?_set]
      by_cases e2 : j = c
      · subst e2
        rw [if_pos rfl, if_pos rfl, if_pos (by rw [Ent.clk]; exact hj), if_pos (by omega)]
      · rw [if_neg e2, if_neg (by omega)]
    · rw [if_neg e, if_neg (by omega)]
  · rw [List.getElem?_eq_none (by rw [flatOf_length Ent.clk, List.length_set]; omega), if_neg (by omega), List.getElem?_eq_none (by omega)]
/-- an element's cell -/
theorem EntOwn.slot {base g q k j : Nat} {w : World} {L : List Ent.E} (h : EntOwn base w (.slice (some ⟨g, 0, none⟩) L.length q) L) (hk : k < L.length) (hj : j < 3) : (∃ u, w.cell? ⟨g, k * 3 + j, none⟩ = some u) ∧ w.frozen? ⟨g, k * 3 + j, none⟩ = false ∧ base ≤ g ∧ g < w.heap.size ∧ L.length ≤ q ∧ q ≤ maxLen := by
  obtain ⟨cs, h1, h2, h3⟩ := h
  have hfl : (flatOf Ent.cl cs).length = cs.length * 3 := flatOf_length Ent.clk cs
  refine ⟨?_, h2.frozenAt _, own_ge h2 g rfl, own_lt h2, ?_⟩
  · rw [h2.cellAt (k * 3 + j) (by omega)]
    obtain ⟨u, hu⟩ : ∃ u, (flatOf Ent.cl cs)[k * 3 + j]? = some u := ⟨_, List.getElem?_eq_getElem (by omega)⟩
    exact ⟨u, hu⟩
  · obtain ⟨-, a', q', e, hq1, hq2, -⟩ := lies_of_own h2
    simp only [Value.slice.injEq, true_and] at e
    omega
theorem ent_set {base g q k : Nat} {w : World} {L : List Ent.E} (h : EntOwn base w (.slice (some ⟨g, 0, none⟩) L.length q) L) (hk : k < L.length) (j : Nat) (x : Value) (e' : Ent.E)
    (hx : (j = 0 ∧ e'.2 = (Ent.at' L k).2 ∧ w.ownsRow base 64 2 x e'.1.length (Lab.flat e'.1)) ∨ (j = 1 ∧ x = .int .i64 e'.2.1 ∧ e'.1 = (Ent.at' L k).1 ∧ e'.2.2 = (Ent.at' L k).2.2) ∨ (j = 2 ∧ x = .int .i64 e'.2.2 ∧ e'.1 = (Ent.at' L k).1 ∧ e'.2.1 = (Ent.at' L k).2.1)) :
    EntOwn base (w.setCell ⟨g, k * 3 + j, none⟩ x) (.slice (some ⟨g, 0, none⟩) L.length q) (L.set k e') := by
  obtain ⟨cs, h1, h2, h3⟩ := h
  have hst := (h2.stored (k * 3 + j) x).1
  have ho := (OnlyAt.refl g w).setCell (k * 3 + j) x
  have keep : ∀ {n v} {xs : List Value}, w.ownsRow base 64 2 v n xs → (w.setCell ⟨g, k * 3 + j, none⟩ x).ownsRow base 64 2 v n xs := fun h => ho.own h (fun b hb e => own_ne_type h h2 (by decide) b hb (by rw [e]; rfl))
  have key : ∃ c', Ent.cl c' = (Ent.cl (Ent.cat cs k)).set j x ∧ j < 3 ∧ w.ownsRow base 64 2 c'.1 e'.1.length (Lab.flat e'.1) ∧ c'.2.1 = .int .i64 e'.2.1 ∧ c'.2.2 = .int .i64 e'.2.2 := by
    obtain ⟨r1, r2, r3⟩ := h3 k hk
    rcases hx with ⟨rfl, e1, e2⟩ | ⟨rfl, e1, e2, e3⟩ | ⟨rfl, e1, e2, e3⟩
    · exact ⟨(x, (Ent.cat cs k).2.1, (Ent.cat cs k).2.2), rfl, by decide, e2, by rw [e1]; exact r2, by rw [e1]; exact r3⟩
    · exact ⟨((Ent.cat cs k).1, x, (Ent.cat cs k).2.2), rfl, by decide, by rw [e2]; exact r1, e1, by rw [e3]; exact r3⟩
    · exact ⟨((Ent.cat cs k).1, (Ent.cat cs k).2.1, x), rfl, by decide, by rw [e2]; exact r1, by rw [e3]; exact r2, e1⟩
  obtain ⟨c', k1, k2, k3, k4, k5⟩ := key
  refine ⟨cs.set k c', by simp [h1], ?_, fun i hi => ?_⟩
  · rw [List.length_set, ent_flat_set cs k (by omega) c' j k2 x k1]
    exact hst
  · rw [List.length_set] at hi
    rw [ent_cat_set _ _ _ _ (by omega), ent_at_set _ _ _ _ hk]
    by_cases e : i = k
    · rw [if_pos e, if_pos e]; exact ⟨keep k3, k4, k5⟩
    · rw [if_neg e, if_neg e]; exact ⟨keep (h3 i hi).1, (h3 i hi).2⟩
set_option maxRecDepth 100000 in
set_option maxHeartbeats 8000000 in
theorem batch_len (rb p : Nat) (now : Int) (w : World) (h : Rd w rb p) (hp : p ≤ 600000) (h0 : 0 ≤ now) (h1 : now ≤ 20000) :
    Calls Tryz.prog 112 #[.pointer (some ⟨rb, 0, none⟩), .int .i64 now] w fun e w' => ∃ (zs : List Ent.E) (v : Value), e = .returned v ∧ (1 ≤ zs.length ∧ zs.length ≤ 3) ∧ (∀ x ∈ zs, entG x) ∧ EntOwn w.heap.size w' v zs ∧ (∃ p', p' ≤ p + 100 ∧ Rd w' rb p') ∧ w.grownBy w' (some rb) := by
  obtain ⟨i0, hi, hz0, hz1, hz2⟩ := info_parts Ent.info_e
  have hrl := h.lt
  have hmx : 1 ≤ maxLen := by unfold maxLen; omega
  have HR := hide h
  clear h
  go_enter Tryz.func112, Tryz.ntmps112
  go_wp2_with fail
  refine (pick_any rb p _ _ ((unhide HR).below ((Below.refl _ _).alloc (Nat.le_refl _) _)) (by omega) (by omega)).mono ?_
  rintro e w1 ⟨n, rfl, n0, n1, -, r1, g1⟩
  have n2 : n < 3 := n1 (by omega)
  have o1 := hide ((ent_nil (w := w) (base := w.heap.size) (Nat.le_refl _)).kept g1 hrl)
  have q1 : w.grownBy w1 (some rb) := grown_trans (grown_below ((Below.refl _ _).alloc (Nat.le_refl _) _)) g1
  clear n1 HR g1
  obtain ⟨N, hN⟩ : ∃ N : Nat, 1 + n = (N : Int) := ⟨(1 + n).toNat, by omega⟩
  go_wp2_with fail
  go_loopw [5, 6] (fun ov kv wr => ∃ (k : Nat) (L : List Ent.E) (p' : Nat), kv = .int .i64 (k : Int) ∧ (∃ a l q, ov = .slice a l q) ∧ (1 ≤ L.length + k ∧ L.length + k ≤ 3) ∧ p' ≤ p + 1 + 20 * L.length ∧ Hid (∀ x ∈ L, entG x) ∧ Hid (EntOwn w.heap.size wr ov L) ∧ Rd wr rb p' ∧ w.grownBy wr (some rb)) (fun _ kv _ => (intOf kv).toNat)
  case atStart => exact ⟨N, [], p + 1, rfl, ⟨_, _, _, rfl⟩, ⟨by simp; omega, by simp; omega⟩, by simp, hide (by simp), o1, r1, q1⟩
  case round =>
    clear o1 q1 r1 hN
    obtain ⟨k, L, p', rfl, ⟨oa, ol, oq, rfl⟩, hk, hp', HM, HO, hrd, hg⟩ := hrel
    have hsz := hg.size
    by_cases hk0 : 0 < k
    · have hk1 : (0 : Int) < (k : Int) := by omega
      have hone := one_new rb p' [0, 1, 10, 37, -20, -150, 60, 0] _ hrd (by omega) (by simp) (by simp)
      simp only [List.map_cons, List.map_nil, List.length_cons, List.length_nil, Nat.zero_add, Nat.reduceAdd] at hone
      have HOne := hide hone
      clear hone
      go_wp2_with fail
      refine (unhide HOne).mono ?_
      rintro e w2 ⟨d, rfl, hd, r2, g2⟩
      have hd' : -150 ≤ d ∧ d ≤ 60 := by simp only [List.mem_cons, List.not_mem_nil, or_false] at hd; omega
      have HO2 := hide ((unhide HO).kept g2 hrl)
      have q2 := grown_trans hg g2
      have hsz2 := q2.size
      obtain ⟨t, ht⟩ : ∃ t, now + d = t := ⟨_, rfl⟩
      have hw : wrap64 t = t := IntWalk.wrap64_in t ⟨by omega, by omega⟩
      clear hd HO hrd hg g2 HOne
      obtain ⟨T, hT⟩ : ∃ T : Int, T = if t < 0 then 0 else if 9999 < t then 9999 else t := ⟨_, rfl⟩
      clear hT
      by_cases h2 : t < 0
      · go_wp2_with fail
        refine (labels_ok rb (p' + 1) _ r2 (by omega)).mono ?_
        rintro e w3 ⟨x, v, rfl, hx0, hx3, hxo, ox, ⟨p3, hp3, r3⟩, g3⟩
        have HO3 := hide ((unhide HO2).kept g3 hrl)
        have q3 := grown_trans q2 g3
        have OX3 := hide (own_mono ox hsz2)
        have HX := hide (show entG (x, 0, 0) from ⟨hx3, hxo⟩)
        obtain ⟨va, vl, vq, rfl⟩ : ∃ a l q, v = .slice a l q := by obtain ⟨-, a, q, e, -⟩ := lies_of_own ox; exact ⟨a, _, q, e⟩
        clear ox hxo HO2 q2 r2 g3 hx0
        go_wp2_with fail
        refine (value_any rb p3 _ r3 (by omega)).mono ?_
        rintro e w4 ⟨V, rfl, V0, V1, r4, g4⟩
        have q4 := grown_trans q3 g4
        have z4 := q4.size
        obtain ⟨cs, hcs, oo, oi⟩ := (unhide HO3).kept g4 hrl
        have oo' := oo
        have OI := hide oi
        have OO := hide oo
        have OX := hide (own_kept (unhide OX3) g4 hrl)
        clear HO3 q3 r3 g4 oi oo OX3
        go_wp2_with (at_builtin; refine app_wp _ rfl _ _ _ rfl w.heap.size 62 i0 _ 3 40 Tryz.underlying34 hi hz0 hz1 hz2 rfl (by omega) _ L.length _ rfl (oo'.alloc _) _ 1 [.slice va vl vq, .int .i64 0, .int .i64 V] rfl (lies_new rfl rfl hmx) (by simp [Value.oneCell']) (by unfold maxLen; omega) (by omega) (by simp; omega) ?_; intro vn w9 on gn an)
        have ge := own_ge oo'
        have hb9 : Below w4.heap.size w4 (w4.alloc (.cells #[.slice va vl vq, .int .i64 0, .int .i64 V] 62)) := (Below.refl _ _).alloc (Nat.le_refl _) _
        have M9 := hide (ent_app (x := (x, 0, V)) hcs (unhide OO) (unhide OI) (unhide OX) hb9 rfl rfl on gn)
        have R := hide (show w.grownBy w9 (some rb) from grown_other (grown_trans q4 (grown_below hb9)) gn ge)
        have R1 := hide (show Rd w9 rb (p3 + 6) from (r4.below hb9).grown gn (fun k hk => by have := ge k hk; omega))
        obtain ⟨na, nl, nq, rfl⟩ : ∃ a l q, vn = .slice a l q := by obtain ⟨-, a, q, e, -⟩ := lies_of_own on; exact ⟨a, _, q, e⟩
        clear on gn ge q4 r4 an OO OI OX oo' hb9
        go_wp2_with fail
        go_roundw
        case rel => exact ⟨k - 1, L ++ [(x, 0, V)], p3 + 6, by go_num, ⟨_, _, _, rfl⟩, ⟨by simp; omega, by simp; omega⟩, by simp; omega, hide (ent_snoc (unhide HM) (unhide HX)), M9, unhide R1, unhide R⟩
        case measure => simp [intOf]; omega
      have n2 : decide (t < 0) = false := decide_eq_false h2
      by_cases h3 : 9999 < t
      · go_wp2_with fail
        refine (labels_ok rb (p' + 1) _ r2 (by omega)).mono ?_
        rintro e w3 ⟨x, v, rfl, hx0, hx3, hxo, ox, ⟨p3, hp3, r3⟩, g3⟩
        have HO3 := hide ((unhide HO2).kept g3 hrl)
        have q3 := grown_trans q2 g3
        have OX3 := hide (own_mono ox hsz2)
        have HX := hide (show entG (x, 9999, 0) from ⟨hx3, hxo⟩)
        obtain ⟨va, vl, vq, rfl⟩ : ∃ a l q, v = .slice a l q := by obtain ⟨-, a, q, e, -⟩ := lies_of_own ox; exact ⟨a, _, q, e⟩
        clear ox hxo HO2 q2 r2 g3 hx0
        go_wp2_with fail
        refine (value_any rb p3 _ r3 (by omega)).mono ?_
        rintro e w4 ⟨V, rfl, V0, V1, r4, g4⟩
        have q4 := grown_trans q3 g4
        have z4 := q4.size
        obtain ⟨cs, hcs, oo, oi⟩ := (unhide HO3).kept g4 hrl
        have oo' := oo
        have OI := hide oi
        have OO := hide oo
        have OX := hide (own_kept (unhide OX3) g4 hrl)
        clear HO3 q3 r3 g4 oi oo OX3
        go_wp2_with (at_builtin; refine app_wp _ rfl _ _ _ rfl w.heap.size 62 i0 _ 3 40 Tryz.underlying34 hi hz0 hz1 hz2 rfl (by omega) _ L.length _ rfl (oo'.alloc _) _ 1 [.slice va vl vq, .int .i64 9999, .int .i64 V] rfl (lies_new rfl rfl hmx) (by simp [Value.oneCell']) (by unfold maxLen; omega) (by omega) (by simp; omega) ?_; intro vn w9 on gn an)
        have ge := own_ge oo'
        have hb9 : Below w4.heap.size w4 (w4.alloc (.cells #[.slice va vl vq, .int .i64 9999, .int .i64 V] 62)) := (Below.refl _ _).alloc (Nat.le_refl _) _
        have M9 := hide (ent_app (x := (x, 9999, V)) hcs (unhide OO) (unhide OI) (unhide OX) hb9 rfl rfl on gn)
        have R := hide (show w.grownBy w9 (some rb) from grown_other (grown_trans q4 (grown_below hb9)) gn ge)
        have R1 := hide (show Rd w9 rb (p3 + 6) from (r4.below hb9).grown gn (fun k hk => by have := ge k hk; omega))
        obtain ⟨na, nl, nq, rfl⟩ : ∃ a l q, vn = .slice a l q := by obtain ⟨-, a, q, e, -⟩ := lies_of_own on; exact ⟨a, _, q, e⟩
        clear on gn ge q4 r4 an OO OI OX oo' hb9
        go_wp2_with fail
        go_roundw
        case rel => exact ⟨k - 1, L ++ [(x, 9999, V)], p3 + 6, by go_num, ⟨_, _, _, rfl⟩, ⟨by simp; omega, by simp; omega⟩, by simp; omega, hide (ent_snoc (unhide HM) (unhide HX)), M9, unhide R1, unhide R⟩
        case measure => simp [intOf]; omega
      have n3 : decide (9999 < t) = false := decide_eq_false h3
      go_wp2_with fail
      refine (labels_ok rb (p' + 1) _ r2 (by omega)).mono ?_
      rintro e w3 ⟨x, v, rfl, hx0, hx3, hxo, ox, ⟨p3, hp3, r3⟩, g3⟩
      have HO3 := hide ((unhide HO2).kept g3 hrl)
      have q3 := grown_trans q2 g3
      have OX3 := hide (own_mono ox hsz2)
      have HX := hide (show entG (x, t, 0) from ⟨hx3, hxo⟩)
      obtain ⟨va, vl, vq, rfl⟩ : ∃ a l q, v = .slice a l q := by obtain ⟨-, a, q, e, -⟩ := lies_of_own ox; exact ⟨a, _, q, e⟩
      clear ox hxo HO2 q2 r2 g3 hx0
      go_wp2_with fail
      refine (value_any rb p3 _ r3 (by omega)).mono ?_
      rintro e w4 ⟨V, rfl, V0, V1, r4, g4⟩
      have q4 := grown_trans q3 g4
      have z4 := q4.size
      obtain ⟨cs, hcs, oo, oi⟩ := (unhide HO3).kept g4 hrl
      have oo' := oo
      have OI := hide oi
      have OO := hide oo
      have OX := hide (own_kept (unhide OX3) g4 hrl)
      clear HO3 q3 r3 g4 oi oo OX3
      go_wp2_with (at_builtin; refine app_wp _ rfl _ _ _ rfl w.heap.size 62 i0 _ 3 40 Tryz.underlying34 hi hz0 hz1 hz2 rfl (by omega) _ L.length _ rfl (oo'.alloc _) _ 1 [.slice va vl vq, .int .i64 t, .int .i64 V] rfl (lies_new rfl rfl hmx) (by simp [Value.oneCell']) (by unfold maxLen; omega) (by omega) (by simp; omega) ?_; intro vn w9 on gn an)
      have ge := own_ge oo'
      have hb9 : Below w4.heap.size w4 (w4.alloc (.cells #[.slice va vl vq, .int .i64 t, .int .i64 V] 62)) := (Below.refl _ _).alloc (Nat.le_refl _) _
      have M9 := hide (ent_app (x := (x, t, V)) hcs (unhide OO) (unhide OI) (unhide OX) hb9 rfl rfl on gn)
      have R := hide (show w.grownBy w9 (some rb) from grown_other (grown_trans q4 (grown_below hb9)) gn ge)
      have R1 := hide (show Rd w9 rb (p3 + 6) from (r4.below hb9).grown gn (fun k hk => by have := ge k hk; omega))
      obtain ⟨na, nl, nq, rfl⟩ : ∃ a l q, vn = .slice a l q := by obtain ⟨-, a, q, e, -⟩ := lies_of_own on; exact ⟨a, _, q, e⟩
      clear on gn ge q4 r4 an OO OI OX oo' hb9
      go_wp2_with fail
      go_roundw
      case rel => exact ⟨k - 1, L ++ [(x, t, V)], p3 + 6, by go_num, ⟨_, _, _, rfl⟩, ⟨by simp; omega, by simp; omega⟩, by simp; omega, hide (ent_snoc (unhide HM) (unhide HX)), M9, unhide R1, unhide R⟩
      case measure => simp [intOf]; omega
    · have hk1 : decide ((0 : Int) < (k : Int)) = false := by simp; omega
      go_wp2_with fail
      go_ret
      exact ⟨L, _, rfl, ⟨by omega, by omega⟩, unhide HM, unhide HO, ⟨p', by omega, hrd⟩, hg⟩
end Go.Proofs.YtlboekimnhgfdaaGreat.Draw

/- Entries that are drawn: their labels do not bear the name nobody. -/
namespace Go.Proofs.YtlboekimnhgfdaaGreat.Draw
open Go.RowKit Rw
set_option linter.unusedVariables false
set_option linter.unusedSimpArgs false
attribute [local go_sem ↓] Go.wp_at_zero Go.wp_at_succ
def entN (x : Ent.E) : Prop := x.1.length ≤ 3 ∧ Lab.ok x.1 = true ∧ nbL x.1
theorem ent_snocN {L : List Ent.E} {x : Ent.E} (h : ∀ y ∈ L, entN y) (hx : entN x) : ∀ y ∈ L ++ [x], entN y := by
  intro y hy
  rw [List.mem_append, List.mem_singleton] at hy
  rcases hy with hy | rfl
  · exact h y hy
  · exact hx
theorem ent_okayN {L : List Ent.E} (h : ∀ y ∈ L, entN y) : Tab.Okay L := ent_okay fun y hy => ⟨(h y hy).1, (h y hy).2.1⟩
set_option maxRecDepth 100000 in
set_option maxHeartbeats 8000000 in
theorem batch_nb (rb p : Nat) (now : Int) (w : World) (h : Rd w rb p) (hp : p ≤ 600000) (h0 : 0 ≤ now) (h1 : now ≤ 20000) :
    Calls Tryz.prog 112 #[.pointer (some ⟨rb, 0, none⟩), .int .i64 now] w fun e w' => ∃ (zs : List Ent.E) (v : Value), e = .returned v ∧ (1 ≤ zs.length ∧ zs.length ≤ 3) ∧ (∀ x ∈ zs, entN x) ∧ EntOwn w.heap.size w' v zs ∧ (∃ p', p' ≤ p + 100 ∧ Rd w' rb p') ∧ w.grownBy w' (some rb) := by
  obtain ⟨i0, hi, hz0, hz1, hz2⟩ := info_parts Ent.info_e
  have hrl := h.lt
  have hmx : 1 ≤ maxLen := by unfold maxLen; omega
  have HR := hide h
  clear h
  go_enter Tryz.func112, Tryz.ntmps112
  go_wp2_with fail
  refine (pick_any rb p _ _ ((unhide HR).below ((Below.refl _ _).alloc (Nat.le_refl _) _)) (by omega) (by omega)).mono ?_
  rintro e w1 ⟨n, rfl, n0, n1, -, r1, g1⟩
  have n2 : n < 3 := n1 (by omega)
  have o1 := hide ((ent_nil (w := w) (base := w.heap.size) (Nat.le_refl _)).kept g1 hrl)
  have q1 : w.grownBy w1 (some rb) := grown_trans (grown_below ((Below.refl _ _).alloc (Nat.le_refl _) _)) g1
  clear n1 HR g1
  obtain ⟨N, hN⟩ : ∃ N : Nat, 1 + n = (N : Int) := ⟨(1 + n).toNat, by omega⟩
  go_wp2_with fail
  go_loopw [5, 6] (fun ov kv wr => ∃ (k : Nat) (L : List Ent.E) (p' : Nat), kv = .int .i64 (k : Int) ∧ (∃ a l q, ov = .slice a l q) ∧ (1 ≤ L.length + k ∧ L.length + k ≤ 3) ∧ p' ≤ p + 1 + 20 * L.length ∧ Hid (∀ x ∈ L, entN x) ∧ Hid (EntOwn w.heap.size wr ov L) ∧ Rd wr rb p' ∧ w.grownBy wr (some rb)) (fun _ kv _ => (intOf kv).toNat)
  case atStart => exact ⟨N, [], p + 1, rfl, ⟨_, _, _, rfl⟩, ⟨by simp; omega, by simp; omega⟩, by simp, hide (by simp), o1, r1, q1⟩
  case round =>
    clear o1 q1 r1 hN
    obtain ⟨k, L, p', rfl, ⟨oa, ol, oq, rfl⟩, hk, hp', HM, HO, hrd, hg⟩ := hrel
    have hsz := hg.size
    by_cases hk0 : 0 < k
    · have hk1 : (0 : Int) < (k : Int) := by omega
      have hone := one_new rb p' [0, 1, 10, 37, -20, -150, 60, 0] _ hrd (by omega) (by simp) (by simp)
      simp only [List.map_cons, List.map_nil, List.length_cons, List.length_nil, Nat.zero_add, Nat.reduceAdd] at hone
      have HOne := hide hone
      clear hone
      go_wp2_with fail
      refine (unhide HOne).mono ?_
      rintro e w2 ⟨d, rfl, hd, r2, g2⟩
      have hd' : -150 ≤ d ∧ d ≤ 60 := by simp only [List.mem_cons, List.not_mem_nil, or_false] at hd; omega
      have HO2 := hide ((unhide HO).kept g2 hrl)
      have q2 := grown_trans hg g2
      have hsz2 := q2.size
      obtain ⟨t, ht⟩ : ∃ t, now + d = t := ⟨_, rfl⟩
      have hw : wrap64 t = t := IntWalk.wrap64_in t ⟨by omega, by omega⟩
      clear hd HO hrd hg g2 HOne
      obtain ⟨T, hT⟩ : ∃ T : Int, T = if t < 0 then 0 else if 9999 < t then 9999 else t := ⟨_, rfl⟩
      clear hT
      by_cases h2 : t < 0
      · go_wp2_with fail
        refine (labels_nb rb (p' + 1) _ r2 (by omega)).mono ?_
        rintro e w3 ⟨x, v, rfl, hx0, hx3, hxo, ox, ⟨p3, hp3, r3⟩, g3⟩
        have HO3 := hide ((unhide HO2).kept g3 hrl)
        have q3 := grown_trans q2 g3
        have OX3 := hide (own_mono ox hsz2)
        have HX := hide (show entN (x, 0, 0) from ⟨hx3, hxo⟩)
        obtain ⟨va, vl, vq, rfl⟩ : ∃ a l q, v = .slice a l q := by obtain ⟨-, a, q, e, -⟩ := lies_of_own ox; exact ⟨a, _, q, e⟩
        clear ox hxo HO2 q2 r2 g3 hx0
        go_wp2_with fail
        refine (value_any rb p3 _ r3 (by omega)).mono ?_
        rintro e w4 ⟨V, rfl, V0, V1, r4, g4⟩
        have q4 := grown_trans q3 g4
        have z4 := q4.size
        obtain ⟨cs, hcs, oo, oi⟩ := (unhide HO3).kept g4 hrl
        have oo' := oo
        have OI := hide oi
        have OO := hide oo
        have OX := hide (own_kept (unhide OX3) g4 hrl)
        clear HO3 q3 r3 g4 oi oo OX3
        go_wp2_with (at_builtin; refine app_wp _ rfl _ _ _ rfl w.heap.size 62 i0 _ 3 40 Tryz.underlying34 hi hz0 hz1 hz2 rfl (by omega) _ L.length _ rfl (oo'.alloc _) _ 1 [.slice va vl vq, .int .i64 0, .int .i64 V] rfl (lies_new rfl rfl hmx) (by simp [Value.oneCell']) (by unfold maxLen; omega) (by omega) (by simp; omega) ?_; intro vn w9 on gn an)
        have ge := own_ge oo'
        have hb9 : Below w4.heap.size w4 (w4.alloc (.cells #[.slice va vl vq, .int .i64 0, .int .i64 V] 62)) := (Below.refl _ _).alloc (Nat.le_refl _) _
        have M9 := hide (ent_app (x := (x, 0, V)) hcs (unhide OO) (unhide OI) (unhide OX) hb9 rfl rfl on gn)
        have R := hide (show w.grownBy w9 (some rb) from grown_other (grown_trans q4 (grown_below hb9)) gn ge)
        have R1 := hide (show Rd w9 rb (p3 + 6) from (r4.below hb9).grown gn (fun k hk => by have := ge k hk; omega))
        obtain ⟨na, nl, nq, rfl⟩ : ∃ a l q, vn = .slice a l q := by obtain ⟨-, a, q, e, -⟩ := lies_of_own on; exact ⟨a, _, q, e⟩
        clear on gn ge q4 r4 an OO OI OX oo' hb9
        go_wp2_with fail
        go_roundw
        case rel => exact ⟨k - 1, L ++ [(x, 0, V)], p3 + 6, by go_num, ⟨_, _, _, rfl⟩, ⟨by simp; omega, by simp; omega⟩, by simp; omega, hide (ent_snocN (unhide HM) (unhide HX)), M9, unhide R1, unhide R⟩
        case measure => simp [intOf]; omega
      have n2 : decide (t < 0) = false := decide_eq_false h2
      by_cases h3 : 9999 < t
      · go_wp2_with fail
        refine (labels_nb rb (p' + 1) _ r2 (by omega)).mono ?_
        rintro e w3 ⟨x, v, rfl, hx0, hx3, hxo, ox, ⟨p3, hp3, r3⟩, g3⟩
        have HO3 := hide ((unhide HO2).kept g3 hrl)
        have q3 := grown_trans q2 g3
        have OX3 := hide (own_mono ox hsz2)
        have HX := hide (show entN (x, 9999, 0) from ⟨hx3, hxo⟩)
        obtain ⟨va, vl, vq, rfl⟩ : ∃ a l q, v = .slice a l q := by obtain ⟨-, a, q, e, -⟩ := lies_of_own ox; exact ⟨a, _, q, e⟩
        clear ox hxo HO2 q2 r2 g3 hx0
        go_wp2_with fail
        refine (value_any rb p3 _ r3 (by omega)).mono ?_
        rintro e w4 ⟨V, rfl, V0, V1, r4, g4⟩
        have q4 := grown_trans q3 g4
        have z4 := q4.size
        obtain ⟨cs, hcs, oo, oi⟩ := (unhide HO3).kept g4 hrl
        have oo' := oo
        have OI := hide oi
        have OO := hide oo
        have OX := hide (own_kept (unhide OX3) g4 hrl)
        clear HO3 q3 r3 g4 oi oo OX3
        go_wp2_with (at_builtin; refine app_wp _ rfl _ _ _ rfl w.heap.size 62 i0 _ 3 40 Tryz.underlying34 hi hz0 hz1 hz2 rfl (by omega) _ L.length _ rfl (oo'.alloc _) _ 1 [.slice va vl vq, .int .i64 9999, .int .i64 V] rfl (lies_new rfl rfl hmx) (by simp [Value.oneCell']) (by unfold maxLen; omega) (by omega) (by simp; omega) ?_; intro vn w9 on gn an)
        have ge := own_ge oo'
        have hb9 : Below w4.heap.size w4 (w4.alloc (.cells #[.slice va vl vq, .int .i64 9999, .int .i64 V] 62)) := (Below.refl _ _).alloc (Nat.le_refl _) _
        have M9 := hide (ent_app (x := (x, 9999, V)) hcs (unhide OO) (unhide OI) (unhide OX) hb9 rfl rfl on gn)
        have R := hide (show w.grownBy w9 (some rb) from grown_other (grown_trans q4 (grown_below hb9)) gn ge)
        have R1 := hide (show Rd w9 rb (p3 + 6) from (r4.below hb9).grown gn (fun k hk => by have := ge k hk; omega))
        obtain ⟨na, nl, nq, rfl⟩ : ∃ a l q, vn = .slice a l q := by obtain ⟨-, a, q, e, -⟩ := lies_of_own on; exact ⟨a, _, q, e⟩
        clear on gn ge q4 r4 an OO OI OX oo' hb9
        go_wp2_with fail
        go_roundw
        case rel => exact ⟨k - 1, L ++ [(x, 9999, V)], p3 + 6, by go_num, ⟨_, _, _, rfl⟩, ⟨by simp; omega, by simp; omega⟩, by simp; omega, hide (ent_snocN (unhide HM) (unhide HX)), M9, unhide R1, unhide R⟩
        case measure => simp [intOf]; omega
      have n3 : decide (9999 < t) = false := decide_eq_false h3
      go_wp2_with fail
      refine (labels_nb rb (p' + 1) _ r2 (by omega)).mono ?_
      rintro e w3 ⟨x, v, rfl, hx0, hx3, hxo, ox, ⟨p3, hp3, r3⟩, g3⟩
      have HO3 := hide ((unhide HO2).kept g3 hrl)
      have q3 := grown_trans q2 g3
      have OX3 := hide (own_mono ox hsz2)
      have HX := hide (show entN (x, t, 0) from ⟨hx3, hxo⟩)
      obtain ⟨va, vl, vq, rfl⟩ : ∃ a l q, v = .slice a l q := by obtain ⟨-, a, q, e, -⟩ := lies_of_own ox; exact ⟨a, _, q, e⟩
      clear ox hxo HO2 q2 r2 g3 hx0
      go_wp2_with fail
      refine (value_any rb p3 _ r3 (by omega)).mono ?_
      rintro e w4 ⟨V, rfl, V0, V1, r4, g4⟩
      have q4 := grown_trans q3 g4
      have z4 := q4.size
      obtain ⟨cs, hcs, oo, oi⟩ := (unhide HO3).kept g4 hrl
      have oo' := oo
      have OI := hide oi
      have OO := hide oo
      have OX := hide (own_kept (unhide OX3) g4 hrl)
      clear HO3 q3 r3 g4 oi oo OX3
      go_wp2_with (at_builtin; refine app_wp _ rfl _ _ _ rfl w.heap.size 62 i0 _ 3 40 Tryz.underlying34 hi hz0 hz1 hz2 rfl (by omega) _ L.length _ rfl (oo'.alloc _) _ 1 [.slice va vl vq, .int .i64 t, .int .i64 V] rfl (lies_new rfl rfl hmx) (by simp [Value.oneCell']) (by unfold maxLen; omega) (by omega) (by simp; omega) ?_; intro vn w9 on gn an)
      have ge := own_ge oo'
      have hb9 : Below w4.heap.size w4 (w4.alloc (.cells #[.slice va vl vq, .int .i64 t, .int .i64 V] 62)) := (Below.refl _ _).alloc (Nat.le_refl _) _
      have M9 := hide (ent_app (x := (x, t, V)) hcs (unhide OO) (unhide OI) (unhide OX) hb9 rfl rfl on gn)
      have R := hide (show w.grownBy w9 (some rb) from grown_other (grown_trans q4 (grown_below hb9)) gn ge)
      have R1 := hide (show Rd w9 rb (p3 + 6) from (r4.below hb9).grown gn (fun k hk => by have := ge k hk; omega))
      obtain ⟨na, nl, nq, rfl⟩ : ∃ a l q, vn = .slice a l q := by obtain ⟨-, a, q, e, -⟩ := lies_of_own on; exact ⟨a, _, q, e⟩
      clear on gn ge q4 r4 an OO OI OX oo' hb9
      go_wp2_with fail
      go_roundw
      case rel => exact ⟨k - 1, L ++ [(x, t, V)], p3 + 6, by go_num, ⟨_, _, _, rfl⟩, ⟨by simp; omega, by simp; omega⟩, by simp; omega, hide (ent_snocN (unhide HM) (unhide HX)), M9, unhide R1, unhide R⟩
      case measure => simp [intOf]; omega
    · have hk1 : decide ((0 : Int) < (k : Int)) = false := by simp; omega
      go_wp2_with fail
      go_ret
      exact ⟨L, _, rfl, ⟨by omega, by omega⟩, unhide HM, unhide HO, ⟨p', by omega, hrd⟩, hg⟩
end Go.Proofs.YtlboekimnhgfdaaGreat.Draw
