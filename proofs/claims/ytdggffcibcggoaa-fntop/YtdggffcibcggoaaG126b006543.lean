/- My own texts of one claim, laid together by program: DrawMat2, DrawAsk, WinMath2, AskMath2. -/
import Derived.Test.YtdggffcibcggoaaG7be278ba00
import Derived.Test.YtdggffcibcggoaaGc277121915
import Derived.Test.YtdggffcibcggoaaGe8a3ed009e
import Derived.Test.YtdggffcibcggoaaGab3538f24a
import Derived.Test.YtdggffcibcggoaaG868ab3d5d1
/- Matches are drawn, also such as are none. -/
namespace Go.Proofs.Ytdggffcibcggoaa.Draw
open Go.RowKit Rw Mat
set_option linter.unusedVariables false
attribute [local go_sem ↓] Go.wp_at_zero Go.wp_at_succ
theorem size3 : (⟨#[97, 112, 112]⟩ : ByteArray).size ≤ 100 := by decide
theorem size0 : ByteArray.empty.size ≤ 100 := by decide
theorem one0 : (0 : Int) ≤ 1 := by decide
theorem one5 : (1 : Int) ≤ 5 := by decide
def slenM : Value → Nat
  | .slice _ n _ => n
  | _ => 0
theorem small_snocM {L : List Mat.E} {x : Mat.E} (h : ∀ y ∈ L, smallM y) (hx : smallM x) : ∀ y ∈ L ++ [x], smallM y := by
  intro y hy
  rw [List.mem_append, List.mem_singleton] at hy
  rcases hy with hy | rfl
  · exact h y hy
  · exact hx
set_option maxRecDepth 100000 in
set_option maxHeartbeats 4000000 in
theorem anymatches_any (rb p : Nat) (w : World) (h : Rd w rb p) (hp : p ≤ 700000) :
    Calls Try.prog 88 #[.pointer (some ⟨rb, 0, none⟩)] w fun e w' => ∃ (zs : List Mat.E) (v : Value), e = .returned v ∧ zs.length ≤ 20 ∧ (∀ x ∈ zs, smallM x) ∧ w'.ownsRow w.heap.size 119 3 v zs.length (Mat.flat zs) ∧ (∃ p', p' ≤ p + 100 ∧ Rd w' rb p') ∧ w.grownBy w' (some rb) := by
  obtain ⟨i0, hi, hz0, hz1, hz2⟩ := info_parts Mat.info_e
  have hrl := h.lt
  have hmx : 1 ≤ maxLen := by unfold maxLen; omega
  have HR := hide h
  clear h
  go_enter Try.func88, Try.ntmps88
  go_wp2_with fail
  refine (matches_any rb p _ (unhide HR) (by omega)).mono ?_
  rintro e w1 ⟨L, v, rfl, hL, hsm, o1, ⟨p1, hp1, r1⟩, q1⟩
  have HM := hide hsm
  clear HR hsm
  go_wp2_with fail
  refine (pick_any rb p1 _ _ r1 (by omega) (by omega)).mono ?_
  rintro e w5 ⟨c, rfl, c0, -, -, r5, g5⟩
  have o5 := own_kept o1 g5 hrl
  have q5 := grown_trans q1 g5
  have hsz5 := q5.size
  clear o1 q1 r1 g5
  rcases (show c = 0 ∨ c = 1 ∨ c = 2 ∨ (c ≠ 0 ∧ c ≠ 1 ∧ c ≠ 2) from by omega) with rfl | rfl | rfl | ⟨e0, e1, e2⟩
  · go_wp2_with fail
    have hone := one_new rb (p1 + 1) [0, 5] _ r5 (by omega) (by simp) (by simp)
    simp only [List.map_cons, List.map_nil, List.length_cons, List.length_nil, Nat.zero_add, Nat.reduceAdd] at hone
    refine hone.mono ?_
    clear hone
    rintro e w6 ⟨d, rfl, hd, r6, g6⟩
    have D0 := hide (show 0 ≤ d ∧ d ≤ 5 by
      simp only [List.mem_cons, List.not_mem_nil, or_false] at hd
      omega)
    have o6 := own_kept o5 g6 hrl
    have q6 := grown_trans q5 g6
    have hsz6 := q6.size
    clear hd o5 q5 r5 g6 hsz5
    go_wp2_with (at_builtin; refine app_wp _ rfl _ _ _ rfl w.heap.size 119 i0 _ 3 40 Try.underlying52 hi hz0 hz1 hz2 rfl (by omega) _ L.length _ rfl (o6.alloc _) _ 1 [.int .i64 d, .string ⟨#[97, 112, 112]⟩, .string ByteArray.empty] rfl (lies_new rfl rfl hmx) (by simp [Value.oneCell']) (by unfold maxLen; omega) (by omega) (by simp; omega) ?_; intro vn w9 on gn an)
    have ge := own_ge o6
    have R := hide (show w.grownBy w9 (some rb) from grown_other (grown_trans q6 (grown_below ((Below.refl _ _).alloc (Nat.le_refl _) _))) gn ge)
    have R1 := hide (show Rd w9 rb (p1 + 1 + 1) from (r6.below ((Below.refl _ _).alloc (Nat.le_refl _) _)).grown gn (fun k hk => by have := ge k hk; omega))
    have R2 := hide (show w9.ownsRow w.heap.size 119 3 vn (L ++ [((d, ⟨#[97, 112, 112]⟩, ByteArray.empty) : Mat.E)]).length (Mat.flat (L ++ [((d, ⟨#[97, 112, 112]⟩, ByteArray.empty) : Mat.E)])) by rw [List.length_append, flat_snocM]; exact on)
    clear on gn ge o6 q6 r6 an
    go_wp2_with fail
    go_ret
    exact ⟨_, _, rfl, by simp; omega, small_snocM (x := ((d, ⟨#[97, 112, 112]⟩, ByteArray.empty) : Mat.E)) (unhide HM) ⟨(unhide D0).1, (unhide D0).2, size3, size0⟩, unhide R2, ⟨_, by omega, unhide R1⟩, unhide R⟩
  · go_wp2_with fail
    have hof := of_new rb (p1 + 1) [⟨#[]⟩, ⟨#[65]⟩] _ r5 (by omega) (by simp) (by simp)
    simp only [List.map_cons, List.map_nil, List.length_cons, List.length_nil, Nat.zero_add, Nat.reduceAdd] at hof
    refine hof.mono ?_
    clear hof
    rintro e w6 ⟨A, rfl, hA, r6, g6⟩
    have A0 := hide (show A.size ≤ 100 by
      simp only [List.mem_cons, List.not_mem_nil, or_false] at hA
      rcases hA with rfl | rfl <;> decide)
    have o6 := own_kept o5 g6 hrl
    have q6 := grown_trans q5 g6
    have hsz6 := q6.size
    clear hA o5 q5 r5 g6 hsz5
    go_wp2_with (at_builtin; refine app_wp _ rfl _ _ _ rfl w.heap.size 119 i0 _ 3 40 Try.underlying52 hi hz0 hz1 hz2 rfl (by omega) _ L.length _ rfl (o6.alloc _) _ 1 [.int .i64 1, .string A, .string ByteArray.empty] rfl (lies_new rfl rfl hmx) (by simp [Value.oneCell']) (by unfold maxLen; omega) (by omega) (by simp; omega) ?_; intro vn w9 on gn an)
    have ge := own_ge o6
    have R := hide (show w.grownBy w9 (some rb) from grown_other (grown_trans q6 (grown_below ((Below.refl _ _).alloc (Nat.le_refl _) _))) gn ge)
    have R1 := hide (show Rd w9 rb (p1 + 1 + 1) from (r6.below ((Below.refl _ _).alloc (Nat.le_refl _) _)).grown gn (fun k hk => by have := ge k hk; omega))
    have R2 := hide (show w9.ownsRow w.heap.size 119 3 vn (L ++ [(1, A, ByteArray.empty)]).length (Mat.flat (L ++ [(1, A, ByteArray.empty)])) by rw [List.length_append, flat_snocM]; exact on)
    clear on gn ge o6 q6 r6 an
    go_wp2_with fail
    go_ret
    exact ⟨_, _, rfl, by simp; omega, small_snocM (x := ((1, A, ByteArray.empty) : Mat.E)) (unhide HM) ⟨one0, one5, unhide A0, size0⟩, unhide R2, ⟨_, by omega, unhide R1⟩, unhide R⟩
  · go_wp2_with fail
    go_loopw [3] (fun ov wr => ∃ (M : List Mat.E) (p2 : Nat) (am : Option Addr) (cm : Nat), ov = .slice am M.length cm ∧ M.length ≤ 10 ∧ p2 ≤ p + 20 + M.length ∧ (∀ x ∈ M, smallM x) ∧ wr.ownsRow w.heap.size 119 3 ov M.length (Mat.flat M) ∧ Rd wr rb p2 ∧ w.grownBy wr (some rb)) (fun ov _ => 100 - slenM ov)
    case atStart => obtain ⟨-, a5, c5, hv5, -⟩ := lies_of_own o5; exact ⟨L, p1 + 1, a5, c5, hv5, by omega, by omega, unhide HM, o5, r5, q5⟩
    case round =>
      clear o5 r5 q5 hsz5 HM
      obtain ⟨M, p2, am, cm, rfl, hM, hp2, hsm, hown, hrd, hg⟩ := hrel
      have HM := hide hsm
      clear hsm
      go_wp2_with fail
      refine (pick_any rb p2 _ _ hrd (by omega) (by omega)).mono ?_
      rintro e w6 ⟨d, rfl, d0, d1, -, r6, g6⟩
      have d2 : d < 2 := d1 (by omega)
      have o6 := own_kept hown g6 hrl
      have q6 := grown_trans hg g6
      have hsz6 := q6.size
      clear hown hg hrd g6 d1
      by_cases hlt : (M.length : Int) < 4 + d
      · have hM2 : M.length ≤ 5 := by omega
        go_wp2_with (at_builtin; refine app_wp _ rfl _ _ _ rfl w.heap.size 119 i0 _ 3 40 Try.underlying52 hi hz0 hz1 hz2 rfl (by omega) _ M.length _ rfl (o6.alloc _) _ 1 [.int .i64 2, .string ⟨#[97, 112, 112]⟩, .string ⟨#[113]⟩] rfl (lies_new rfl rfl hmx) (by simp [Value.oneCell']) (by unfold maxLen; omega) (by omega) (by simp; omega) ?_; intro vn w9 on gn an)
        have ge := own_ge o6
        have R : w.grownBy w9 (some rb) := grown_other (grown_trans q6 (grown_below ((Below.refl _ _).alloc (Nat.le_refl _) _))) gn ge
        have R1 : Rd w9 rb (p2 + 1) := (r6.below ((Below.refl _ _).alloc (Nat.le_refl _) _)).grown gn (fun k hk => by have := ge k hk; omega)
        have R2 := hide (show w9.ownsRow w.heap.size 119 3 vn (M ++ [((2, ⟨#[97, 112, 112]⟩, ⟨#[113]⟩) : Mat.E)]).length (Mat.flat (M ++ [((2, ⟨#[97, 112, 112]⟩, ⟨#[113]⟩) : Mat.E)])) by rw [List.length_append, flat_snocM]; exact on)
        obtain ⟨an', cn, hvn⟩ : ∃ a c, vn = .slice a (M.length + 1) c := by obtain ⟨-, a, c, e, -⟩ := lies_of_own on; exact ⟨a, c, e⟩
        have HS := hide (show slenM vn = M.length + 1 by rw [hvn]; rfl)
        have HV := hide hvn
        clear on gn ge o6 q6 r6 an hvn
        go_wp2_with fail
        go_roundw
        case rel => exact ⟨M ++ [((2, ⟨#[97, 112, 112]⟩, ⟨#[113]⟩) : Mat.E)], p2 + 1, an', cn, by rw [unhide HV]; simp, by simp; omega, by simp; omega, small_snocM (unhide HM) ⟨by decide, by decide, by decide, by decide⟩, unhide R2, R1, R⟩
        case measure => show 100 - slenM vn < 100 - M.length; rw [unhide HS]; omega
      · have hlf : decide ((M.length : Int) < 4 + d) = false := by simpa using hlt
        go_wp2_with fail
        go_ret
        exact ⟨M, _, rfl, by omega, unhide HM, o6, ⟨p2 + 1, by omega, r6⟩, q6⟩
  · have f0 : (c == 0) = false := by simpa using e0
    have f1 : (c == 1) = false := by simpa using e1
    have f2 : (c == 2) = false := by simpa using e2
    go_wp2_with fail
    go_ret
    exact ⟨L, _, rfl, by omega, unhide HM, o5, ⟨p1 + 1, by omega, r5⟩, q5⟩
end Go.Proofs.Ytdggffcibcggoaa.Draw

/- Rows, matches and times are drawn. -/
namespace Go.Proofs.Ytdggffcibcggoaa.Draw
open Go.RowKit Rw
set_option linter.unusedVariables false
attribute [local go_sem ↓] Go.wp_at_zero Go.wp_at_succ
def MG (ms : List Mat.E) : Prop := ms.length ≤ 20 ∧ ∀ x ∈ ms, Mat.good x
/-- what DrawRowsAsk and DrawRowsDrop answer -/
def Asked (w : World) (e : Ending) (w' : World) : Prop :=
  ∃ (L : List Row.E) (ms : List Mat.E) (v u : Value) (A B : Int), e = .returned (.tuple #[v, u, .int .i64 A, .int .i64 B]) ∧ RG L ∧ Row.Is w' v L ∧ MG ms ∧ Mat.Is w' u ms ∧ (-1 ≤ A ∧ A ≤ 510 ∧ -2 ≤ B ∧ B ≤ 11000) ∧ Below w.heap.size w w'
set_option maxRecDepth 100000 in
set_option maxHeartbeats 4000000 in
theorem draw_ask {a : Option Addr} {len cap : Nat} {zs : List Int} (w0 w : World) (h : IsRow .u8 w0 a len cap zs) (hB : Below w0.heap.size w0 w) :
    Calls Try.prog 34 #[.slice a len cap] w (Asked w) := by
  have HO := hide (open_any w0 w h hB)
  clear h hB
  go_enter Try.func34, Try.ntmps34
  go_wp2_with fail
  refine (unhide HO).mono ?_
  rintro e w1 ⟨rfl, r1, b1⟩
  have hlt := r1.lt
  have hs1 := b1.size
  go_wp2_with fail
  refine (anyrows_any w.heap.size 0 0 _ r1 (by omega) (by omega) (by omega)).mono ?_
  rintro e w2 ⟨L, v, rfl, hRG, hF, ⟨p2, hp2, r2⟩, q2⟩
  have HRG := hide hRG
  have HF := hide hF
  obtain ⟨va, vn, vq, rfl⟩ : ∃ a n q, v = .slice a n q := by obtain ⟨cs, -, hL, -⟩ := hF; obtain ⟨-, a, q, e, -⟩ := hL; exact ⟨a, _, q, e⟩
  have hs2 := q2.size
  clear hRG hF r1 HO
  go_wp2_with fail
  refine (anymatches_any w.heap.size p2 _ r2 (by omega)).mono ?_
  rintro e w3 ⟨ms, u, rfl, hm20, hsm, om, ⟨p3, hp3, r3⟩, q3⟩
  have HF3 := hide ((unhide HF).grown q3 hlt)
  have HMG := hide (show MG ms from ⟨hm20, fun x hx => good_smallM (hsm x hx)⟩)
  have HM3 := hide om
  obtain ⟨ua, uq, rfl⟩ : ∃ a q, u = .slice a ms.length q := by obtain ⟨-, a, q, e, -⟩ := lies_of_own om; exact ⟨a, q, e⟩
  have q23 := grown_trans q2 q3
  clear om hsm r2 HF q2 hm20
  go_wp2_with fail
  refine (span_any w.heap.size p3 _ r3 (by omega)).mono ?_
  rintro e w4 ⟨A, B, rfl, hA0, hA1, hB0, hB1, r4, q4⟩
  have HF4 := hide ((unhide HF3).grown q4 hlt)
  have HM4 := hide (own_kept (unhide HM3) q4 (by omega))
  have b4 : Below w.heap.size w w4 := b1.trans (below_of_grown (grown_trans q23 q4) (Nat.le_refl _) hs1)
  clear HF3 HM3 r3 q3 q23 q4 r4
  go_wp2_with fail
  refine bodyPost_ret (v := .tuple #[.slice va vn vq, .slice ua ms.length uq, .int .i64 A, .int .i64 B]) (by simp [results, Try.results34, go_sem]) rfl ?_
  exact ⟨L, ms, _, _, A, B, rfl, unhide HRG, (unhide HF4).is, unhide HMG, Mat.is_of_own (unhide HM4), ⟨hA0, hA1, hB0, hB1⟩, b4⟩
end Go.Proofs.Ytdggffcibcggoaa.Draw

/- By how much samples rose, in two parts. No condition. -/
namespace Go.Proofs.Ytdggffcibcggoaa.SampMath
theorem ok_sub {zs ys : List S} (h : ok zs = true) (hs : ys.Sublist zs) : ok ys = true := by
  rw [Samp.ok_iff] at h ⊢
  exact ⟨fun z hz => h.1 z (hs.subset hz), h.2.sublist hs⟩
theorem at_take {zs : List S} {k i : Nat} (h : i < k) : at' (zs.take k) i = at' zs i := by
  simp [at', List.getD, h]
theorem at_drop (zs : List S) (k i : Nat) : at' (zs.drop k) i = at' zs (k + i) := by
  simp [at', List.getD, List.getElem?_drop]
theorem up_take {zs : List S} {k i : Nat} (h : i < k) : up (zs.take k) i = up zs i := by
  unfold up; rw [at_take h, at_take (by omega)]
theorem upTo_take {zs : List S} {k : Nat} : ∀ j, j ≤ k → upTo (zs.take k) j = upTo zs j := by
  intro j
  induction j with
  | zero => intro _; rfl
  | succ j ih =>
    intro h
    by_cases h0 : j = 0
    · subst h0; rfl
    · rw [upTo_succ _ _ (by omega), upTo_succ _ _ (by omega), ih (by omega), up_take (by omega)]
theorem up_drop (zs : List S) (m i : Nat) (h : 0 < i) : up (zs.drop m) i = up zs (m + i) := by
  unfold up; rw [at_drop, at_drop, show m + (i - 1) = m + i - 1 by omega]
theorem upTo_drop (zs : List S) (m : Nat) : ∀ j, upTo (zs.drop m) (j + 1) = upTo zs (m + j + 1) - upTo zs (m + 1) := by
  intro j
  induction j with
  | zero => rw [upTo_one]; simp
  | succ j ih => rw [upTo_succ _ _ (by omega), ih, up_drop _ _ _ (by omega), show m + (j + 1) + 1 = (m + j + 1) + 1 by omega, upTo_succ zs (m + j + 1) (by omega), show m + (j + 1) = m + j + 1 by omega]; omega
theorem rises_ok {zs : List S} (h : ok zs = true) : rises zs = upTo zs zs.length := by unfold rises; rw [h]; rfl
theorem rises_parts {zs : List S} (h : ok zs = true) {k : Nat} (h1 : 1 ≤ k) (h2 : k < zs.length) : rises zs = rises (zs.take k) + rises (zs.drop (k - 1)) := by
  rw [rises_ok h, rises_ok (ok_sub h (List.take_sublist _ _)), rises_ok (ok_sub h (List.drop_sublist _ _))]
  rw [List.length_take, List.length_drop, Nat.min_eq_left (by omega), upTo_take k (Nat.le_refl _)]
  obtain ⟨j, hj⟩ : ∃ j, zs.length - (k - 1) = j + 1 := ⟨zs.length - (k - 1) - 1, by omega⟩
  rw [hj, upTo_drop, show k - 1 + j + 1 = zs.length by omega, show k - 1 + 1 = k by omega]
  omega
theorem rises_range {zs : List S} (h : ok zs = true) : 0 ≤ rises zs ∧ rises zs ≤ 21474836470000 := by
  rw [rises_ok h]
  have := upTo_range h zs.length (Nat.le_refl _)
  have := ok_len h
  omega
theorem upTo_ends {zs : List S} (h : ok zs = true) : ∀ j, j < zs.length → (at' zs j).2 - (at' zs 0).2 ≤ upTo zs (j + 1) := by
  intro j
  induction j with
  | zero => intro _; rw [upTo_one]; omega
  | succ j ih =>
    intro hj
    have a := ih (by omega)
    have b := ok_range h hj
    have c := ok_range h (k := j) (by omega)
    rw [upTo_succ zs (j + 1) (by omega)]
    unfold up
    rw [Nat.add_sub_cancel]
    split <;> omega
theorem rises_ends {zs : List S} (h : ok zs = true) (h0 : 0 < zs.length) : (at' zs (zs.length - 1)).2 - (at' zs 0).2 ≤ rises zs := by
  rw [rises_ok h]
  have := upTo_ends h (zs.length - 1) (by omega)
  rwa [show zs.length - 1 + 1 = zs.length by omega] at this
end Go.Proofs.Ytdggffcibcggoaa.SampMath

/- What is asked for twice is asked for once. -/
namespace Go.Proofs.Ytdggffcibcggoaa.Row
open Go.RowKit Rw
set_option linter.unusedVariables false
theorem outL_cons (g : E → List Sam.E) (x : E) (L : List E) : outL g (x :: L) = (if g x = [] then [] else [(x.1, g x)]) ++ outL g L := by unfold outL; rw [List.flatMap_cons]
theorem outL_in {g : E → List Sam.E} {L : List E} {y : E} (h : y ∈ outL g L) : ∃ x ∈ L, y = (x.1, g x) ∧ g x ≠ [] := by
  unfold outL at h
  obtain ⟨x, hx, hy⟩ := List.mem_flatMap.1 h
  split at hy
  · cases hy
  · rename_i hne; exact ⟨x, hx, by simpa using hy, hne⟩
theorem outL_fine {g : E → List Sam.E} : ∀ {L : List E}, Fine L → (∀ x ∈ L, SampMath.ok (g x) = true) → Fine (outL g L)
  | [], h, _ => by unfold outL; exact fine_nil
  | x :: L, h, hg => by
    have ih := outL_fine (fine_tail h) (fun y hy => hg y (List.mem_cons_of_mem _ hy))
    rw [outL_cons]
    split
    · exact ih
    · rename_i hne
      refine ⟨fun y hy => ?_, fun y hy => ?_, List.pairwise_cons.2 ⟨fun y hy => ?_, ih.up⟩⟩
      · rcases List.mem_cons.1 hy with rfl | hy
        · exact h.lab x (List.mem_cons_self ..)
        · exact ih.lab y hy
      · rcases List.mem_cons.1 hy with rfl | hy
        · exact ⟨hg x (List.mem_cons_self ..), hne⟩
        · exact ih.sam y hy
      · obtain ⟨z, hz, e, -⟩ := outL_in (show y ∈ outL g L from hy)
        rw [e]
        exact (List.pairwise_cons.1 h.up).1 z hz
theorem outL_okay {g : E → List Sam.E} {L : List E} (h : ok L = true) (hg : ∀ x ∈ L, SampMath.ok (g x) = true ∧ (g x).length ≤ 1000) : ok (outL g L) = true := by
  rw [ok_of (outL_fine (fine_ok h) (fun x hx => (hg x hx).1))]
  unfold sized
  rw [Bool.and_eq_true]
  refine ⟨decide_eq_true (by have := outL_len g L; have := ok_len h; omega), List.all_eq_true.2 fun y hy => decide_eq_true ?_⟩
  obtain ⟨x, hx, e, -⟩ := outL_in hy
  rw [e]
  exact (hg x hx).2
theorem outL_same {g g' : E → List Sam.E} : ∀ {L : List E}, (∀ x ∈ L, g' x = g x) → outL g' L = outL g L
  | [], _ => rfl
  | x :: L, h => by rw [outL_cons, outL_cons, h x (List.mem_cons_self ..), outL_same (fun y hy => h y (List.mem_cons_of_mem _ hy))]
theorem outL_id {g : E → List Sam.E} : ∀ {L : List E}, (∀ x ∈ L, g x = x.2 ∧ x.2 ≠ []) → outL g L = L
  | [], _ => rfl
  | x :: L, h => by
    have hx := h x (List.mem_cons_self ..)
    rw [outL_cons, hx.1, if_neg hx.2, outL_id (fun y hy => h y (List.mem_cons_of_mem _ hy))]; rfl
theorem row_bounds {L : List E} (h : ok L = true) {x : E} (hx : x ∈ L) : x.2.length ≤ 1000 := by
  obtain ⟨i, hi, rfl⟩ := List.getElem_of_mem hx
  have hst := step_is (ok_at h hi)
  rw [at_get L i hi] at hst
  exact hst.2.2.1
theorem cut_ok {x : E} (f t : Int) (h : SampMath.ok x.2 = true) : SampMath.ok (Samp.cutL x.2 f t) = true := SampMath.ok_sub h List.filter_sublist
theorem ask_ok {ms : List Mat.E} (f t : Int) {L : List E} (h : ok L = true) : ok (ask ms f t L) = true := by
  unfold ask
  rw [if_pos h]
  refine outL_okay h fun x hx => ?_
  unfold askG
  split
  · exact ⟨cut_ok f t ((fine_ok h).sam x hx).1, Nat.le_trans (List.length_filter_le _ _) (row_bounds h hx)⟩
  · exact ⟨rfl, by simp⟩
theorem cut_cut (zs : List Sam.E) (f t : Int) : Samp.cutL (Samp.cutL zs f t) f t = Samp.cutL zs f t := by
  unfold Samp.cutL
  rw [List.filter_filter]
  congr 1
  funext x
  simp
theorem ask_in {ms : List Mat.E} {f t : Int} {L : List E} (h : ok L = true) {y : E} (hy : y ∈ ask ms f t L) : Mat.mlet ms y.1 = true ∧ y.2 ≠ [] ∧ Samp.cutL y.2 f t = y.2 := by
  unfold ask at hy
  rw [if_pos h] at hy
  obtain ⟨x, hx, rfl, hne⟩ := outL_in hy
  unfold askG at hne
  split at hne
  · rename_i hm
    have e : askG ms f t x = Samp.cutL x.2 f t := by unfold askG; rw [if_pos hm]
    refine ⟨hm, ?_, ?_⟩
    · show askG ms f t x ≠ []
      rw [e]; exact hne
    · show Samp.cutL (askG ms f t x) f t = askG ms f t x
      rw [e, cut_cut]
  · exact absurd rfl hne
theorem ask_ask {ms : List Mat.E} (f t : Int) {L : List E} (h : ok L = true) : ask ms f t (ask ms f t L) = ask ms f t L := by
  have e : ask ms f t (ask ms f t L) = outL (askG ms f t) (ask ms f t L) := if_pos (ask_ok f t h)
  rw [e]
  refine outL_id fun x hx => ?_
  have := ask_in h hx
  refine ⟨?_, this.2.1⟩
  unfold askG
  rw [if_pos this.1, this.2.2]
theorem inR_all {zs : List Sam.E} (h : SampMath.ok zs = true) : Samp.cutL zs 0 10000 = zs := by
  unfold Samp.cutL
  rw [List.filter_eq_self]
  intro x hx
  obtain ⟨i, hi, rfl⟩ := List.getElem_of_mem hx
  have := SampMath.ok_range h hi
  have e : SampMath.at' zs i = zs[i] := by simp [SampMath.at', List.getD, hi]
  rw [e] at this
  unfold Samp.inT
  simp
  omega
theorem ask_all {L : List E} (h : ok L = true) : ask [] 0 10000 L = L := by
  unfold ask
  rw [if_pos h]
  have hf := fine_ok h
  refine outL_id fun x hx => ⟨?_, (hf.sam x hx).2⟩
  unfold askG
  have hm : Mat.mlet [] x.1 = true := by unfold Mat.mlet; rw [hf.lab x hx]; rfl
  rw [if_pos hm, inR_all (hf.sam x hx).1]
theorem cut_ends {y : E} {f t : Int} (h : Samp.cutL y.2 f t = y.2) {i : Nat} (hi : i < y.2.length) : f ≤ (SampMath.at' y.2 i).1 ∧ (SampMath.at' y.2 i).1 < t := by
  have e : SampMath.at' y.2 i = y.2[i] := by simp [SampMath.at', List.getD, hi]
  have hm : y.2[i] ∈ Samp.cutL y.2 f t := by rw [h]; exact List.getElem_mem hi
  have := (List.mem_filter.1 hm).2
  unfold Samp.inT at this
  rw [e]
  simpa using this
end Go.Proofs.Ytdggffcibcggoaa.Row
