/- My own texts of one claim, laid together by program: CutText, LabPut2, ListMath, Ints. -/
import Derived.Test.YtkmoekbicbjdmaaDoorG5c89d1a104
import Derived.Lib.Split
import Derived.Test.YtkmoekbicbjdmaaDoorG859ee0a49f
import Derived.Test.YtkmoekbicbjdmaaDoorG228d3bb8bd
/- Texts cut at a byte, as plain mathematics: what the library's Split and Cut come to, what is put together with a sign between is cut there again. No condition. -/
namespace Go.Proofs.YtkmoekbicbjdmaaDoor.CutText
open PutMath
set_option linter.unusedVariables false
/-- what stands ahead, put to the first piece -/
def pre (p : List UInt8) : List (List UInt8) → List (List UInt8)
  | [] => [p]
  | h :: t => (p ++ h) :: t
/-- a text cut at each byte b -/
def cutL (b : UInt8) : List UInt8 → List (List UInt8)
  | [] => [[]]
  | x :: l => if x = b then [] :: cutL b l else pre [x] (cutL b l)
theorem pre_ne (p : List UInt8) (L : List (List UInt8)) : pre p L ≠ [] := by cases L <;> simp [pre]
theorem cutL_ne (b : UInt8) (l : List UInt8) : cutL b l ≠ [] := by
  cases l with
  | nil => simp [cutL]
  | cons x l => unfold cutL; split; simp; exact pre_ne _ _
theorem pre_nil {L : List (List UInt8)} (h : L ≠ []) : pre [] L = L := by cases L with | nil => exact absurd rfl h | cons x L => rfl
theorem pre_pre (p q : List UInt8) (L : List (List UInt8)) : pre p (pre q L) = pre (p ++ q) L := by cases L <;> simp [pre]
theorem cutL_eq (b : UInt8) (l : List UInt8) : cutL b (b :: l) = [] :: cutL b l := by rw [cutL, if_pos rfl]
theorem cutL_ne' {b x : UInt8} (h : x ≠ b) (l : List UInt8) : cutL b (x :: l) = pre [x] (cutL b l) := by rw [cutL, if_neg h]
theorem cutL_app {b : UInt8} : ∀ {p : List UInt8} (r : List UInt8), b ∉ p → cutL b (p ++ r) = pre p (cutL b r)
  | [], r, _ => (pre_nil (cutL_ne b r)).symm
  | x :: p, r, h => by
    have h1 : x ≠ b := fun e => h (by rw [e]; exact List.mem_cons_self ..)
    have h2 : b ∉ p := fun e => h (List.mem_cons_of_mem _ e)
    rw [List.cons_append, cutL_ne' h1, cutL_app r h2, pre_pre]; rfl
theorem cutL_hit {b : UInt8} {p : List UInt8} (r : List UInt8) (h : b ∉ p) : cutL b (p ++ b :: r) = p :: cutL b r := by
  rw [cutL_app _ h, cutL_eq]; simp [pre]
theorem cutL_miss {b : UInt8} {p : List UInt8} (h : b ∉ p) : cutL b p = [p] := by
  have := cutL_app (b := b) (p := p) [] h
  rw [List.append_nil] at this
  rw [this]; simp [cutL, pre]
theorem cutL_len (b : UInt8) : ∀ l : List UInt8, (cutL b l).length ≤ l.length + 1
  | [] => by simp [cutL]
  | x :: l => by
    have := cutL_len b l
    unfold cutL
    split
    · simp; omega
    · cases h : cutL b l with
      | nil => simp [pre]
      | cons y L => rw [h] at this; simp [pre] at this ⊢; omega
/-- each piece is no longer than the text -/
theorem cutL_mem (b : UInt8) : ∀ (l : List UInt8), ∀ p ∈ cutL b l, p.length ≤ l.length
  | [], p, h => by simp [cutL] at h; simp [h]
  | x :: l, p, h => by
    have ih := cutL_mem b l
    unfold cutL at h
    split at h
    · rcases List.mem_cons.1 h with rfl | h
      · simp
      · have := ih p h; simp; omega
    · cases hL : cutL b l with
      | nil => rw [hL] at h; simp [pre] at h; simp [h]
      | cons y L =>
        rw [hL] at h ih
        simp only [pre, List.mem_cons] at h
        rcases h with rfl | h
        · have := ih y (List.mem_cons_self ..); simp; omega
        · have := ih p (List.mem_cons_of_mem _ h); simp; omega
/-- what is put together with a sign between is cut there again -/
theorem cutL_join {b : UInt8} : ∀ {L : List (List UInt8)}, L ≠ [] → (∀ p ∈ L, b ∉ p) → cutL b (Lib.join L [b]) = L
  | [], h, _ => absurd rfl h
  | [p], _, h => by rw [Lib.join_one]; exact cutL_miss (h p (List.mem_cons_self ..))
  | p :: q :: L, _, h => by
    have e : Lib.join (p :: q :: L) [b] = p ++ b :: Lib.join (q :: L) [b] := by simp [Lib.join_cons, Lib.joinTail]
    rw [e, cutL_hit _ (h p (List.mem_cons_self ..)), cutL_join (by simp) (fun z hz => h z (List.mem_cons_of_mem _ hz))]
theorem cutL_joinB {ps : List ByteArray} (h0 : ps ≠ []) (h : ∀ p ∈ ps, (44 : UInt8) ∉ p.data.toList) : cutL 44 (joinB ps) = ps.map (·.data.toList) := by
  unfold joinB
  refine cutL_join (by simpa using h0) (fun p hp => ?_)
  obtain ⟨x, hx, rfl⟩ := List.mem_map.1 hp
  exact h x hx
/-- where the library finds a byte -/
theorem occ_iff (s : List UInt8) (b : UInt8) (i : Nat) : Lib.occAt s [b] i = true ↔ s[i]? = some b := by
  unfold Lib.occAt
  have e : s.drop i = [] ∨ ∃ x r, s.drop i = x :: r ∧ s[i]? = some x := by
    cases h : s.drop i with
    | nil => exact .inl rfl
    | cons x r => exact .inr ⟨x, r, rfl, by have := congrArg List.head? h; rw [List.head?_drop] at this; simpa using this⟩
  rcases e with e | ⟨x, r, e, h⟩
  · rw [e]
    have : s[i]? = none := by rw [List.getElem?_eq_none]; exact List.drop_eq_nil_iff.1 e
    rw [this]; simp
  · rw [e, h]
    simp [List.isPrefixOf]
    exact eq_comm
theorem index_cases (s : List UInt8) (b : UInt8) : (Lib.index s [b] = -1 ∧ b ∉ s) ∨ ∃ p r, s = p ++ b :: r ∧ b ∉ p ∧ Lib.index s [b] = (p.length : Int) := by
  rcases Lib.index_spec s [b] with ⟨h, hn⟩ | ⟨i, h, hi, ho, hno⟩
  · refine .inl ⟨h, fun hb => ?_⟩
    obtain ⟨i, hi, e⟩ := List.getElem_of_mem hb
    have := hn i (by omega)
    have h2 := (occ_iff s b i).2 (by rw [List.getElem?_eq_getElem hi, e])
    rw [this] at h2; cases h2
  · have h3 := (occ_iff s b i).1 ho
    obtain ⟨hl, he⟩ := List.getElem?_eq_some_iff.1 h3
    refine .inr ⟨s.take i, s.drop (i + 1), ?_, fun hb => ?_, by rw [h, List.length_take]; omega⟩
    · rw [← he, List.getElem_cons_drop, List.take_append_drop]
    · obtain ⟨j, hj, e⟩ := List.getElem_of_mem hb
      rw [List.length_take] at hj
      rw [List.getElem_take] at e
      have h4 := (occ_iff s b j).2 (by rw [List.getElem?_eq_getElem (by omega), e])
      have h5 := hno j (by omega)
      rw [h5] at h4; cases h4
theorem split_eq (b : UInt8) : ∀ (n : Nat) (s : List UInt8), s.length ≤ n → Lib.splitK [b] 0 (Lib.count s [b]) s = cutL b s
  | 0, s, hn => by
    obtain rfl : s = [] := List.eq_nil_of_length_eq_zero (by omega)
    rcases index_cases [] b with ⟨h, hb⟩ | ⟨p, r, e, hb, h⟩
    · rw [Lib.count_miss h]; rfl
    · simp at e
  | n + 1, s, hn => by
    rcases index_cases s b with ⟨h, hb⟩ | ⟨p, r, rfl, hb, h⟩
    · rw [Lib.count_miss h, cutL_miss hb]; rfl
    · have hc := Lib.count_hit (s := p ++ b :: r) (sub := [b]) (i := p.length) (by simp) h
      have hd : (p ++ b :: r).drop (p.length + [b].length) = r := by
        rw [List.drop_append]; simp
      rw [hd] at hc
      rw [hc, Nat.add_comm, Lib.splitK, if_neg (by rw [h]; simp), h]
      have ht : ((p.length : Int)).toNat = p.length := rfl
      rw [ht, hd, cutL_hit _ hb, split_eq b n r (by simp at hn; omega)]
      simp
def cutB (b : UInt8) (s : ByteArray) : List ByteArray := (cutL b s.data.toList).map (fun l => ⟨l.toArray⟩)
end Go.Proofs.YtkmoekbicbjdmaaDoor.CutText

/- LabelsPut of the model, at every slice of labels. -/
namespace Go.Proofs.YtkmoekbicbjdmaaDoor.Lab
open Go.RowKit Rw PutMath
set_option linter.unusedVariables false
attribute [local go_sem ↓] Go.wp_at_zero Go.wp_at_succ
set_option maxRecDepth 100000 in
set_option maxHeartbeats 4000000 in
theorem l3Put_any {w : World} {v : Value} {zs : List E} (h : Is w v zs) (hsm : small zs) : Calls Tryd.prog 37 #[v] w fun e w' => e = .returned (.string (wrap 123 125 (parts zs))) ∧ Below w.heap.size w w' := by
  obtain ⟨-, a, cap, rfl, hc, hm, -, hr⟩ := h
  unfold maxLen at hm
  obtain ⟨n, hn⟩ : ∃ n, n = zs.length := ⟨_, rfl⟩
  have hn2 : n ≤ 1000 := by rw [hn]; exact hsm.1
  rw [← hn] at hc hr ⊢
  have HN := hide hn
  have HSM := hide hsm
  clear hn hsm
  obtain ⟨R, hR⟩ : ∃ R, R = wrap 123 125 (parts zs) := ⟨_, rfl⟩
  rw [← hR]
  have HR := hide hR
  clear hR
  have H0 := hide (out_first 123)
  go_enter Tryd.func37, Tryd.ntmps37
  go_wp2_with fail
  go_loopw [3, 4] (fun ov i wr => ∃ (k : Nat) (O : ByteArray), k ≤ n ∧ i = .int .i64 k ∧ ov = .string O ∧ O = out 123 (parts (zs.take k)) ∧ Below w.heap.size w wr) (fun _ i _ => n - (intOf i).toNat)
  case atStart => exact ⟨0, _, Nat.zero_le _, rfl, rfl, (unhide H0).symm, Below.refl _ _⟩
  case round =>
    obtain ⟨k, O, hk, rfl, rfl, hO, hbel⟩ := hrel
    have hsz := hbel.size
    have hk0 : (0 : Int) ≤ (k : Int) := Int.natCast_nonneg _
    have JS := join_small (unhide HSM) k
    have hOs : O.size ≤ 2002001 := by rw [hO, out_size]; omega
    have HO := hide hO
    clear hO JS
    by_cases hlt : k < n
    · obtain ⟨b, off, rfl, hl, hcells⟩ := hr (by omega)
      have fa := flat_at zs k (by have := unhide HN; omega)
      have gd := (unhide HSM).2 (at' zs k) (by rw [at_get zs k (by have := unhide HN; omega)]; exact List.getElem_mem _)
      have HPS := parts_snoc zs k (by have := unhide HN; omega)
      obtain ⟨A, B, hX⟩ : ∃ A B, (A, B) = at' zs k := ⟨_, _, rfl⟩
      rw [← hX] at fa gd HPS
      simp only at gd
      have hb1 : b < wr.heap.size := by omega
      have q0 : ∀ x : Cls wr.heap.size wr, x.val.cell? ⟨b, off + k * 2, none⟩ = some (.string A) := fun x => by rw [x.cell hb1]; exact (hbel.cell (p := ⟨b, _, none⟩) hl).trans (hcells (k * 2) _ fa.1)
      have q1 : ∀ x : Cls wr.heap.size wr, x.val.cell? ⟨b, off + k * 2 + 1, none⟩ = some (.string B) := fun x => by rw [x.cell hb1]; exact (hbel.cell (p := ⟨b, _, none⟩) hl).trans (hcells (k * 2 + 1) _ fa.2)
      have hne := cls_nonempty wr.heap.size wr
      have e61 : (⟨#[61]⟩ : ByteArray).size = 1 := rfl
      have e44 : (⟨#[44]⟩ : ByteArray).size = 1 := rfl
      have hk1 : (k : Int) < (n : Int) := by omega
      have lenk : (parts (zs.take k)).length = k := by rw [parts_length, List.length_take]; have := unhide HN; omega
      have adds : ∀ q : ByteArray, q.size ≤ 2002002 → (if (parts (zs.take k)).length = 0 then out 123 (parts (zs.take k)) else out 123 (parts (zs.take k)) ++ ⟨#[44]⟩) = q → ∃ P1 P2 P3, P3 = out 123 (parts (zs.take (k + 1))) ∧ (∀ W, (Op.stringOp .add q A).run Tryd.prog W = .ok (.string P1) W) ∧ (∀ W, (Op.stringOp .add P1 ⟨#[61]⟩).run Tryd.prog W = .ok (.string P2) W) ∧ (∀ W, (Op.stringOp .add P2 B).run Tryd.prog W = .ok (.string P3) W) := by
        intro q hq he
        refine ⟨q ++ A, q ++ A ++ ⟨#[61]⟩, q ++ A ++ ⟨#[61]⟩ ++ B, ?_, fun W => run_string_add_sum W _ _ (by omega), fun W => run_string_add_sum W _ _ (by rw [app_size, e61]; omega), fun W => run_string_add_sum W _ _ (by rw [app_size, app_size, e61]; omega)⟩
        rw [HPS, ← out_next 123 (parts (zs.take k)) (partOf (A, B)) q he]
        unfold partOf
        rw [app_assoc, app_assoc, app_assoc]
      by_cases hk00 : k = 0
      · obtain ⟨P1, P2, P3, hP3, s1, s2, s3⟩ := adds O (by omega) (by rw [if_pos (by omega), unhide HO])
        have HP3 := hide hP3
        have hd : decide ((0 : Int) < (k : Int)) = false := by simp; omega
        have hd2 : decide (0 < k) = false := by simp; omega
        clear hP3 adds HPS gd fa hX hk00 lenk
        go_wp2_with fail
        refine region_cls (by kernel_rfl) (by kernel_rfl) ?_
        repeat (go_big_quiet_step (fail))
        refine wpQuiet_nil ?_
        rintro wq ⟨⟨_, hq⟩, rfl⟩
        go_wp2
        go_roundw
        case rel => exact ⟨k + 1, P3, by omega, by go_num, rfl, unhide HP3, hbel.trans (hq.mono hsz)⟩
        case measure => simp [intOf]; omega
      · obtain ⟨P1, P2, P3, hP3, s1, s2, s3⟩ := adds (O ++ ⟨#[44]⟩) (by rw [app_size, e44]; omega) (by rw [if_neg (by omega), unhide HO])
        have s0 : ∀ W, (Op.stringOp .add O ⟨#[44]⟩).run Tryd.prog W = .ok (.string (O ++ ⟨#[44]⟩)) W := fun W => run_string_add_sum W _ _ (by rw [e44]; omega)
        generalize O ++ ⟨#[44]⟩ = O1 at s0 s1
        have HP3 := hide hP3
        have hd : (0 : Int) < (k : Int) := by omega
        clear hP3 adds HPS gd fa hX hk00 lenk
        go_wp2_with fail
        refine region_cls (by kernel_rfl) (by kernel_rfl) ?_
        repeat (go_big_quiet_step (fail))
        refine wpQuiet_nil ?_
        rintro wq ⟨⟨_, hq⟩, rfl⟩
        go_wp2
        go_roundw
        case rel => exact ⟨k + 1, P3, by omega, by go_num, rfl, unhide HP3, hbel.trans (hq.mono hsz)⟩
        case measure => simp [intOf]; omega
    · obtain rfl : k = n := by omega
      have e125 : (⟨#[125]⟩ : ByteArray).size = 1 := rfl
      have s0 : ∀ W, (Op.stringOp .add O ⟨#[125]⟩).run Tryd.prog W = .ok (.string R) W := fun W => by
        rw [run_string_add_sum W _ _ (by rw [e125]; omega), unhide HR, unhide HO, List.take_of_length_le (by have := unhide HN; omega), wrap_out]
      go_wp2_with fail
      go_ret
      exact ⟨rfl, hbel⟩
set_option maxHeartbeats 1000000 in
theorem spec_put {w : World} {v : Value} {zs : List E} (h : Is w v zs) (hg : ∀ x ∈ zs, good x) (hz : zs.length ≤ maxLen) : Calls Tryd.prog 10 #[v] w fun e w' => e = .returned (.string (put zs)) ∧ Below w.heap.size w w' := by
  have H1 := hide (spec_ok h hg hz)
  cases ho : ok zs
  · have HR := hide (show put zs = ByteArray.empty by unfold put; rw [ho]; rfl)
    rw [ho] at H1
    clear ho h hg
    go_enter Tryd.func10, Tryd.ntmps10
    go_wp2_with fail
    refine (unhide H1).mono ?_
    rintro e w1 ⟨rfl, b1⟩
    go_wp2_with fail
    go_ret
    exact ⟨ret_string (unhide HR).symm, b1⟩
  · have HR := hide (show put zs = wrap 123 125 (parts zs) by unfold put; rw [ho]; rfl)
    have H2 := hide (fun W (hb : Below w.heap.size w W) => l3Put_any (h.below hb) (ok_small ho))
    rw [ho] at H1
    clear ho h hg
    go_enter Tryd.func10, Tryd.ntmps10
    go_wp2_with fail
    refine (unhide H1).mono ?_
    rintro e w1 ⟨rfl, b1⟩
    go_wp2_with fail
    refine (unhide H2 _ b1).mono ?_
    rintro e w2 ⟨rfl, b2⟩
    have c2 := b1.trans (b2.mono b1.size)
    go_wp2_with fail
    go_ret
    exact ⟨ret_string (unhide HR).symm, c2⟩
end Go.Proofs.YtkmoekbicbjdmaaDoor.Lab

/- Ascending lists of numbers, as plain mathematics: when they are ok, what is in both, in either, in the first alone. No condition. -/
namespace Go.Proofs.YtkmoekbicbjdmaaDoor.ListMath
def at' (zs : List Int) (i : Nat) : Int := zs.getD i 0
def stepOk (zs : List Int) (i : Nat) : Bool := decide (0 ≤ at' zs i) && (i == 0 || decide (at' zs (i - 1) < at' zs i))
def okTo (zs : List Int) (k : Nat) : Bool := (List.range k).all (stepOk zs)
def ok (zs : List Int) : Bool := okTo zs zs.length && decide (zs.length ≤ 40)
theorem okTo_zero (zs : List Int) : okTo zs 0 = true := rfl
theorem okTo_succ (zs : List Int) (k : Nat) : okTo zs (k + 1) = (okTo zs k && stepOk zs k) := by simp [okTo, List.range_succ]
theorem ok_of_bad {zs : List Int} {k : Nat} (hk : k < zs.length) (h : stepOk zs k = false) : ok zs = false := by
  have : okTo zs zs.length = false := by unfold okTo; rw [List.all_eq_false]; exact ⟨k, List.mem_range.2 hk, by simp [h]⟩
  unfold ok; rw [this]; rfl
theorem step_first {zs : List Int} (h : 0 ≤ at' zs 0) : stepOk zs 0 = true := by simp [stepOk, h]
theorem step_next {zs : List Int} {k : Nat} (h : 0 ≤ at' zs k) (h' : at' zs (k - 1) < at' zs k) : stepOk zs k = true := by simp [stepOk, h, h']
theorem step_neg {zs : List Int} {k : Nat} (h : at' zs k < 0) : stepOk zs k = false := by
  have : decide (0 ≤ at' zs k) = false := decide_eq_false (by omega)
  simp only [stepOk, this, Bool.false_and]
theorem step_late {zs : List Int} {k : Nat} (hk : 0 < k) (h' : at' zs k ≤ at' zs (k - 1)) : stepOk zs k = false := by
  have h0 : (k == 0) = false := by simp; omega
  have h1 : decide (at' zs (k - 1) < at' zs k) = false := decide_eq_false (by omega)
  simp only [stepOk, h0, h1, Bool.or_false, Bool.and_false]
theorem at_snoc (zs : List Int) (k : Nat) (h : k < zs.length) : zs.take (k + 1) = zs.take k ++ [at' zs k] := by
  rw [List.take_succ_eq_append_getElem h]; simp [at', List.getD, h]
theorem drop_at (zs : List Int) (i : Nat) (h : i < zs.length) : zs.drop i = at' zs i :: zs.drop (i + 1) := by
  rw [List.drop_eq_getElem_cons h]; simp [at', List.getD, h]
abbrev Up (l : List Int) : Prop := l.Pairwise (· < ·)
theorem ok_len {zs : List Int} (h : ok zs = true) : zs.length ≤ 40 := by unfold ok at h; rw [Bool.and_eq_true] at h; exact of_decide_eq_true h.2
theorem ok_step {zs : List Int} (h : ok zs = true) {k : Nat} (hk : k < zs.length) : stepOk zs k = true := by
  unfold ok at h; rw [Bool.and_eq_true] at h
  have := h.1; unfold okTo at this
  exact List.all_eq_true.1 this k (List.mem_range.2 hk)
theorem ok_nonneg {zs : List Int} (h : ok zs = true) : ∀ x ∈ zs, 0 ≤ x := by
  intro x hx
  obtain ⟨k, hk, rfl⟩ := List.getElem_of_mem hx
  have := ok_step h hk
  unfold stepOk at this; rw [Bool.and_eq_true] at this
  have := of_decide_eq_true this.1
  simpa [at', List.getD, hk] using this
theorem ok_up {zs : List Int} (h : ok zs = true) : Up zs := by
  have hs : ∀ k, k + 1 < zs.length → at' zs k < at' zs (k + 1) := by
    intro k hk
    have := ok_step h hk
    unfold stepOk at this; rw [Bool.and_eq_true] at this
    simpa using this.2
  have hlt : ∀ j i, i < j → j < zs.length → at' zs i < at' zs j := by
    intro j
    induction j with
    | zero => intro i h; omega
    | succ j ih =>
      intro i hij hj
      have h1 := hs j hj
      by_cases e : i = j
      · subst e; exact h1
      · have := ih i (by omega) (by omega); omega
  rw [Up, List.pairwise_iff_getElem]
  intro i j hi hj hij
  have := hlt j i hij hj
  simpa [at', List.getD, hi, hj] using this
theorem ok_mk {zs : List Int} (h1 : Up zs) (h2 : ∀ x ∈ zs, 0 ≤ x) (h3 : zs.length ≤ 40) : ok zs = true := by
  unfold ok okTo
  rw [Bool.and_eq_true]
  refine ⟨List.all_eq_true.2 fun k hk => ?_, decide_eq_true h3⟩
  have hk := List.mem_range.1 hk
  have e : at' zs k = zs[k] := by simp [at', List.getD, hk]
  have n0 : 0 ≤ at' zs k := by rw [e]; exact h2 _ (List.getElem_mem hk)
  cases k with
  | zero => exact step_first n0
  | succ k =>
    refine step_next n0 ?_
    have e' : at' zs k = zs[k] := by simp [at', List.getD, show k < zs.length from by omega]
    rw [show k + 1 - 1 = k from rfl, e, e']
    exact List.pairwise_iff_getElem.1 h1 k (k + 1) (by omega) hk (by omega)
theorem up_ext : ∀ {a b : List Int}, Up a → Up b → (∀ x, x ∈ a ↔ x ∈ b) → a = b
  | [], [], _, _, _ => rfl
  | [], y :: b, _, _, h => by have := (h y).2 (List.mem_cons_self ..); cases this
  | x :: a, [], _, _, h => by have := (h x).1 (List.mem_cons_self ..); cases this
  | x :: a, y :: b, ha, hb, h => by
    rw [Up, List.pairwise_cons] at ha hb
    have hxy : x = y := by
      have h1 := (h x).1 (List.mem_cons_self ..)
      have h2 := (h y).2 (List.mem_cons_self ..)
      rcases List.mem_cons.1 h1 with e | e
      · exact e
      · rcases List.mem_cons.1 h2 with e' | e'
        · exact e'.symm
        · have := hb.1 x e; have := ha.1 y e'; omega
    subst hxy
    rw [up_ext ha.2 hb.2]
    intro z
    constructor
    · intro hz
      rcases List.mem_cons.1 ((h z).1 (List.mem_cons_of_mem _ hz)) with e | e
      · have := ha.1 z hz; omega
      · exact e
    · intro hz
      rcases List.mem_cons.1 ((h z).2 (List.mem_cons_of_mem _ hz)) with e | e
      · have := hb.1 z hz; omega
      · exact e
def one (b : Bool) (x : Int) : List Int := if b = true then [x] else []
theorem mem_one {b : Bool} {x y : Int} : y ∈ one b x ↔ b = true ∧ y = x := by unfold one; cases b <;> simp
/-- what the generic loop makes of two lists -/
def merge (k : Bool → Bool → Bool) : List Int → List Int → List Int
  | [], [] => []
  | x :: a, [] => one (k true false) x ++ merge k a []
  | [], y :: b => one (k false true) y ++ merge k [] b
  | x :: a, y :: b =>
    if x < y then one (k true false) x ++ merge k a (y :: b)
    else if y < x then one (k false true) y ++ merge k (x :: a) b
    else one (k true true) y ++ merge k a b
def Has (k : Bool → Bool → Bool) (a b : List Int) (z : Int) : Prop := (z ∈ a ∨ z ∈ b) ∧ k (decide (z ∈ a)) (decide (z ∈ b)) = true
theorem mem_merge (k : Bool → Bool → Bool) (a b : List Int) : Up a → Up b → ∀ z, z ∈ merge k a b ↔ Has k a b z := by
  induction a, b using merge.induct with
  | case1 => intro _ _ z; simp [merge, Has]
  | case2 x a ih =>
    intro ha hb z
    rw [Up, List.pairwise_cons] at ha
    rw [merge, List.mem_append, mem_one, ih ha.2 hb z]
    unfold Has
    by_cases e : z = x
    · subst e
      have : ¬ z ∈ a := fun hz => by have := ha.1 z hz; omega
      simp [this]
    · simp [e]
  | case3 y b ih =>
    intro ha hb z
    rw [Up, List.pairwise_cons] at hb
    rw [merge, List.mem_append, mem_one, ih ha hb.2 z]
    unfold Has
    by_cases e : z = y
    · subst e
      have : ¬ z ∈ b := fun hz => by have := hb.1 z hz; omega
      simp [this]
    · simp [e]
  | case4 x a y b hlt ih =>
    intro ha hb z
    have hb' := hb
    rw [Up, List.pairwise_cons] at ha hb'
    rw [merge, if_pos hlt, List.mem_append, mem_one, ih ha.2 hb z]
    unfold Has
    by_cases e : z = x
    · subst e
      have h1 : ¬ z ∈ a := fun hz => by have := ha.1 z hz; omega
      have h2 : ¬ z ∈ y :: b := fun hz => by
        rcases List.mem_cons.1 hz with e | e
        · omega
        · have := hb'.1 z e; omega
      simp only [h1, h2, List.mem_cons_self, or_self, false_and, or_false, and_true, true_and, decide_true, decide_false]
    · have e1 : (z ∈ x :: a) ↔ z ∈ a := by simp [e]
      simp only [e, and_false, false_or, e1]
  | case5 x a y b h1 hlt ih =>
    intro ha hb z
    have ha' := ha
    rw [Up, List.pairwise_cons] at ha' hb
    rw [merge, if_neg h1, if_pos hlt, List.mem_append, mem_one, ih ha hb.2 z]
    unfold Has
    by_cases e : z = y
    · subst e
      have h1 : ¬ z ∈ b := fun hz => by have := hb.1 z hz; omega
      have h2 : ¬ z ∈ x :: a := fun hz => by
        rcases List.mem_cons.1 hz with e | e
        · omega
        · have := ha'.1 z e; omega
      simp only [h1, h2, List.mem_cons_self, or_self, false_and, or_false, and_true, or_true, true_and, decide_true, decide_false]
    · have e1 : (z ∈ y :: b) ↔ z ∈ b := by simp [e]
      simp only [e, and_false, false_or, e1]
  | case6 x a y b h1 h2 ih =>
    intro ha hb z
    obtain rfl : x = y := by omega
    rw [Up, List.pairwise_cons] at ha hb
    rw [merge, if_neg h1, if_neg h2, List.mem_append, mem_one, ih ha.2 hb.2 z]
    unfold Has
    by_cases e : z = x
    · subst e
      have h1 : ¬ z ∈ b := fun hz => by have := hb.1 z hz; omega
      have h2 : ¬ z ∈ a := fun hz => by have := ha.1 z hz; omega
      simp only [h1, h2, List.mem_cons_self, or_self, false_and, or_false, and_true, true_and, decide_true]
    · have e1 : (z ∈ x :: a) ↔ z ∈ a := by simp [e]
      have e2 : (z ∈ x :: b) ↔ z ∈ b := by simp [e]
      simp only [e, and_false, false_or, e1, e2]
theorem up_one {b : Bool} {x : Int} {l : List Int} (h : Up l) (hx : ∀ z ∈ l, x < z) : Up (one b x ++ l) := by
  unfold one
  cases b
  · simpa using h
  · simpa using ⟨hx, h⟩
theorem up_merge (k : Bool → Bool → Bool) (a b : List Int) : Up a → Up b → Up (merge k a b) := by
  induction a, b using merge.induct with
  | case1 => intro _ _; rw [merge]; exact List.Pairwise.nil
  | case2 x a ih =>
    intro ha hb
    have ha' := ha
    rw [Up, List.pairwise_cons] at ha
    rw [merge]
    refine up_one (ih ha.2 hb) fun z hz => ?_
    rcases ((mem_merge k a [] ha.2 hb z).1 hz).1 with h | h
    · exact ha.1 z h
    · cases h
  | case3 y b ih =>
    intro ha hb
    rw [Up, List.pairwise_cons] at hb
    rw [merge]
    refine up_one (ih ha hb.2) fun z hz => ?_
    rcases ((mem_merge k [] b ha hb.2 z).1 hz).1 with h | h
    · cases h
    · exact hb.1 z h
  | case4 x a y b hlt ih =>
    intro ha hb
    have hb' := hb
    rw [Up, List.pairwise_cons] at ha hb'
    rw [merge, if_pos hlt]
    refine up_one (ih ha.2 hb) fun z hz => ?_
    rcases ((mem_merge k a _ ha.2 hb z).1 hz).1 with h | h
    · exact ha.1 z h
    · rcases List.mem_cons.1 h with e | e
      · omega
      · have := hb'.1 z e; omega
  | case5 x a y b h1 hlt ih =>
    intro ha hb
    have ha' := ha
    rw [Up, List.pairwise_cons] at ha' hb
    rw [merge, if_neg h1, if_pos hlt]
    refine up_one (ih ha hb.2) fun z hz => ?_
    rcases ((mem_merge k _ b ha hb.2 z).1 hz).1 with h | h
    · rcases List.mem_cons.1 h with e | e
      · omega
      · have := ha'.1 z e; omega
    · exact hb.1 z h
  | case6 x a y b h1 h2 ih =>
    intro ha hb
    rw [Up, List.pairwise_cons] at ha hb
    rw [merge, if_neg h1, if_neg h2]
    refine up_one (ih ha.2 hb.2) fun z hz => ?_
    rcases ((mem_merge k a b ha.2 hb.2 z).1 hz).1 with h | h
    · have := ha.1 z h; omega
    · exact hb.1 z h
theorem merge_le (k : Bool → Bool → Bool) (a b : List Int) : (merge k a b).length ≤ a.length + b.length := by
  have o : ∀ b x, (one b x).length ≤ 1 := by intro b x; cases b <;> simp [one]
  induction a, b using merge.induct with
  | case1 => simp [merge]
  | case2 x a ih => rw [merge, List.length_append]; have := o (k true false) x; simp only [List.length_cons, List.length_nil] at *; omega
  | case3 y b ih => rw [merge, List.length_append]; have := o (k false true) y; simp only [List.length_cons, List.length_nil] at *; omega
  | case4 x a y b hlt ih => rw [merge, if_pos hlt, List.length_append]; have := o (k true false) x; simp only [List.length_cons] at *; omega
  | case5 x a y b h1 hlt ih => rw [merge, if_neg h1, if_pos hlt, List.length_append]; have := o (k false true) y; simp only [List.length_cons] at *; omega
  | case6 x a y b h1 h2 ih => rw [merge, if_neg h1, if_neg h2, List.length_append]; have := o (k true true) y; simp only [List.length_cons] at *; omega
/-- what the loop keeps -/
def MLeft (k : Bool → Bool → Bool) (a b L : List Int) (i j : Nat) : Prop := merge k a b = L ++ merge k (a.drop i) (b.drop j)
theorem left_start (k : Bool → Bool → Bool) (a b : List Int) : MLeft k a b [] 0 0 := by simp [MLeft]
theorem left_first {k : Bool → Bool → Bool} {a b L : List Int} {i j : Nat} (h : MLeft k a b L i j) (hi : i < a.length) (hj : j < b.length) (hlt : at' a i < at' b j) : MLeft k a b (L ++ one (k true false) (at' a i)) (i + 1) j := by
  unfold MLeft at *
  rw [h, drop_at a i hi, drop_at b j hj, merge, if_pos hlt, List.append_assoc]
theorem left_second {k : Bool → Bool → Bool} {a b L : List Int} {i j : Nat} (h : MLeft k a b L i j) (hi : i < a.length) (hj : j < b.length) (hlt : at' b j < at' a i) : MLeft k a b (L ++ one (k false true) (at' b j)) i (j + 1) := by
  unfold MLeft at *
  rw [h, drop_at a i hi, drop_at b j hj, merge, if_neg (by omega), if_pos hlt, List.append_assoc]
theorem left_both {k : Bool → Bool → Bool} {a b L : List Int} {i j : Nat} (h : MLeft k a b L i j) (hi : i < a.length) (hj : j < b.length) (he : at' a i = at' b j) : MLeft k a b (L ++ one (k true true) (at' b j)) (i + 1) (j + 1) := by
  unfold MLeft at *
  rw [h, drop_at a i hi, drop_at b j hj, merge, if_neg (by omega), if_neg (by omega), List.append_assoc]
theorem left_a {k : Bool → Bool → Bool} {a b L : List Int} {i j : Nat} (h : MLeft k a b L i j) (hi : i < a.length) (hj : b.length ≤ j) : MLeft k a b (L ++ one (k true false) (at' a i)) (i + 1) j := by
  unfold MLeft at *
  rw [h, drop_at a i hi, List.drop_eq_nil_of_le hj, merge, List.append_assoc]
theorem left_b {k : Bool → Bool → Bool} {a b L : List Int} {i j : Nat} (h : MLeft k a b L i j) (hi : a.length ≤ i) (hj : j < b.length) : MLeft k a b (L ++ one (k false true) (at' b j)) i (j + 1) := by
  unfold MLeft at *
  rw [h, drop_at b j hj, List.drop_eq_nil_of_le hi, merge, List.append_assoc]
theorem left_end {k : Bool → Bool → Bool} {a b L : List Int} {i j : Nat} (h : MLeft k a b L i j) (hi : a.length ≤ i) (hj : b.length ≤ j) : merge k a b = L := by
  unfold MLeft at h
  rw [h, List.drop_eq_nil_of_le hi, List.drop_eq_nil_of_le hj, merge, List.append_nil]
def both (a b : Bool) : Bool := a && b
def either (a b : Bool) : Bool := a || b
def first (a b : Bool) : Bool := a && !b
/-- what the three functions answer -/
def res (k : Bool → Bool → Bool) (a b : List Int) : List Int := if ok a = true ∧ ok b = true then merge k a b else []
theorem res_bad {k : Bool → Bool → Bool} {a b : List Int} (h : ok a = false ∨ ok b = false) : res k a b = [] := by
  unfold res; rw [if_neg]; rintro ⟨h1, h2⟩; rcases h with h | h <;> simp_all
theorem res_ok {k : Bool → Bool → Bool} {a b : List Int} (h1 : ok a = true) (h2 : ok b = true) : res k a b = merge k a b := by unfold res; rw [if_pos ⟨h1, h2⟩]
theorem res_le (k : Bool → Bool → Bool) (a b : List Int) : (res k a b).length ≤ a.length + b.length := by
  unfold res; split
  · exact merge_le k a b
  · simp
def has (l : List Int) (x : Int) : Bool := l.contains x
theorem has_iff (l : List Int) (x : Int) : has l x = decide (x ∈ l) := by simp [has]
/-- the model's way: a filter -/
theorem merge_both {a b : List Int} (ha : Up a) (hb : Up b) : merge both a b = a.filter (fun x => has b x) := by
  refine up_ext (up_merge both a b ha hb) (ha.filter _) fun z => ?_
  rw [mem_merge both a b ha hb]
  unfold Has both
  simp only [List.mem_filter, has_iff, Bool.and_eq_true, decide_eq_true_eq]
  constructor
  · rintro ⟨_, h⟩; exact h
  · intro h; exact ⟨.inl h.1, h⟩
theorem merge_first {a b : List Int} (ha : Up a) (hb : Up b) : merge first a b = a.filter (fun x => !has b x) := by
  refine up_ext (up_merge first a b ha hb) (ha.filter _) fun z => ?_
  rw [mem_merge first a b ha hb]
  unfold Has first
  simp only [List.mem_filter, has_iff, Bool.and_eq_true, decide_eq_true_eq]
  constructor
  · rintro ⟨_, h⟩; exact h
  · intro h; exact ⟨.inl h.1, h⟩
/-- a number put into a list, once -/
def putAt (l : List Int) (n : Int) : Nat := (l.takeWhile (fun x => decide (x < n))).length
def put (l : List Int) (n : Int) : List Int :=
  if l.drop (putAt l n) ≠ [] ∧ at' l (putAt l n) = n then l else l.take (putAt l n) ++ n :: l.drop (putAt l n)
theorem put_nil (n : Int) : put [] n = [n] := by simp [put, putAt]
theorem put_cons (x : Int) (l : List Int) (n : Int) : put (x :: l) n = if x < n then x :: put l n else if x = n then x :: l else n :: x :: l := by
  by_cases h : x < n
  · rw [if_pos h]
    have e : putAt (x :: l) n = putAt l n + 1 := by simp [putAt, h]
    unfold put
    rw [e]
    have e2 : at' (x :: l) (putAt l n + 1) = at' l (putAt l n) := by simp [at', List.getD]
    rw [e2, List.drop_succ_cons, List.take_succ_cons]
    split <;> simp
  · rw [if_neg h]
    have e : putAt (x :: l) n = 0 := by simp [putAt, h]
    unfold put
    rw [e]
    have e2 : at' (x :: l) 0 = x := rfl
    rw [e2, List.drop_zero, List.take_zero]
    by_cases e3 : x = n
    · simp [e3]
    · simp [e3]
theorem mem_put : ∀ (l : List Int) (n z : Int), z ∈ put l n ↔ z ∈ l ∨ z = n
  | [], n, z => by simp [put_nil]
  | x :: l, n, z => by
    rw [put_cons]
    by_cases h : x < n
    · rw [if_pos h, List.mem_cons, mem_put l n z, List.mem_cons, or_assoc]
    · rw [if_neg h]
      by_cases e : x = n
      · rw [if_pos e]; subst e; simp only [List.mem_cons]; constructor
        · exact fun h => .inl h
        · rintro (h | h)
          · exact h
          · exact .inl h
      · rw [if_neg e]; simp only [List.mem_cons]
        constructor
        · rintro (h | h | h)
          · exact .inr h
          · exact .inl (.inl h)
          · exact .inl (.inr h)
        · rintro ((h | h) | h)
          · exact .inr (.inl h)
          · exact .inr (.inr h)
          · exact .inl h
theorem up_put : ∀ (l : List Int) (n : Int), Up l → Up (put l n)
  | [], n, _ => by rw [put_nil]; simp
  | x :: l, n, h => by
    have h' := h
    rw [Up, List.pairwise_cons] at h
    rw [put_cons]
    by_cases hx : x < n
    · rw [if_pos hx, Up, List.pairwise_cons]
      refine ⟨fun z hz => ?_, up_put l n h.2⟩
      rcases (mem_put l n z).1 hz with e | e
      · exact h.1 z e
      · omega
    · rw [if_neg hx]
      by_cases e : x = n
      · rw [if_pos e]; exact h'
      · rw [if_neg e, Up, List.pairwise_cons]
        refine ⟨fun z hz => ?_, h'⟩
        rcases List.mem_cons.1 hz with e | e
        · omega
        · have := h.1 z e; omega
theorem put_le (l : List Int) (n : Int) : (put l n).length ≤ l.length + 1 := by
  induction l with
  | nil => simp [put_nil]
  | cons x l ih =>
    rw [put_cons]; split
    · simp only [List.length_cons]; omega
    · split <;> simp
theorem mem_puts : ∀ (b a : List Int) (z : Int), z ∈ b.foldl put a ↔ z ∈ a ∨ z ∈ b
  | [], a, z => by simp
  | y :: b, a, z => by rw [List.foldl_cons, mem_puts b (put a y) z, mem_put, List.mem_cons, or_assoc]
theorem up_puts : ∀ (b a : List Int), Up a → Up (b.foldl put a)
  | [], _, h => h
  | y :: b, a, h => up_puts b (put a y) (up_put a y h)
theorem puts_le : ∀ (b a : List Int), (b.foldl put a).length ≤ a.length + b.length
  | [], a => by simp
  | y :: b, a => by have := puts_le b (put a y); have := put_le a y; simp only [List.foldl_cons, List.length_cons]; omega
theorem merge_either {a b : List Int} (ha : Up a) (hb : Up b) : merge either a b = b.foldl put a := by
  refine up_ext (up_merge either a b ha hb) (up_puts b a ha) fun z => ?_
  rw [mem_merge either a b ha hb, mem_puts]
  unfold Has either
  simp only [Bool.or_eq_true, decide_eq_true_eq, and_self]
end Go.Proofs.YtkmoekbicbjdmaaDoor.ListMath

/- Slices of ints; ListOk, of the program and of the model, at every slice of ints. -/
namespace Go.Proofs.YtkmoekbicbjdmaaDoor.Ints
open Go.RowKit ListMath Rw
set_option linter.unusedVariables false
attribute [local go_sem ↓] Go.wp_at_zero Go.wp_at_succ
def flat (zs : List Int) : List Value := zs.map fun x => .int .i64 x
theorem flat_nil : flat [] = [] := rfl
theorem flat_append (a b : List Int) : flat (a ++ b) = flat a ++ flat b := by simp [flat]
theorem flat_length (zs : List Int) : (flat zs).length = zs.length := by simp [flat]
theorem flat_get (zs : List Int) (i : Nat) (h : i < zs.length) : (flat zs)[i]? = some (.int .i64 (at' zs i)) := by simp [flat, at', List.getD, h]
theorem flat_oneCell (zs : List Int) : ∀ u ∈ flat zs, u.oneCell' = true := by
  intro u hu
  obtain ⟨x, _, rfl⟩ := List.mem_map.1 hu
  rfl
abbrev Is (w : World) (v : Value) (zs : List Int) : Prop := Lies w v zs.length 1 (flat zs)
end Go.Proofs.YtkmoekbicbjdmaaDoor.Ints
