/- My own texts of one claim, laid together by program: MarkText, LabMark, LabUni, SamMark. -/
import Derived.Test.YtlboekimnhgfdaaGreatG2376b3578a
import Derived.Laws.Concat
import Derived.Test.YtlboekimnhgfdaaGreatG54bfd16f94
import Derived.Test.YtlboekimnhgfdaaGreatG41d3d5ff59
/- The text of a mark, markText, at every number from 1 on. No condition but that the number is not too great. -/
namespace Go.Proofs.YtlboekimnhgfdaaGreat.Mark
open Go.RowKit Rw
set_option linter.unusedVariables false
attribute [local go_sem ↓] Go.wp_at_zero Go.wp_at_succ
def digs : Nat → Nat → List UInt8
  | 0, _ => []
  | f + 1, k => if k = 0 then [] else digs f (k / 10) ++ [UInt8.ofNat (48 + k % 10)]
theorem digs_zero (f : Nat) : digs f 0 = [] := by cases f <;> simp [digs]
theorem digs_len : ∀ (f k : Nat), (digs f k).length ≤ f
  | 0, _ => by simp [digs]
  | f + 1, k => by
    unfold digs
    split
    · simp
    · have := digs_len f (k / 10)
      simp only [List.length_append, List.length_cons, List.length_nil]
      omega
def text (k : Nat) : ByteArray := ⟨(109 :: digs 20 k).toArray⟩
theorem digs_step (f k : Nat) (h : 0 < k) : digs (f + 1) k = digs f (k / 10) ++ [UInt8.ofNat (48 + k % 10)] := by
  conv => lhs; unfold digs
  rw [if_neg (by omega)]
/-- what a round meets, its numbers as letters -/
theorem round_facts (K : Nat) (h : 0 < K) : ∃ m c q : Nat, (K : Int).tmod 10 = (m : Int) ∧ (K : Int) % 10 = (m : Int) ∧ (48 : Int) + (m : Int) = (c : Int) ∧ IntKind.u8.wrap (c : Int) = (c : Int) ∧ (K : Int).tdiv 10 = (q : Int) ∧ (K : Int) / 10 = (q : Int) ∧ q < K ∧ c < 256 ∧
    Hid (∀ f, digs (f + 1) K = digs f q ++ [UInt8.ofNat c]) ∧ Hid (q = K / 10) := by
  refine ⟨K % 10, 48 + K % 10, K / 10, ?_, by omega, by omega, ?_, ?_, by omega, by omega, by omega, fun f => digs_step f K h, rfl⟩
  · rw [Int.tmod_eq_emod_of_nonneg (by omega)]; omega
  · rw [IntKind.wrap_u8']; omega
  · rw [Int.tdiv_eq_ediv_of_nonneg (by omega)]; omega
theorem conv_one (w : World) (c : Nat) (h : c < 256) : (convert 41 9 (.slice (some ⟨w.heap.size, 0, none⟩) 1 1)).run Tryz.prog (w.alloc (.cells #[.int .u8 (c : Int)] 5)) = .ok (.string ⟨#[UInt8.ofNat c]⟩) (w.alloc (.cells #[.int .u8 (c : Int)] 5)) := by
  have ho : (w.alloc (.cells #[.int .u8 (c : Int)] 5)).ownsRow 0 5 1 (.slice (some ⟨w.heap.size, 0, none⟩) 1 1) 1 ([UInt8.ofNat c].map byteV) := by
    refine ⟨rfl, .inr ⟨w.heap.size, 1, #[.int .u8 (c : Int)], rfl, Nat.zero_le _, heap_alloc_new w _, Nat.le_refl _, by unfold maxLen; omega, rfl, ?_⟩⟩
    have e : (UInt8.ofNat c).toNat = c := by simp; omega
    simp [byteV, e]
  exact conv_owned ho
set_option maxHeartbeats 1000000 in
theorem text_any (k : Nat) (h1 : 1 ≤ k) (h2 : k ≤ 1000000000000) (w : World) : Calls Tryz.prog 89 #[.int .i64 k] w fun e w' => e = .returned (.string (text k)) ∧ Below w.heap.size w w' := by
  have HD := hide (show text k = ⟨#[109]⟩ ++ ⟨(digs 20 k).toArray⟩ by apply ByteArray.ext; simp [text])
  have HL := hide (digs_len 20 k)
  obtain ⟨D, hD⟩ : ∃ D, D = digs 20 k := ⟨_, rfl⟩
  rw [← hD] at HD HL
  obtain ⟨R, hR⟩ : ∃ R, R = text k := ⟨_, rfl⟩
  rw [← hR] at HD ⊢
  have HR := hide hD
  clear hR hD
  go_enter Tryz.func89, Tryz.ntmps89
  go_wp2
  go_loopw [0, 3] (fun kv ov wr => ∃ (f K : Nat) (o : List UInt8), kv = .int .i64 K ∧ ov = .string ⟨o.toArray⟩ ∧ Hid (digs f K ++ o = D) ∧ Hid (K < 10 ^ f) ∧ f ≤ 20 ∧ K ≤ 1000000000000 ∧ o.length ≤ 20 - f ∧ Below w.heap.size w wr) (fun kv _ _ => (intOf kv).toNat)
  case atStart => exact ⟨20, k, [], rfl, rfl, hide (by rw [List.append_nil]; exact (unhide HR).symm), hide (by omega), by omega, h2, by simp, Below.refl _ _⟩
  case round =>
    obtain ⟨f, K, o, rfl, rfl, HI, HF, hf, hKm, ho, hbel⟩ := hrel
    have hsz := hbel.size
    by_cases hK : 0 < K
    · obtain ⟨m, c, q, t1, t2, t3, t4, t5, t6, hq, hc, HG, HQ⟩ := round_facts K hK
      have hK' : (0 : Int) < (K : Int) := by omega
      have hf1 : 0 < f := by
        rcases Nat.eq_zero_or_pos f with e | e
        · have := unhide HF; rw [e] at this; simp at this; omega
        · exact e
      obtain ⟨f, rfl⟩ : ∃ g, f = g + 1 := ⟨f - 1, by omega⟩
      have hcv := conv_one wr c hc
      have so : (⟨o.toArray⟩ : ByteArray).size = o.length := rfl
      have s1 : ∀ W, (Op.stringOp .add ⟨#[UInt8.ofNat c]⟩ ⟨o.toArray⟩).run Tryz.prog W = .ok (.string ⟨(UInt8.ofNat c :: o).toArray⟩) W := fun W => by
        rw [run_string_add_sum W _ _ (by rw [so]; show 1 + o.length ≤ _; omega)]
        congr 2
      have HI' := hide (show digs f q ++ (UInt8.ofNat c :: o) = D by have := unhide HI; rw [unhide HG f] at this; simpa using this)
      have HF' := hide (show q < 10 ^ f by have h := unhide HF; rw [Nat.pow_succ] at h; rw [unhide HQ]; exact Nat.div_lt_of_lt_mul (by omega))
      clear HI HF HG HQ so
      go_wp2
      go_roundw
      case rel => exact ⟨f, q, UInt8.ofNat c :: o, by go_num, rfl, HI', HF', by omega, by omega, by simp; omega, hbel.alloc hsz _⟩
      case measure => simp [intOf]; omega
    · obtain rfl : K = 0 := by omega
      have e0 : o = D := by have := unhide HI; rwa [digs_zero, List.nil_append] at this
      have s2 : ∀ W, (Op.stringOp .add ⟨#[109]⟩ ⟨o.toArray⟩).run Tryz.prog W = .ok (.string R) W := fun W => by
        rw [unhide HD, ← e0]
        exact run_string_add_sum W _ _ (by show 1 + o.length ≤ _; omega)
      clear e0 HI HF HD HL
      go_wp2
      go_ret
      exact ⟨rfl, hbel⟩
theorem text_at (k : Nat) (z : Int) (hz : z = (k : Int)) (h1 : 1 ≤ k) (h2 : k ≤ 1000000000000) (w : World) : Calls Tryz.prog 89 #[.int .i64 z] w fun e w' => e = .returned (.string (text k)) ∧ Below w.heap.size w w' := by
  subst hz
  exact text_any k h1 h2 w
end Go.Proofs.YtlboekimnhgfdaaGreat.Mark

/- What the laws' own helpers do to mark a slice of impl.Label, and to see that the marks are held. -/
namespace Go.Proofs.YtlboekimnhgfdaaGreat.Lab
open Go.RowKit Rw
set_option linter.unusedVariables false
attribute [local go_sem ↓] Go.wp_at_zero Go.wp_at_succ
def markOne (q : Nat) : E := (Mark.text (q), Mark.text (q + 1))
def marks (k0 n : Nat) : List E := (List.range n).map fun i => markOne (k0 + 2 * i)
theorem marks_length (k0 n : Nat) : (marks k0 n).length = n := by simp [marks]
theorem marks_succ (k0 n : Nat) : marks k0 (n + 1) = marks k0 n ++ [markOne (k0 + 2 * n)] := by simp [marks, List.range_succ]
theorem marks_at (k0 n i : Nat) (h : i < n) : at' (marks k0 n) i = markOne (k0 + 2 * i) := by simp [marks, at', List.getD, h]
theorem flat_marks (k0 j : Nat) : flat (marks k0 (j + 1)) = flat (marks k0 j) ++ [.string (Mark.text ((k0 + 2 * j))), .string (Mark.text ((k0 + 2 * j) + 1))] := by rw [marks_succ]; unfold flat; rw [flatOf_append, flatOf_one]; rfl
set_option maxRecDepth 100000 in
set_option maxHeartbeats 2000000 in
theorem mark_some (base g n cap : Nat) (zs : List E) (k0 : Nat) (w : World) (hk1 : 1 ≤ k0) (hk2 : k0 ≤ 500000000000) (hn : n ≤ 8388608) (hz : zs.length = n) (hown : w.ownsRow base 64 2 (.slice (some ⟨g, 0, none⟩) n cap) n (flat zs)) :
    Calls Tryz.prog 49 #[.slice (some ⟨g, 0, none⟩) n cap, .int .i64 k0] w fun e w' => e = .returned (.int .i64 ((k0 + 2 * n : Nat) : Int)) ∧
      w'.ownsRow base 64 2 (.slice (some ⟨g, 0, none⟩) n cap) n (flat (marks k0 n)) ∧ Zone g (g + 1) w w' := by
  have hg0 := own_lt hown
  go_enter Tryz.func49, Tryz.ntmps49
  go_wp2
  go_loopw [1, 5] (fun kv i wr => ∃ (j q : Nat) (r : List Value), j ≤ n ∧ i = .int .i64 j ∧ kv = .int .i64 q ∧ Hid (q = k0 + 2 * j) ∧ r.length = (n - j) * 2 ∧ wr.ownsRow base 64 2 (.slice (some ⟨g, 0, none⟩) n cap) n (flat (marks k0 j) ++ r) ∧ Zone g (g + 1) w wr) (fun _ i _ => n - (intOf i).toNat)
  case atStart => exact ⟨0, k0, flat zs, Nat.zero_le _, rfl, rfl, hide (by omega), by rw [flat_length]; omega, by simpa [marks, flat, flatOf] using hown, Zone.refl _ _ _⟩
  case round =>
    obtain ⟨j, q, r, hj, rfl, rfl, HQ, hrl, ho, hzn⟩ := hrel
    have hsz := own_lt ho
    have hq1 : 1 ≤ q := by have := unhide HQ; omega
    have hq2 : q ≤ 600000000000 := by have := unhide HQ; omega
    by_cases hlt : j < n
    · obtain ⟨u0, u1, L, rfl, hB⟩ := split_e r (n - j - 1) (by rw [hrl]; omega)
      have fln : (flat (marks k0 j)).length = j * 2 := by rw [flat_length, marks_length]
      have h0 : (0 : Int) ≤ (j : Int) := Int.natCast_nonneg _
      have h1 : (j : Int) < (n : Int) := by omega
      have HF := hide fln
      have HE := hide (flat_marks k0 j)
      rw [← unhide HQ] at HE
      clear fln
      go_wp2_with fail
      refine (Mark.text_at (q) _ (by omega) (by omega) (by omega) _).mono ?_
      rintro e w0 ⟨rfl, b0⟩
      have o0 := own_below ho b0
      have y0 := hzn.trans (Zone.of_below b0)
      clear b0 ho hzn
      have hd0 : World.cell? w0 ⟨g, j * 2, none⟩ = some u0 := by rw [o0.cellAt (j * 2) (by omega)]; simp [unhide HF]
      have hf0 := o0.frozenAt (j * 2)
      have p0 := (o0.stored (j * 2) (.string (Mark.text (q)))).1
      have x0 := y0.store (Nat.le_refl g) (Nat.lt_succ_self g) (j * 2) (.string (Mark.text (q)))
      clear o0 y0
      go_wp2_with fail
      refine (Mark.text_at (q + 1) _ (by omega) (by omega) (by omega) _).mono ?_
      rintro e w1 ⟨rfl, b1⟩
      have o1 := own_below p0 b1
      have y1 := x0.trans (Zone.of_below b1)
      clear b1 p0 x0
      have hd1 : World.cell? w1 ⟨g, j * 2 + 1, none⟩ = some u1 := by rw [o1.cellAt (j * 2 + 1) (by omega)]; simp [unhide HF]
      have hf1 := o1.frozenAt (j * 2 + 1)
      have p1 := (o1.stored (j * 2 + 1) (.string (Mark.text (q + 1)))).1
      have x1 := y1.store (Nat.le_refl g) (Nat.lt_succ_self g) (j * 2 + 1) (.string (Mark.text (q + 1)))
      clear o1 y1
      rw [set_e _ _ _ _ _ _ _ (unhide HF)] at p1
      have P := hide p1
      have X := hide x1
      clear p1 x1
      have P' := hide (show World.ownsRow (World.setCell w1 ⟨g, j * 2 + 1, none⟩ (.string (Mark.text (q + 1)))) base 64 2 (.slice (some ⟨g, 0, none⟩) n cap) n (flat (marks k0 (j + 1)) ++ L) by rw [unhide HE]; exact unhide P)
      clear P
      go_wp2_with fail
      go_roundw
      case rel => exact ⟨j + 1, q + 2, L, by omega, by go_num, by go_num, hide (by have := unhide HQ; omega), by omega, unhide P', unhide X⟩
      case measure => simp [intOf]; omega
    · obtain rfl : j = n := by omega
      obtain rfl : r = [] := List.eq_nil_of_length_eq_zero (by rw [hrl]; omega)
      rw [List.append_nil] at ho
      go_wp2
      go_ret
      exact ⟨ret_int (by have := unhide HQ; omega), ho, hzn⟩
theorem mark_nil (k0 : Int) (w : World) : Calls Tryz.prog 49 #[.slice none 0 0, .int .i64 k0] w fun e w' => e = .returned (.int .i64 k0) ∧ w' = w := by
  go_enter Tryz.func49, Tryz.ntmps49
  go_wp2
  refine wp_loop_rounds 1 ?_
  rw [rounds_succ]
  go_wp2
  go_ret
  exact ⟨rfl, rfl⟩
/-- new marks are laid in a row of the call's own; what lies elsewhere is as it was -/
theorem mark_any {base : Nat} {v : Value} {zs : List E} {w : World} (k0 : Nat) (hk1 : 1 ≤ k0) (hk2 : k0 ≤ 500000000000) (hn : zs.length ≤ 8388608) (hown : w.ownsRow base 64 2 v zs.length (flat zs)) {lo hi : Nat} (hin : ∀ k, v.ownBlock = some k → lo ≤ k ∧ k < hi) :
    Calls Tryz.prog 49 #[v, .int .i64 k0] w fun e w' => e = .returned (.int .i64 ((k0 + 2 * zs.length : Nat) : Int)) ∧
      w'.ownsRow base 64 2 v zs.length (flat (marks k0 zs.length)) ∧ Zone lo hi w w' := by
  have hf := hown
  rcases hown.2 with ⟨h1, h2⟩ | ⟨g, cap, cur, h1, h2, hg, _⟩
  · subst h1
    obtain rfl : zs = [] := List.eq_nil_of_length_eq_zero h2
    refine (mark_nil k0 w).mono ?_
    rintro e w' ⟨rfl, rfl⟩
    exact ⟨ret_int (by simp), ⟨rfl, .inl ⟨rfl, rfl⟩⟩, Zone.refl _ _ _⟩
  · subst h1
    refine (mark_some base g zs.length cap zs k0 w hk1 hk2 hn rfl hf).mono ?_
    rintro e w' ⟨rfl, ho, hon⟩
    have := hin g rfl
    exact ⟨rfl, ho, hon.mono (by omega) (by omega)⟩
set_option maxRecDepth 100000 in
set_option maxHeartbeats 2000000 in
theorem held_any {v : Value} {n : Nat} {w : World} (k0 : Nat) (hk1 : 1 ≤ k0) (hk2 : k0 ≤ 500000000000) (hn : n ≤ 8388608) (h : Is w v (marks k0 n)) :
    Calls Tryz.prog 90 #[v, .int .i64 k0] w fun e w' => e = .returned (.int .i64 ((k0 + 2 * n : Nat) : Int)) ∧ Below w.heap.size w w' := by
  obtain ⟨-, a, cap, rfl, hc, hm, -, hr⟩ := h
  rw [marks_length] at hc hr ⊢
  go_enter Tryz.func90, Tryz.ntmps90
  go_wp2
  go_loopw [1, 5] (fun kv i wr => ∃ (j q : Nat), j ≤ n ∧ i = .int .i64 j ∧ kv = .int .i64 q ∧ Hid (q = k0 + 2 * j) ∧ Below w.heap.size w wr) (fun _ i _ => n - (intOf i).toNat)
  case atStart => exact ⟨0, k0, Nat.zero_le _, rfl, rfl, hide (by omega), Below.refl _ _⟩
  case round =>
    obtain ⟨j, q, hj, rfl, rfl, HQ, hbel⟩ := hrel
    have hsz := hbel.size
    have hq1 : 1 ≤ q := by have := unhide HQ; omega
    have hq2 : q ≤ 600000000000 := by have := unhide HQ; omega
    by_cases hlt : j < n
    · obtain ⟨b, off, rfl, hl, hcells⟩ := hr (by omega)
      have fa := flat_at (marks k0 n) j (by rw [marks_length]; exact hlt)
      rw [marks_at k0 n j hlt, ← unhide HQ] at fa
      unfold markOne at fa
      simp only at fa
      have h0 : (0 : Int) ≤ (j : Int) := Int.natCast_nonneg _
      have h1 : (j : Int) < (n : Int) := by omega
      have hc0 : wr.cell? ⟨b, off + j * 2, none⟩ = some (.string (Mark.text (q))) := (hbel.cell (p := ⟨b, _, none⟩) hl).trans (hcells (j * 2) _ fa.1)
      have hc1 : wr.cell? ⟨b, off + j * 2 + 1, none⟩ = some (.string (Mark.text (q + 1))) := (hbel.cell (p := ⟨b, _, none⟩) hl).trans (hcells (j * 2 + 1) _ fa.2)
      clear fa
      have hx0 : ∀ x : Cls wr.heap.size wr, x.val.cell? ⟨b, off + j * 2, none⟩ = some (.string (Mark.text (q))) := fun x => by rw [x.cell (by omega)]; exact hc0
      have ne0 := cls_nonempty wr.heap.size wr
      go_wp2_with fail
      refine region_cls (by kernel_rfl) (by kernel_rfl) ?_
      repeat (go_big_quiet_step ((go_at_call 89; exact cls_call (Nat.le_refl _) (Mark.text_at (q) _ (by omega) (by omega) (by omega) _))))
      refine wpQuiet_nil ?_
      rintro wq0 ⟨⟨W0, hb0⟩, rfl⟩
      try simp only
      clear hx0 ne0
      have zb0 := hb0.size
      have bel0 := hbel.trans (hb0.mono (by omega))
      have hc1 := (hb0.cell (p := ⟨b, off + j * 2 + 1, none⟩) (by show b < _; omega)).trans hc1
      have hx1 : ∀ x : Cls wq0.heap.size wq0, x.val.cell? ⟨b, off + j * 2 + 1, none⟩ = some (.string (Mark.text (q + 1))) := fun x => by rw [x.cell (by omega)]; exact hc1
      have ne1 := cls_nonempty wq0.heap.size wq0
      go_wp2_with fail
      refine region_cls (by kernel_rfl) (by kernel_rfl) ?_
      repeat (go_big_quiet_step ((go_at_call 89; exact cls_call (Nat.le_refl _) (Mark.text_at (q + 1) _ (by omega) (by omega) (by omega) _))))
      refine wpQuiet_nil ?_
      rintro wq1 ⟨⟨W1, hb1⟩, rfl⟩
      try simp only
      clear hx1 ne1
      have zb1 := hb1.size
      have bel1 := bel0.trans (hb1.mono (by omega))
      go_wp2
      go_roundw
      case rel => exact ⟨j + 1, q + 2, by omega, by go_num, by go_num, hide (by have := unhide HQ; omega), bel1⟩
      case measure => simp [intOf]; omega
    · obtain rfl : j = n := by omega
      go_wp2
      go_ret
      exact ⟨ret_int (by have := unhide HQ; omega), hbel⟩
theorem own_marks {base : Nat} {v : Value} {n k0 : Nat} {w : World} (h : w.ownsRow base 64 2 v n (flat (marks k0 n))) : Is w v (marks k0 n) := is_of_own (by rw [marks_length]; exact h)
end Go.Proofs.YtlboekimnhgfdaaGreat.Lab

/- One face for what the laws' helpers do with slices of impl.Label. -/
namespace Go.Proofs.YtlboekimnhgfdaaGreat.Lab
open Go.RowKit Rw
set_option linter.unusedVariables false
/-- a row of its own, in a block from lo on, ahead of hi -/
def Own (lo hi : Nat) (w : World) (v : Value) (zs : List E) : Prop := w.ownsRow lo 64 2 v zs.length (flat zs) ∧ (∀ k, v.ownBlock = some k → k < hi) ∧ hi ≤ w.heap.size
theorem Own.is {lo hi : Nat} {w : World} {v : Value} {zs : List E} (h : Own lo hi w v zs) : Is w v zs := is_of_own h.1
theorem Own.below {lo hi : Nat} {w w' : World} {v : Value} {zs : List E} (h : Own lo hi w v zs) (hb : Below w.heap.size w w') : Own lo hi w' v zs := ⟨own_below h.1 hb, h.2.1, Nat.le_trans h.2.2 hb.size⟩
theorem Own.zone {lo hi a b : Nat} {w w' : World} {v : Value} {zs : List E} (h : Own lo hi w v zs) (hz : Zone a b w w') (ho : hi ≤ a ∨ b ≤ lo) : Own lo hi w' v zs :=
  ⟨hz.own h.1 (fun k hk => by have := h.2.1 k hk; have := own_ge h.1 k hk; omega), h.2.1, Nat.le_trans h.2.2 hz.size⟩
theorem Own.form {lo hi : Nat} {w : World} {v : Value} {zs : List E} (h : Own lo hi w v zs) : ∃ a l q, v = .slice a l q := by
  obtain ⟨-, a, q, e, -⟩ := lies_of_own h.1
  exact ⟨a, _, q, e⟩
theorem Own.of {lo : Nat} {w : World} {v : Value} {zs : List E} (h : w.ownsRow lo 64 2 v zs.length (flat zs)) : Own lo w.heap.size w v zs := ⟨h, own_block_lt h, Nat.le_refl _⟩
theorem eqX {v u : Value} {zs : List E} {w : World} (h : Is w v zs) (h' : Is w u zs) : Calls Tryz.prog 87 #[v, u] w fun e w' => e = .returned (.bool true) ∧ Below w.heap.size w w' := eq_any h h'
theorem toX {w : World} {v : Value} {zs : List E} (h : Is w v zs) (ht : tot zs ≤ 1048576) : Calls Tryz.prog 82 #[v] w fun e w' => ∃ v', e = .returned v' ∧ Own w.heap.size w'.heap.size w' v' zs ∧ Below w.heap.size w w' := by
  refine (to_any h (by have := tot_len zs; omega)).mono ?_
  rintro e w' ⟨rfl, o, b⟩
  exact ⟨_, rfl, Own.of o, b⟩
theorem markA {lo hi : Nat} {v : Value} {zs : List E} {w : World} (k0 : Nat) (hk1 : 1 ≤ k0) (hk2 : k0 ≤ 100000000) (ht : tot zs ≤ 1048576) (h : Own lo hi w v zs) :
    Calls Tryz.prog 49 #[v, .int .i64 k0] w fun e w' => ∃ k : Nat, e = .returned (.int .i64 k) ∧ 1 ≤ k ∧ k ≤ k0 + 4194304 ∧ Zone lo hi w w' := by
  have hl := tot_len zs
  refine (mark_any k0 hk1 (by omega) (by omega) h.1 (lo := lo) (hi := hi) (fun k hk => ⟨own_ge h.1 k hk, h.2.1 k hk⟩)).mono ?_
  rintro e w' ⟨rfl, -, z⟩
  exact ⟨_, rfl, by omega, by omega, z⟩
def cnt (zs : List E) : Nat := 2 * zs.length
def mk (k0 : Nat) (zs : List E) : List E := marks k0 zs.length
theorem mk_length (k0 : Nat) (zs : List E) : (mk k0 zs).length = zs.length := marks_length _ _
theorem markX {lo hi : Nat} {v : Value} {zs : List E} {w : World} (k0 : Nat) (hk1 : 1 ≤ k0) (hk2 : k0 ≤ 100000000) (hc : zs.length ≤ 2097152) (h : Own lo hi w v zs) :
    Calls Tryz.prog 49 #[v, .int .i64 k0] w fun e w' => ∃ k : Nat, e = .returned (.int .i64 k) ∧ k = k0 + cnt zs ∧ Own lo hi w' v (mk k0 zs) ∧ Zone lo hi w w' := by
  refine (mark_any k0 hk1 (by omega) (by omega) h.1 (lo := lo) (hi := hi) (fun k hk => ⟨own_ge h.1 k hk, h.2.1 k hk⟩)).mono ?_
  rintro e w' ⟨rfl, o, z⟩
  exact ⟨_, rfl, rfl, ⟨by rw [mk_length]; exact o, h.2.1, Nat.le_trans h.2.2 z.size⟩, z⟩
theorem heldX {v : Value} {zs : List E} {w : World} (k0 : Nat) (hk1 : 1 ≤ k0) (hk2 : k0 ≤ 100000000) (hc : zs.length ≤ 2097152) (h : Is w v (mk k0 zs)) :
    Calls Tryz.prog 90 #[v, .int .i64 k0] w fun e w' => ∃ k : Nat, e = .returned (.int .i64 k) ∧ k = k0 + cnt zs ∧ Below w.heap.size w w' := by
  refine (held_any k0 hk1 (by omega) (by omega) h).mono ?_
  rintro e w' ⟨rfl, b⟩
  exact ⟨_, rfl, rfl, b⟩
end Go.Proofs.YtlboekimnhgfdaaGreat.Lab

/- What the laws' own helpers do to mark a slice of impl.Sample, and to see that the marks are held. -/
namespace Go.Proofs.YtlboekimnhgfdaaGreat.Sam
open Go.RowKit Rw
set_option linter.unusedVariables false
attribute [local go_sem ↓] Go.wp_at_zero Go.wp_at_succ
def markOne (q : Nat) : E := (((q : Nat) : Int), ((q + 1 : Nat) : Int))
def marks (k0 n : Nat) : List E := (List.range n).map fun i => markOne (k0 + 2 * i)
theorem marks_length (k0 n : Nat) : (marks k0 n).length = n := by simp [marks]
theorem marks_succ (k0 n : Nat) : marks k0 (n + 1) = marks k0 n ++ [markOne (k0 + 2 * n)] := by simp [marks, List.range_succ]
theorem marks_at (k0 n i : Nat) (h : i < n) : at' (marks k0 n) i = markOne (k0 + 2 * i) := by simp [marks, at', List.getD, h]
theorem flat_marks (k0 j : Nat) : flat (marks k0 (j + 1)) = flat (marks k0 j) ++ [.int .i64 (((k0 + 2 * j) : Nat) : Int), .int .i64 (((k0 + 2 * j) + 1 : Nat) : Int)] := by rw [marks_succ]; unfold flat; rw [flatOf_append, flatOf_one]; rfl
set_option maxRecDepth 100000 in
set_option maxHeartbeats 2000000 in
theorem mark_some (base g n cap : Nat) (zs : List E) (k0 : Nat) (w : World) (hk1 : 1 ≤ k0) (hk2 : k0 ≤ 500000000000) (hn : n ≤ 8388608) (hz : zs.length = n) (hown : w.ownsRow base 106 2 (.slice (some ⟨g, 0, none⟩) n cap) n (flat zs)) :
    Calls Tryz.prog 88 #[.slice (some ⟨g, 0, none⟩) n cap, .int .i64 k0] w fun e w' => e = .returned (.int .i64 ((k0 + 2 * n : Nat) : Int)) ∧
      w'.ownsRow base 106 2 (.slice (some ⟨g, 0, none⟩) n cap) n (flat (marks k0 n)) ∧ Zone g (g + 1) w w' := by
  have hg0 := own_lt hown
  go_enter Tryz.func88, Tryz.ntmps88
  go_wp2
  go_loopw [1, 5] (fun kv i wr => ∃ (j q : Nat) (r : List Value), j ≤ n ∧ i = .int .i64 j ∧ kv = .int .i64 q ∧ Hid (q = k0 + 2 * j) ∧ r.length = (n - j) * 2 ∧ wr.ownsRow base 106 2 (.slice (some ⟨g, 0, none⟩) n cap) n (flat (marks k0 j) ++ r) ∧ Zone g (g + 1) w wr) (fun _ i _ => n - (intOf i).toNat)
  case atStart => exact ⟨0, k0, flat zs, Nat.zero_le _, rfl, rfl, hide (by omega), by rw [flat_length]; omega, by simpa [marks, flat, flatOf] using hown, Zone.refl _ _ _⟩
  case round =>
    obtain ⟨j, q, r, hj, rfl, rfl, HQ, hrl, ho, hzn⟩ := hrel
    have hsz := own_lt ho
    have hq1 : 1 ≤ q := by have := unhide HQ; omega
    have hq2 : q ≤ 600000000000 := by have := unhide HQ; omega
    by_cases hlt : j < n
    · obtain ⟨u0, u1, L, rfl, hB⟩ := split_e r (n - j - 1) (by rw [hrl]; omega)
      have fln : (flat (marks k0 j)).length = j * 2 := by rw [flat_length, marks_length]
      have h0 : (0 : Int) ≤ (j : Int) := Int.natCast_nonneg _
      have h1 : (j : Int) < (n : Int) := by omega
      have HF := hide fln
      have HE := hide (flat_marks k0 j)
      rw [← unhide HQ] at HE
      clear fln
      have hd0 : World.cell? wr ⟨g, j * 2, none⟩ = some u0 := by rw [ho.cellAt (j * 2) (by omega)]; simp [unhide HF]
      have hf0 := ho.frozenAt (j * 2)
      have p0 := (ho.stored (j * 2) (.int .i64 ((q : Int)))).1
      have x0 := hzn.store (Nat.le_refl g) (Nat.lt_succ_self g) (j * 2) (.int .i64 ((q : Int)))
      clear ho hzn
      have hd1 : World.cell? (World.setCell wr ⟨g, j * 2, none⟩ (.int .i64 ((q : Int)))) ⟨g, j * 2 + 1, none⟩ = some u1 := by rw [p0.cellAt (j * 2 + 1) (by omega)]; simp [unhide HF]
      have hf1 := p0.frozenAt (j * 2 + 1)
      have p1 := (p0.stored (j * 2 + 1) (.int .i64 ((q : Int) + 1))).1
      have x1 := x0.store (Nat.le_refl g) (Nat.lt_succ_self g) (j * 2 + 1) (.int .i64 ((q : Int) + 1))
      clear p0 x0
      rw [set_e _ _ _ _ _ _ _ (unhide HF)] at p1
      have P := hide p1
      have X := hide x1
      clear p1 x1
      have P' := hide (show World.ownsRow (World.setCell (World.setCell wr ⟨g, j * 2, none⟩ (.int .i64 ((q : Int)))) ⟨g, j * 2 + 1, none⟩ (.int .i64 ((q : Int) + 1))) base 106 2 (.slice (some ⟨g, 0, none⟩) n cap) n (flat (marks k0 (j + 1)) ++ L) by rw [unhide HE]; exact unhide P)
      clear P
      go_wp2_with fail
      go_roundw
      case rel => exact ⟨j + 1, q + 2, L, by omega, by go_num, by go_num, hide (by have := unhide HQ; omega), by omega, unhide P', unhide X⟩
      case measure => simp [intOf]; omega
    · obtain rfl : j = n := by omega
      obtain rfl : r = [] := List.eq_nil_of_length_eq_zero (by rw [hrl]; omega)
      rw [List.append_nil] at ho
      go_wp2
      go_ret
      exact ⟨ret_int (by have := unhide HQ; omega), ho, hzn⟩
theorem mark_nil (k0 : Int) (w : World) : Calls Tryz.prog 88 #[.slice none 0 0, .int .i64 k0] w fun e w' => e = .returned (.int .i64 k0) ∧ w' = w := by
  go_enter Tryz.func88, Tryz.ntmps88
  go_wp2
  refine wp_loop_rounds 1 ?_
  rw [rounds_succ]
  go_wp2
  go_ret
  exact ⟨rfl, rfl⟩
/-- new marks are laid in a row of the call's own; what lies elsewhere is as it was -/
theorem mark_any {base : Nat} {v : Value} {zs : List E} {w : World} (k0 : Nat) (hk1 : 1 ≤ k0) (hk2 : k0 ≤ 500000000000) (hn : zs.length ≤ 8388608) (hown : w.ownsRow base 106 2 v zs.length (flat zs)) {lo hi : Nat} (hin : ∀ k, v.ownBlock = some k → lo ≤ k ∧ k < hi) :
    Calls Tryz.prog 88 #[v, .int .i64 k0] w fun e w' => e = .returned (.int .i64 ((k0 + 2 * zs.length : Nat) : Int)) ∧
      w'.ownsRow base 106 2 v zs.length (flat (marks k0 zs.length)) ∧ Zone lo hi w w' := by
  have hf := hown
  rcases hown.2 with ⟨h1, h2⟩ | ⟨g, cap, cur, h1, h2, hg, _⟩
  · subst h1
    obtain rfl : zs = [] := List.eq_nil_of_length_eq_zero h2
    refine (mark_nil k0 w).mono ?_
    rintro e w' ⟨rfl, rfl⟩
    exact ⟨ret_int (by simp), ⟨rfl, .inl ⟨rfl, rfl⟩⟩, Zone.refl _ _ _⟩
  · subst h1
    refine (mark_some base g zs.length cap zs k0 w hk1 hk2 hn rfl hf).mono ?_
    rintro e w' ⟨rfl, ho, hon⟩
    have := hin g rfl
    exact ⟨rfl, ho, hon.mono (by omega) (by omega)⟩
set_option maxRecDepth 100000 in
set_option maxHeartbeats 2000000 in
theorem held_any {v : Value} {n : Nat} {w : World} (k0 : Nat) (hk1 : 1 ≤ k0) (hk2 : k0 ≤ 500000000000) (hn : n ≤ 8388608) (h : Is w v (marks k0 n)) :
    Calls Tryz.prog 91 #[v, .int .i64 k0] w fun e w' => e = .returned (.int .i64 ((k0 + 2 * n : Nat) : Int)) ∧ Below w.heap.size w w' := by
  obtain ⟨-, a, cap, rfl, hc, hm, -, hr⟩ := h
  rw [marks_length] at hc hr ⊢
  go_enter Tryz.func91, Tryz.ntmps91
  go_wp2
  go_loopw [1, 5] (fun kv i wr => ∃ (j q : Nat), j ≤ n ∧ i = .int .i64 j ∧ kv = .int .i64 q ∧ Hid (q = k0 + 2 * j) ∧ Below w.heap.size w wr) (fun _ i _ => n - (intOf i).toNat)
  case atStart => exact ⟨0, k0, Nat.zero_le _, rfl, rfl, hide (by omega), Below.refl _ _⟩
  case round =>
    obtain ⟨j, q, hj, rfl, rfl, HQ, hbel⟩ := hrel
    have hsz := hbel.size
    have hq1 : 1 ≤ q := by have := unhide HQ; omega
    have hq2 : q ≤ 600000000000 := by have := unhide HQ; omega
    by_cases hlt : j < n
    · obtain ⟨b, off, rfl, hl, hcells⟩ := hr (by omega)
      have fa := flat_at (marks k0 n) j (by rw [marks_length]; exact hlt)
      rw [marks_at k0 n j hlt, ← unhide HQ] at fa
      unfold markOne at fa
      simp only at fa
      have h0 : (0 : Int) ≤ (j : Int) := Int.natCast_nonneg _
      have h1 : (j : Int) < (n : Int) := by omega
      have hc0 : wr.cell? ⟨b, off + j * 2, none⟩ = some (.int .i64 ((q : Int))) := (hbel.cell (p := ⟨b, _, none⟩) hl).trans (hcells (j * 2) _ fa.1)
      have hc1 : wr.cell? ⟨b, off + j * 2 + 1, none⟩ = some (.int .i64 ((q : Int) + 1)) := (hbel.cell (p := ⟨b, _, none⟩) hl).trans (hcells (j * 2 + 1) _ fa.2)
      clear fa
      go_wp2
      go_roundw
      case rel => exact ⟨j + 1, q + 2, by omega, by go_num, by go_num, hide (by have := unhide HQ; omega), hbel⟩
      case measure => simp [intOf]; omega
    · obtain rfl : j = n := by omega
      go_wp2
      go_ret
      exact ⟨ret_int (by have := unhide HQ; omega), hbel⟩
theorem own_marks {base : Nat} {v : Value} {n k0 : Nat} {w : World} (h : w.ownsRow base 106 2 v n (flat (marks k0 n))) : Is w v (marks k0 n) := is_of_own (by rw [marks_length]; exact h)
end Go.Proofs.YtlboekimnhgfdaaGreat.Sam
