/- My own texts of one claim, laid together by program: Let3, Let4, RowAsk2, TabUni. -/
import Derived.Test.YtlboekimnhgfdaaGreatGd47510abb1
import Derived.Test.YtlboekimnhgfdaaGreatG2376b3578a
import Derived.Test.YtlboekimnhgfdaaGreatG4314fff0a5
import Derived.Test.YtlboekimnhgfdaaGreatG64716018ab
/- MatchesLet of the model, at every slice of matches and of labels. -/
namespace Go.Proofs.YtlboekimnhgfdaaGreat.Mat
open Go.RowKit Rw
set_option linter.unusedVariables false
attribute [local go_sem ↓] Go.wp_at_zero Go.wp_at_succ
set_option maxRecDepth 100000 in
set_option maxHeartbeats 4000000 in
theorem l3Let_any {w : World} {v : Value} {ls : List Lab.E} (K : Int) (A B : ByteArray) (h : Lab.Is w v ls) (hg : ∀ x ∈ ls, Lab.good x) (hB : B.size ≤ maxLen) :
    Calls Tryz.prog 137 #[.agg #[.int .i64 K, .string A, .string B], v] w fun e w' => e = .returned (.bool (letB (K, A, B) ls)) ∧ Below w.heap.size w w' := by
  have HU := hide (fun W (hb : Below w.heap.size w W) => l3Word_any A (h.below hb))
  have hXs := wordOf_size hg A
  obtain ⟨av, cv, ev⟩ : ∃ a c, v = .slice a ls.length c := by obtain ⟨-, a, c, e, -⟩ := h; exact ⟨a, c, e⟩
  subst ev
  clear h hg
  obtain ⟨R, hR⟩ : ∃ R, R = letB (K, A, B) ls := ⟨_, rfl⟩
  rw [← hR]
  unfold letB at hR
  simp only at hR
  have HR := hide hR
  clear hR
  generalize wordOf ls A = X at HU HR hXs
  unfold maxLen at hB hXs
  have HPE := hide (prefB_eq X B)
  obtain ⟨W, hW⟩ : ∃ W, W = w.alloc (.cells #[.int .i64 K, .string A, .string B] 86) := ⟨_, rfl⟩
  have hWb : Below w.heap.size w W := by rw [hW]; exact (Below.refl _ _).alloc (Nat.le_refl _) _
  have hWs : W.heap.size = w.heap.size + 1 := by rw [hW]; simp
  have q2 : ∀ x : Cls W.heap.size W, x.val.cell? ⟨w.heap.size, 2, none⟩ = some (.string B) := fun x => by rw [x.cell (by omega), hW]; simp
  have q0 : ∀ x : Cls W.heap.size W, x.val.cell? ⟨w.heap.size, 0, none⟩ = some (.int .i64 K) := fun x => by rw [x.cell (by omega), hW]; simp
  have HW := hide hW
  have HWs := hide hWs
  clear hW hWs
  have hne := cls_nonempty W.heap.size W
  have b0 : (0 : Int) ≤ (B.size : Int) := Int.natCast_nonneg _
  by_cases hlen : B.size ≤ X.size
  · have hge : (B.size : Int) ≤ (X.size : Int) := by omega
    cases hs : sameS (X.extract 0 B.size) B
    · have HPB := hide (show prefB X B = false by rw [unhide HPE, hs, decide_eq_true hlen]; rfl)
      have heq : ∀ W, (binOp .eql 9 (.string (X.extract 0 B.size)) (.string B)).run Tryz.prog W = .ok (.bool false) W := fun W => by rw [run_eqS, hs]
      have heq2 : ((X.extract 0 B.size).toList == B.toList) = false := hs
      clear hs
      go_enter Tryz.func137, Tryz.ntmps137
      go_wp2_with fail
      rw [← unhide HW]
      refine (unhide HU _ hWb).mono ?_
      rintro e w1 ⟨rfl, hw1⟩
      subst hw1
      go_wp2_with fail
      refine region_cls (by kernel_rfl) (by kernel_rfl) ?_
      repeat (go_big_quiet_step (fail))
      refine wpQuiet_nil ?_
      rintro wq ⟨⟨_, hq⟩, rfl⟩
      have k0 : wq.cell? ⟨w.heap.size, 0, none⟩ = some (.int .i64 K) := q0 ⟨wq, hq⟩
      have k2 : wq.cell? ⟨w.heap.size, 2, none⟩ = some (.string B) := q2 ⟨wq, hq⟩
      have cq := hWb.trans (hq.mono hWb.size)
      clear q0 q2 hq hne
      by_cases h1 : K = 1
      · subst h1
        have HF := hide (show R = sameS X B by rw [unhide HR]; rfl)
        go_wp2
        go_ret
        exact ⟨ret_bool (unhide HF).symm, cq⟩
      have e1 : (K == 1) = false := by simpa using h1
      by_cases h2 : K = 2
      · subst h2
        have HF := hide (show R = !sameS X B by rw [unhide HR]; rfl)
        go_wp2
        go_ret
        exact ⟨ret_bool (unhide HF).symm, cq⟩
      have e2 : (K == 2) = false := by simpa using h2
      by_cases h3 : K = 3
      · subst h3
        have HF := hide (show R = false by rw [unhide HR]; exact unhide HPB)
        go_wp2
        go_ret
        exact ⟨ret_bool (unhide HF).symm, cq⟩
      have e3 : (K == 3) = false := by simpa using h3
      have HF := hide (show R = true by rw [unhide HR, if_neg h1, if_neg h2, if_neg h3, unhide HPB]; rfl)
      go_wp2
      go_ret
      exact ⟨ret_bool (unhide HF).symm, cq⟩
    · have HPB := hide (show prefB X B = true by rw [unhide HPE, hs, decide_eq_true hlen]; rfl)
      have heq : ∀ W, (binOp .eql 9 (.string (X.extract 0 B.size)) (.string B)).run Tryz.prog W = .ok (.bool true) W := fun W => by rw [run_eqS, hs]
      have heq2 : ((X.extract 0 B.size).toList == B.toList) = true := hs
      clear hs
      go_enter Tryz.func137, Tryz.ntmps137
      go_wp2_with fail
      rw [← unhide HW]
      refine (unhide HU _ hWb).mono ?_
      rintro e w1 ⟨rfl, hw1⟩
      subst hw1
      go_wp2_with fail
      refine region_cls (by kernel_rfl) (by kernel_rfl) ?_
      repeat (go_big_quiet_step (fail))
      refine wpQuiet_nil ?_
      rintro wq ⟨⟨_, hq⟩, rfl⟩
      have k0 : wq.cell? ⟨w.heap.size, 0, none⟩ = some (.int .i64 K) := q0 ⟨wq, hq⟩
      have k2 : wq.cell? ⟨w.heap.size, 2, none⟩ = some (.string B) := q2 ⟨wq, hq⟩
      have cq := hWb.trans (hq.mono hWb.size)
      clear q0 q2 hq hne
      by_cases h1 : K = 1
      · subst h1
        have HF := hide (show R = sameS X B by rw [unhide HR]; rfl)
        go_wp2
        go_ret
        exact ⟨ret_bool (unhide HF).symm, cq⟩
      have e1 : (K == 1) = false := by simpa using h1
      by_cases h2 : K = 2
      · subst h2
        have HF := hide (show R = !sameS X B by rw [unhide HR]; rfl)
        go_wp2
        go_ret
        exact ⟨ret_bool (unhide HF).symm, cq⟩
      have e2 : (K == 2) = false := by simpa using h2
      by_cases h3 : K = 3
      · subst h3
        have HF := hide (show R = true by rw [unhide HR]; exact unhide HPB)
        go_wp2
        go_ret
        exact ⟨ret_bool (unhide HF).symm, cq⟩
      have e3 : (K == 3) = false := by simpa using h3
      have HF := hide (show R = false by rw [unhide HR, if_neg h1, if_neg h2, if_neg h3, unhide HPB]; rfl)
      go_wp2
      go_ret
      exact ⟨ret_bool (unhide HF).symm, cq⟩
  · have hge : decide ((B.size : Int) ≤ (X.size : Int)) = false := by simp; omega
    have HPB := hide (show prefB X B = false by rw [unhide HPE, decide_eq_false hlen]; rfl)
    go_enter Tryz.func137, Tryz.ntmps137
    go_wp2_with fail
    rw [← unhide HW]
    refine (unhide HU _ hWb).mono ?_
    rintro e w1 ⟨rfl, hw1⟩
    subst hw1
    go_wp2_with fail
    refine region_cls (by kernel_rfl) (by kernel_rfl) ?_
    repeat (go_big_quiet_step (fail))
    refine wpQuiet_nil ?_
    rintro wq ⟨⟨_, hq⟩, rfl⟩
    have k0 : wq.cell? ⟨w.heap.size, 0, none⟩ = some (.int .i64 K) := q0 ⟨wq, hq⟩
    have k2 : wq.cell? ⟨w.heap.size, 2, none⟩ = some (.string B) := q2 ⟨wq, hq⟩
    have cq := hWb.trans (hq.mono hWb.size)
    clear q0 q2 hq hne
    by_cases h1 : K = 1
    · subst h1
      have HF := hide (show R = sameS X B by rw [unhide HR]; rfl)
      go_wp2
      go_ret
      exact ⟨ret_bool (unhide HF).symm, cq⟩
    have e1 : (K == 1) = false := by simpa using h1
    by_cases h2 : K = 2
    · subst h2
      have HF := hide (show R = !sameS X B by rw [unhide HR]; rfl)
      go_wp2
      go_ret
      exact ⟨ret_bool (unhide HF).symm, cq⟩
    have e2 : (K == 2) = false := by simpa using h2
    by_cases h3 : K = 3
    · subst h3
      have HF := hide (show R = false by rw [unhide HR]; exact unhide HPB)
      go_wp2
      go_ret
      exact ⟨ret_bool (unhide HF).symm, cq⟩
    have e3 : (K == 3) = false := by simpa using h3
    have HF := hide (show R = true by rw [unhide HR, if_neg h1, if_neg h2, if_neg h3, unhide HPB]; rfl)
    go_wp2
    go_ret
    exact ⟨ret_bool (unhide HF).symm, cq⟩
end Go.Proofs.YtlboekimnhgfdaaGreat.Mat

/- MatchesLet of the model. -/
namespace Go.Proofs.YtlboekimnhgfdaaGreat.Mat
open Go.RowKit Rw
set_option linter.unusedVariables false
attribute [local go_sem ↓] Go.wp_at_zero Go.wp_at_succ
set_option maxRecDepth 100000 in
set_option maxHeartbeats 2000000 in
theorem l3Lets_any {w : World} {v u : Value} {zs : List E} {ls : List Lab.E} (h : Is w v zs) (h' : Lab.Is w u ls) (hg : ∀ x ∈ zs, good x) (hg' : ∀ x ∈ ls, Lab.good x) :
    Calls Tryz.prog 104 #[v, u] w fun e w' => e = .returned (.bool (lets zs ls)) ∧ Below w.heap.size w w' := by
  have HU := hide (fun K A B (hB : B.size ≤ maxLen) W (hb : Below w.heap.size w W) => l3Let_any K A B (h'.below hb) hg' hB)
  obtain ⟨au, cu, eu⟩ : ∃ a c, u = .slice a ls.length c := by obtain ⟨-, a, c, e, -⟩ := h'; exact ⟨a, c, e⟩
  subst eu
  clear h' hg'
  obtain ⟨-, a, cap, rfl, hc, hm, -, hr⟩ := h
  unfold maxLen at hm
  obtain ⟨n, hn⟩ : ∃ n, n = zs.length := ⟨_, rfl⟩
  rw [← hn] at hc hr ⊢
  have HN := hide hn
  have HG := hide hg
  clear hn hg
  obtain ⟨R, hR⟩ : ∃ R, R = lets zs ls := ⟨_, rfl⟩
  rw [← hR]
  have HML := hide hR
  clear hR
  go_enter Tryz.func104, Tryz.ntmps104
  go_wp2_with fail
  go_loopw [5] (fun i wr => ∃ k : Nat, k ≤ n ∧ i = .int .i64 k ∧ letsTo zs ls k = true ∧ Below w.heap.size w wr) (fun i _ => n - (intOf i).toNat)
  case atStart => exact ⟨0, Nat.zero_le _, rfl, rfl, Below.refl _ _⟩
  case round =>
    obtain ⟨k, hk, rfl, hok, hbel⟩ := hrel
    have HO := hide hok
    clear hok
    have hsz := hbel.size
    by_cases hlt : k < n
    · obtain ⟨b, off, rfl, hl, hcells⟩ := hr (by omega)
      have fa := flat_at zs k (by have := unhide HN; omega)
      have gd := unhide HG (at' zs k) (by rw [at_get zs k (by have := unhide HN; omega)]; exact List.getElem_mem _)
      obtain ⟨KK, A, B, hX⟩ : ∃ K A B, (K, A, B) = at' zs k := ⟨_, _, _, rfl⟩
      rw [← hX] at fa gd
      have hc0 : wr.cell? ⟨b, off + k * 3, none⟩ = some (.int .i64 KK) := (hbel.cell (p := ⟨b, _, none⟩) hl).trans (hcells (k * 3) _ fa.1)
      have hc1 : wr.cell? ⟨b, off + k * 3 + 1, none⟩ = some (.string A) := (hbel.cell (p := ⟨b, _, none⟩) hl).trans (hcells (k * 3 + 1) _ fa.2.1)
      have hc2 : wr.cell? ⟨b, off + k * 3 + 2, none⟩ = some (.string B) := (hbel.cell (p := ⟨b, _, none⟩) hl).trans (hcells (k * 3 + 2) _ fa.2.2)
      have HX := hide hX
      have HL := hide (unhide HU KK A B gd.2.2 wr hbel)
      clear hX fa gd
      have hk0 : (0 : Int) ≤ (k : Int) := Int.natCast_nonneg _
      have hk1 : (k : Int) < (n : Int) := by omega
      cases hq : letB (KK, A, B) ls
      · have HF := hide (show R = false by rw [unhide HML]; exact lets_no zs ls k (by have := unhide HN; omega) (by rw [← unhide HX]; exact hq))
        rw [hq] at HL
        clear hq
        go_wp2_with fail
        refine (unhide HL).mono ?_
        rintro e w2 ⟨rfl, b2⟩
        have c2 := hbel.trans (b2.mono hsz)
        go_wp2_with fail
        go_ret
        exact ⟨ret_bool (unhide HF).symm, c2⟩
      · have HS := hide (show letsTo zs ls (k + 1) = true by rw [letsTo_succ zs ls k (by have := unhide HN; omega), unhide HO, ← unhide HX, hq]; rfl)
        rw [hq] at HL
        clear hq
        go_wp2_with fail
        refine (unhide HL).mono ?_
        rintro e w2 ⟨rfl, b2⟩
        have c2 := hbel.trans (b2.mono hsz)
        go_wp2_with fail
        go_roundw
        case rel => exact ⟨k + 1, by omega, by go_num, unhide HS, c2⟩
        case measure => simp [intOf]; omega
    · have HF := hide (show R = true by rw [unhide HML]; exact lets_all zs ls (by rw [← unhide HN, show n = k from by omega]; exact unhide HO))
      have hkf : decide ((k : Int) < (n : Int)) = false := by simp; omega
      go_wp2_with fail
      go_ret
      exact ⟨ret_bool (unhide HF).symm, hbel⟩
end Go.Proofs.YtlboekimnhgfdaaGreat.Mat

/- RowsAsk of the model. -/
namespace Go.Proofs.YtlboekimnhgfdaaGreat.Row
open Go.RowKit Rw
set_option linter.unusedVariables false
attribute [local go_sem ↓] Go.wp_at_zero Go.wp_at_succ
theorem own_grown {w wn : World} {row : Option Nat} (hg : w.grownBy wn row) {base n size : Nat} {e : TypeId} {v : Value} {xs : List Value} (ho : w.ownsRow base e size v n xs) (hne : ∀ k, v.ownBlock = some k → row ≠ some k) : wn.ownsRow base e size v n xs := by
  refine ⟨ho.1, ?_⟩
  rcases ho.2 with h1 | ⟨c, cap, cur, h1, h2, h3, h4⟩
  · exact .inl h1
  · refine .inr ⟨c, cap, cur, h1, h2, ?_, h4⟩
    rw [hg.block c (own_block_lt ho c (by rw [h1]; rfl)) (fun e => hne c (by rw [h1]; rfl) e.symm)]
    exact h3
theorem at_lt (L : List E) (x : E) (i : Nat) (h : i < L.length) : at' (L ++ [x]) i = at' L i := by simp [at', List.getD, List.getElem?_append_left h]
theorem at_last (L : List E) (x : E) : at' (L ++ [x]) L.length = x := by simp [at', List.getD]
/-- a row more behind rows of the call's own -/
theorem own_snoc {lo : Nat} {w wn : World} {pv vn vl xv : Value} {L : List E} {cs : List C} {x : E} (h1 : cs.length = L.length) (h2 : w.ownsRow lo 93 2 pv L.length (flatOf cl cs)) (h5 : ApartF L.length (fun i => (cat cs i).1)) (h6 : ApartF L.length (fun i => (cat cs i).2))
    (h7 : ∀ i, i < L.length → w.ownsRow lo 64 2 (cat cs i).1 (at' L i).1.length (Lab.flat (at' L i).1) ∧ w.ownsRow lo 106 2 (cat cs i).2 (at' L i).2.length (Sam.flat (at' L i).2))
    (gn : w.grownBy wn pv.ownBlock) (on : wn.ownsRow lo 93 2 vn (L.length + 1) (flatOf cl cs ++ [vl, xv])) (hl : w.ownsRow lo 64 2 vl x.1.length (Lab.flat x.1)) (hx : w.ownsRow lo 106 2 xv x.2.length (Sam.flat x.2))
    (nl : ∀ i, i < L.length → ∀ k, (cat cs i).1.ownBlock = some k → vl.ownBlock ≠ some k) (nx : ∀ i, i < L.length → ∀ k, (cat cs i).2.ownBlock = some k → xv.ownBlock ≠ some k) : Own lo wn.heap.size wn vn (L ++ [x]) := by
  have keepL : ∀ {n v} {xs : List Value}, w.ownsRow lo 64 2 v n xs → wn.ownsRow lo 64 2 v n xs := fun ho => own_grown gn ho (fun k hk e => own_ne_type ho h2 (by decide) k hk e)
  have keepS : ∀ {n v} {xs : List Value}, w.ownsRow lo 106 2 v n xs → wn.ownsRow lo 106 2 v n xs := fun ho => own_grown gn ho (fun k hk e => own_ne_type ho h2 (by decide) k hk e)
  refine ⟨cs ++ [(vl, xv)], by simp [h1], by rw [List.length_append, flatOf_append, flatOf_one]; exact on, own_block_lt on, Nat.le_refl _, by rw [List.length_append]; exact apart_snoc h1 (·.1) h5 nl, by rw [List.length_append]; exact apart_snoc h1 (·.2) h6 nx, fun i hi => ?_⟩
  rw [List.length_append, List.length_cons, List.length_nil] at hi
  by_cases hi' : i < L.length
  · rw [cat_lt _ _ _ (by omega), at_lt _ _ _ hi']
    have := h7 i hi'
    exact ⟨⟨keepL this.1, keepS this.2⟩, own_block_lt (keepL this.1), own_block_lt (keepS this.2)⟩
  · obtain rfl : i = L.length := by omega
    rw [at_last, show cat (cs ++ [(vl, xv)]) L.length = (vl, xv) by rw [← h1]; exact cat_last _ _]
    exact ⟨⟨keepL hl, keepS hx⟩, own_block_lt (keepL hl), own_block_lt (keepS hx)⟩
theorem mlet_is {ms : List Mat.E} {ls : List Lab.E} (h : Mat.ok ms = true) (h' : Lab.ok ls = true) : Mat.mlet ms ls = Mat.lets ms ls := by unfold Mat.mlet; rw [h, h']; rfl
set_option maxRecDepth 100000 in
set_option maxHeartbeats 8000000 in
theorem l5ask {w : World} {v u : Value} {zs : List E} {ms : List Mat.E} (f t : Int) (h : Is w v zs) (hm : Mat.Is w u ms) (hg : ∀ x ∈ zs, good x) (hmg : ∀ x ∈ ms, Mat.good x) (hok : ok zs = true) (hmok : Mat.ok ms = true) :
    Calls Tryz.prog 71 #[v, u, .int .i64 f, .int .i64 t] w fun e w' => ∃ r, e = .returned r ∧ Own w.heap.size w'.heap.size w' r (outL (askG ms f t) zs) ∧ Below w.heap.size w w' := by
  obtain ⟨i0, hi, hz0, hz1, hz2⟩ := info_parts Row.info_e
  obtain ⟨i1, hi1, hy0, hy1, hy2⟩ := info_parts Lab.info_e
  obtain ⟨au, nu, cu, eu⟩ : ∃ a n c, u = .slice a n c := by obtain ⟨-, a, c, e, -⟩ := hm; exact ⟨a, _, c, e⟩
  subst eu
  have HOK := hide hok
  have hn10 := ok_len hok
  have HLet := hide (fun W (hb : Below w.heap.size w W) (lv : Value) (ls : List Lab.E) (hl : Lab.Is W lv ls) (hlg : ∀ x ∈ ls, Lab.good x) => Mat.l3Lets_any (hm.below hb) hl hmg hlg)
  obtain ⟨cs, hcs, hL, hE⟩ := h
  have HE := hide hE
  have HG := hide hg
  have HMO := hide hmok
  obtain ⟨-, a, cap, rfl, hc, hmx, -, hr⟩ := hL
  unfold maxLen at hmx
  obtain ⟨l, hl⟩ : ∃ l, l = zs.length := ⟨_, rfl⟩
  rw [← hl] at hc hr hcs hn10 ⊢
  have HN := hide hl
  have HC := hide hcs
  clear hl hE hcs hg hm hmg hok hmok
  have HI0 := hide (show Own w.heap.size (w.alloc (.cells #[] 93)).heap.size (w.alloc (.cells #[] 93)) (.slice (some ⟨w.heap.size, 0, none⟩) 0 0) (outL (askG ms f t) (zs.take 0)) from ⟨[], rfl, Str.own_empty' (Nat.le_refl _) rfl, own_block_lt (Str.own_empty' (base := w.heap.size) (e := 93) (size := 2) (Nat.le_refl _) rfl), Nat.le_refl _, fun i j _ h => absurd h (Nat.not_lt_zero _), fun i j _ h => absurd h (Nat.not_lt_zero _), fun i h => absurd h (Nat.not_lt_zero _)⟩)
  have B0 : Below w.heap.size w (w.alloc (.cells #[] 93)) := (Below.refl _ _).alloc (Nat.le_refl _) _
  go_enter Tryz.func71, Tryz.ntmps71
  go_wp2_with fail
  go_loopw [9, 10] (fun pv i wr => ∃ (k n : Nat) (pa : Option Addr) (pc : Nat), k ≤ l ∧ i = .int .i64 k ∧ pv = .slice pa n pc ∧ Hid (Own w.heap.size wr.heap.size wr pv (outL (askG ms f t) (zs.take k)) ∧ n = (outL (askG ms f t) (zs.take k)).length ∧ n ≤ k) ∧ Below w.heap.size w wr) (fun _ i _ => l - (intOf i).toNat)
  case atStart => exact ⟨0, 0, _, 0, Nat.zero_le _, rfl, rfl, hide ⟨unhide HI0, rfl, Nat.le_refl _⟩, B0⟩
  case round =>
    clear HI0 B0
    obtain ⟨k, n, pa, pc, hk, rfl, rfl, HO, hbel⟩ := hrel
    have hsz := hbel.size
    by_cases hlt : k < l
    · obtain ⟨b, off, rfl, hbl, hcells⟩ := hr (by omega)
      have fa := flat_at cs k (by have := unhide HC; omega)
      have hc0 : wr.cell? ⟨b, off + k * 2, none⟩ = some (cat cs k).1 := (hbel.cell (p := ⟨b, _, none⟩) hbl).trans (hcells (k * 2) _ fa.1)
      have hc1 : wr.cell? ⟨b, off + k * 2 + 1, none⟩ = some (cat cs k).2 := (hbel.cell (p := ⟨b, _, none⟩) hbl).trans (hcells (k * 2 + 1) _ fa.2)
      have hkz : k < zs.length := by have := unhide HN; omega
      have hEk := unhide HE k hkz
      have hgk := unhide HG (at' zs k) (at_mem zs k hkz)
      have hst := step_is (ok_at (unhide HOK) hkz)
      have hsn := outL_snoc (askG ms f t) zs k hkz
      obtain ⟨⟨ls, xs⟩, hX⟩ : ∃ x, x = at' zs k := ⟨_, rfl⟩
      rw [← hX] at hEk hgk hst hsn
      simp only at hst
      obtain ⟨c0, c1, hY⟩ : ∃ c0 c1, (c0, c1) = cat cs k := ⟨_, _, rfl⟩
      rw [← hY] at hc0 hc1 hEk
      have hE1 : Lab.Is w c0 ls := hEk.1
      have hE2 : Sam.Is w c1 xs := hEk.2
      obtain ⟨-, a0, q0, e0, -⟩ := hE1
      obtain ⟨-, a1, q1, e1, -⟩ := hE2
      have hE1 : Lab.Is w c0 ls := hEk.1
      have hE2 : Sam.Is w c1 xs := hEk.2
      clear fa hEk hX hY
      have hxne : xs ≠ [] := fun e => by rw [e] at hst; simp at hst
      have hk0 : (0 : Int) ≤ (k : Int) := Int.natCast_nonneg _
      have hk1 : (k : Int) < (l : Int) := by omega
      have HL := hide (fun W (hb : Below w.heap.size w W) => unhide HLet W hb c0 ls (hE1.below hb) hgk.1.2)
      rw [← mlet_is (unhide HMO) hst.1] at HL
      have HCut := hide (Samp.l2cut f t (smp_of_lies (hE2.below hbel) hxne) (by omega))
      have hcl : (Samp.cutL xs f t).length ≤ 1000 := Nat.le_trans (List.length_filter_le _ _) hst.2.2.1
      have hsmall := (Lab.ok_small hst.1).1
      have HE1 := hide (fun W (hb : Below w.heap.size w W) => hE1.below hb)
      have hgG : askG ms f t (ls, xs) = if Mat.mlet ms ls = true then Samp.cutL xs f t else [] := rfl
      rw [hgG] at hsn
      obtain ⟨D, hD⟩ : ∃ D, D = Samp.cutL xs f t := ⟨_, rfl⟩
      rw [← hD] at HCut hcl hsn
      simp only [RSet.flat_eq] at HCut
      clear hD
      obtain ⟨m, hm⟩ : ∃ m, m = D.length := ⟨_, rfl⟩
      rw [← hm] at HCut hcl
      have HM := hide hm
      obtain ⟨ll, hll⟩ : ∃ ll, ll = ls.length := ⟨_, rfl⟩
      rw [← hll] at e0 hsmall
      have HLL := hide hll
      clear hm hE1 hE2 hgk hst hxne hgG hll
      subst e0 e1
      go_wp2_with fail
      refine (unhide HCut).mono ?_
      rintro e w2 ⟨xv, rfl, ox, b2⟩
      obtain ⟨xa, xq, rfl⟩ : ∃ a q, xv = .slice a m q := by obtain ⟨-, a, q, e, -⟩ := lies_of_own ox; exact ⟨a, q, e⟩
      have z2 := b2.size
      have hbel2 := hbel.trans (b2.mono hsz)
      have hc0' := (b2.cell (p := ⟨b, off + k * 2, none⟩) (by show b < _; omega)).trans hc0
      have HL2 := hide (unhide HL w2 hbel2)
      clear HCut HL
      go_wp2_with fail
      refine (unhide HL2).mono ?_
      rintro e w3 ⟨rfl, b3⟩
      have z3 := b3.size
      have hbel3 := hbel2.trans (b3.mono (by omega))
      have hc0'' := (b3.cell (p := ⟨b, off + k * 2, none⟩) (by show b < _; omega)).trans hc0'
      have b23 := b2.trans (b3.mono b2.size)
      clear HL2 hc0' hc1
      cases hlet : Mat.mlet ms ls
      · rw [hlet] at hsn
        have HO' := hide (show Own w.heap.size w3.heap.size w3 (.slice pa n pc) (outL (askG ms f t) (zs.take (k + 1))) ∧ n = (outL (askG ms f t) (zs.take (k + 1))).length ∧ n ≤ k + 1 by
          simp only [Bool.false_eq_true, if_false, if_true, List.append_nil] at hsn
          rw [hsn]
          have h1 := unhide HO
          have h2 := h1.1.below b23
          obtain ⟨cs', g1, g2, g3, g4, g5⟩ := h2
          exact ⟨⟨cs', g1, g2, fun k hk => by have := g3 k hk; omega, Nat.le_refl _, g5.1, g5.2.1, fun i hi => ⟨(g5.2.2 i hi).1, fun k hk => by have := (g5.2.2 i hi).2.1 k hk; omega, fun k hk => by have := (g5.2.2 i hi).2.2 k hk; omega⟩⟩, h1.2.1, by omega⟩)
        clear HO hsn hlet
        go_wp2_with fail
        go_roundw
        case rel => exact ⟨k + 1, n, pa, pc, by omega, by go_num, rfl, HO', hbel3⟩
        case measure => simp [intOf]; omega
      · rw [hlet] at hsn
        simp only [if_true] at hsn
        by_cases h0 : m = 0
        · have hDn : D = [] := List.eq_nil_of_length_eq_zero ((unhide HM).symm.trans h0)
          rw [if_pos hDn, List.append_nil] at hsn
          have HO' := hide (show Own w.heap.size w3.heap.size w3 (.slice pa n pc) (outL (askG ms f t) (zs.take (k + 1))) ∧ n = (outL (askG ms f t) (zs.take (k + 1))).length ∧ n ≤ k + 1 by
            rw [hsn]
            have h1 := unhide HO
            have h2 := h1.1.below b23
            obtain ⟨cs', g1, g2, g3, g4, g5⟩ := h2
            exact ⟨⟨cs', g1, g2, fun k hk => by have := g3 k hk; omega, Nat.le_refl _, g5.1, g5.2.1, fun i hi => ⟨(g5.2.2 i hi).1, fun k hk => by have := (g5.2.2 i hi).2.1 k hk; omega, fun k hk => by have := (g5.2.2 i hi).2.2 k hk; omega⟩⟩, h1.2.1, by omega⟩)
          subst h0
          clear HO hsn hlet hDn
          go_wp2_with fail
          go_roundw
          case rel => exact ⟨k + 1, n, pa, pc, by omega, by go_num, rfl, HO', hbel3⟩
          case measure => simp [intOf]; omega
        · rw [if_neg (fun e => h0 (by rw [unhide HM, e]; rfl))] at hsn
          have hgt : 0 < m := by omega
          have hgI : (0 : Int) < (m : Int) := by omega
          obtain ⟨hO1, hO2, hO3⟩ := unhide HO
          obtain ⟨ds, g1, g2, g3, g4, g5, g6, g7⟩ := hO1
          rw [← hO2] at g2
          have G2 := own_below g2 b23
          have HLd := hide (unhide HE1 w3 hbel3)
          have oe : (w3.alloc (.cells #[] 64)).ownsRow w3.heap.size 64 2 (.slice (some ⟨w3.heap.size, 0, none⟩) 0 0) 0 [] := own_empty (Nat.le_refl _)
          have be : Below w3.heap.size w3 (w3.alloc (.cells #[] 64)) := (Below.refl _ _).alloc (Nat.le_refl _) _
          have le : Lies (w3.alloc (.cells #[] 64)) (.slice a0 ll q0) ll 2 (Lab.flat ls) := by have := (unhide HLd).below be; rw [unhide HLL]; rw [unhide HLL] at this; exact this
          have hb3 : b < w3.heap.size := by omega
          have hb3n : ¬ b = w3.heap.size := by omega
          have hc0e : (w3.alloc (.cells #[] 64)).cell? ⟨b, off + k * 2, none⟩ = some (.slice a0 ll q0) := (be.cell (p := ⟨b, _, none⟩) hb3).trans hc0''
          have hmx1 : 1 ≤ maxLen := by unfold maxLen; omega
          have HO1 := hide (And.intro g1 (And.intro g5 (And.intro g6 g7)))
          have HO2 := hide hO2
          have HSn := hide hsn
          have hn10' : n ≤ 10 := by omega
          clear HO g1 g3 g4 g5 g6 g7 hO2 hsn hlet g2
          go_wp2_with (first | (at_builtin; refine app_wp _ rfl (.tmp 40) (.tmp 45) _ rfl w3.heap.size 64 i1 _ 2 32 Tryz.underlying60 hi1 hy0 hy1 hy2 rfl (by omega) _ 0 [] rfl oe _ ll (Lab.flat ls) rfl le (Lab.flat_oneCell _) (by unfold maxLen; omega) (by omega) (by simp) ?_; intro vl wl ol gl al; rw [Nat.zero_add, List.nil_append] at ol; have bl : Below w3.heap.size w3 wl := below_grown be (by simp) gl (fun k hk => by cases hk; exact Nat.le_refl _); obtain ⟨la, lq, rfl⟩ : ∃ a q, vl = .slice a ll q := (by obtain ⟨-, a, q, e, -⟩ := lies_of_own ol; exact ⟨a, q, e⟩); have zl := bl.size; have G2l := own_below G2 bl; clear gl al le be oe) | (at_builtin; refine app_wp _ rfl (.tmp 39) (.tmp 49) _ rfl w.heap.size 93 i0 _ 2 48 Tryz.underlying28 hi hz0 hz1 hz2 rfl (by omega) _ n _ rfl (World.ownsRow.alloc G2l _) _ 1 [.slice la ll lq, .slice xa m xq] rfl (lies_new (w := wl) (by simp) rfl hmx1) (by simp [Value.oneCell']) (by unfold maxLen; omega) (by omega) (by simp; omega) ?_; intro vn wn on gn an))
          have hbl := hbel3.trans (bl.mono (by omega))
          have R9 : Below w.heap.size w wn := below_grown (hbl.alloc (by omega) _) (by simp; omega) gn (own_ge G2)
          have HO' := hide (show Own w.heap.size wn.heap.size wn vn (outL (askG ms f t) (zs.take (k + 1))) ∧ n + 1 = (outL (askG ms f t) (zs.take (k + 1))).length ∧ n + 1 ≤ k + 1 by
            obtain ⟨g1, g5, g6, g7⟩ := unhide HO1
            rw [unhide HSn]
            refine ⟨own_snoc (w := wl.alloc (.cells #[.slice la ll lq, .slice xa m xq] 93)) (pv := .slice pa n pc) (vl := .slice la ll lq) (xv := .slice xa m xq) g1 (by rw [← unhide HO2]; exact World.ownsRow.alloc G2l _) g5 g6 (fun i hi => ⟨World.ownsRow.alloc (own_below (own_below (g7 i hi).1.1 b23) bl) _, World.ownsRow.alloc (own_below (own_below (g7 i hi).1.2 b23) bl) _⟩) gn (by rw [← unhide HO2]; exact on) (by simp only; rw [← unhide HLL]; exact World.ownsRow.alloc (own_mono ol (by omega)) _) (by simp only; rw [← unhide HM]; exact World.ownsRow.alloc (own_below (own_below (own_mono ox (by omega)) b3) bl) _) (fun i hi k hk hk' => by have h1 := own_block_lt (g7 i hi).1.1 k hk; have h2 := own_ge ol k hk'; omega) (fun i hi k hk hk' => by have h1 := own_block_lt (g7 i hi).1.2 k hk; have h2 := own_ge ox k hk'; omega), by rw [List.length_append, ← unhide HO2]; rfl, by omega⟩)
          obtain ⟨an', cn, hvn⟩ : ∃ a c, vn = .slice a (n + 1) c := by obtain ⟨-, a, c, e, -⟩ := lies_of_own on; exact ⟨a, c, e⟩
          have HV := hide hvn
          clear on gn an hvn ol ox G2 G2l HO1 HO2 HSn bl hbl
          go_wp2_with fail
          go_roundw
          case rel => exact ⟨k + 1, n + 1, an', cn, by omega, by go_num, unhide HV, HO', R9⟩
          case measure => simp [intOf]; omega
    · obtain rfl : k = l := by omega
      have HO' := hide (show Own w.heap.size wr.heap.size wr (.slice pa n pc) (outL (askG ms f t) zs) by have := (unhide HO).1; rwa [List.take_of_length_le (by have := unhide HN; omega)] at this)
      clear HO
      go_wp2
      go_ret
      exact ⟨_, rfl, unhide HO', hbel⟩
end Go.Proofs.YtlboekimnhgfdaaGreat.Row

/- What the laws' helpers do with a table whose rows are the call's own; TableAsk of the program and of the model. -/
namespace Go.Proofs.YtlboekimnhgfdaaGreat.Row
open Go.RowKit Rw
theorem Own.wide {lo hi lo' hi' : Nat} {w : World} {v : Value} {zs : List E} (h : Own lo hi w v zs) (h1 : lo' ≤ lo) (h2 : hi ≤ hi') (h3 : hi' ≤ w.heap.size) : Own lo' hi' w v zs := by
  obtain ⟨cs, g1, g2, g3, g4, g5, g6, g7⟩ := h
  exact ⟨cs, g1, own_mono g2 h1, fun k hk => by have := g3 k hk; omega, h3, g5, g6, fun i hi => ⟨⟨own_mono (g7 i hi).1.1 h1, own_mono (g7 i hi).1.2 h1⟩, fun k hk => by have := (g7 i hi).2.1 k hk; omega, fun k hk => by have := (g7 i hi).2.2 k hk; omega⟩⟩
end Go.Proofs.YtlboekimnhgfdaaGreat.Row
namespace Go.Proofs.YtlboekimnhgfdaaGreat.Tab
open Go.RowKit Rw
set_option linter.unusedVariables false
attribute [local go_sem ↓] Go.wp_at_zero Go.wp_at_succ
set_option maxHeartbeats 4000000 in
theorem toX {v : Value} {zs : List Row.E} (N1 N2 : Int) {w : World} (h : Row.Is w v zs) (ht : Row.tot zs ≤ 1048576) : Calls Tryz.prog 13 #[.agg #[v, .int .i64 N1, .int .i64 N2]] w fun e w' => ∃ r, e = .returned (.agg #[r, .int .i64 N1, .int .i64 N2]) ∧ Row.Own w.heap.size w'.heap.size w' r zs ∧ Below w.heap.size w w' := by
  have T0 := hide (fun W (hb : Below w.heap.size w W) => Row.toX (h.below hb) ht)
  clear h ht
  have B := (((Below.refl w.heap.size w).alloc (Nat.le_refl _) (.cells #[v, .int .i64 N1, .int .i64 N2] 24)).alloc (by simp) (.cells #[.slice none 0 0, .int .i64 0, .int .i64 0] 30)).alloc (by simp; omega) (.cells #[.slice none 0 0, .int .i64 0, .int .i64 0] 30)
  go_enter Tryz.func13, Tryz.ntmps13
  go_wp2_with fail
  refine (unhide T0 _ B).mono ?_
  rintro e v0 ⟨r, rfl, o0, b0⟩
  obtain ⟨ra, rl, rq, rfl⟩ := Row.Own.form o0
  obtain ⟨bc0, bf0⟩ := bcell b0
  have z0 := b0.size
  have B0 := B.trans (b0.mono B.size)
  simp only [World.size_alloc] at z0 bc0 bf0 o0 ⊢
  clear b0
  have I := hide o0
  clear o0
  have Bs0 := B0.setCell (p := ⟨w.heap.size + 1 + 1, 0, none⟩) (by show w.heap.size ≤ w.heap.size + 1 + 1; omega) (.slice ra rl rq)
  have I0 := hide ((unhide I).zone (Zone.of_only ((OnlyAt.refl (w.heap.size + 1 + 1) _).setCell 0 (.slice ra rl rq)) (Nat.le_refl _) (Nat.lt_succ_self _)) (.inr (by omega)))
  have Bs1 := Bs0.setCell (p := ⟨w.heap.size + 1 + 1, 1, none⟩) (by show w.heap.size ≤ w.heap.size + 1 + 1; omega) (.int .i64 N1)
  have I1 := hide ((unhide I0).zone (Zone.of_only ((OnlyAt.refl (w.heap.size + 1 + 1) _).setCell 1 (.int .i64 N1)) (Nat.le_refl _) (Nat.lt_succ_self _)) (.inr (by omega)))
  have Bs2 := Bs1.setCell (p := ⟨w.heap.size + 1 + 1, 2, none⟩) (by show w.heap.size ≤ w.heap.size + 1 + 1; omega) (.int .i64 N2)
  have I2 := hide ((unhide I1).zone (Zone.of_only ((OnlyAt.refl (w.heap.size + 1 + 1) _).setCell 2 (.int .i64 N2)) (Nat.le_refl _) (Nat.lt_succ_self _)) (.inr (by omega)))
  have Br0 := Bs2.setCell (p := ⟨w.heap.size + 1, 0, none⟩) (by show w.heap.size ≤ w.heap.size + 1; omega) (.slice ra rl rq)
  have I3 := hide ((unhide I2).zone (Zone.of_only ((OnlyAt.refl (w.heap.size + 1) _).setCell 0 (.slice ra rl rq)) (Nat.le_refl _) (Nat.lt_succ_self _)) (.inr (by omega)))
  have Br1 := Br0.setCell (p := ⟨w.heap.size + 1, 1, none⟩) (by show w.heap.size ≤ w.heap.size + 1; omega) (.int .i64 N1)
  have I4 := hide ((unhide I3).zone (Zone.of_only ((OnlyAt.refl (w.heap.size + 1) _).setCell 1 (.int .i64 N1)) (Nat.le_refl _) (Nat.lt_succ_self _)) (.inr (by omega)))
  have Br2 := Br1.setCell (p := ⟨w.heap.size + 1, 2, none⟩) (by show w.heap.size ≤ w.heap.size + 1; omega) (.int .i64 N2)
  have I5 := hide ((unhide I4).zone (Zone.of_only ((OnlyAt.refl (w.heap.size + 1) _).setCell 2 (.int .i64 N2)) (Nat.le_refl _) (Nat.lt_succ_self _)) (.inr (by omega)))
  clear B0 Bs0 Bs1 Bs2 Br0 Br1 I I0 I1 I2 I3 I4
  go_wp2
  refine bodyPost_ret (v := .agg #[.slice ra rl rq, .int .i64 N1, .int .i64 N2]) (by simp [results, Tryz.results13, go_sem, bc0]) rfl ⟨.slice ra rl rq, rfl, (unhide I5).wide (by omega) (by simp) (Nat.le_refl _), Br2⟩
theorem eqX {v u : Value} {zs : List Row.E} {N1 N2 : Int} {w : World} (h : Row.Is w v zs) (h' : Row.Is w u zs) : Calls Tryz.prog 16 #[.agg #[v, .int .i64 N1, .int .i64 N2], .agg #[u, .int .i64 N1, .int .i64 N2]] w fun e w' => e = .returned (.bool true) ∧ Below w.heap.size w w' :=
  eq_one (c := (v, .int .i64 N1, .int .i64 N2)) (d := (u, .int .i64 N1, .int .i64 N2)) (x := (zs, N1, N2)) ⟨h, rfl, rfl⟩ ⟨h', rfl, rfl⟩
theorem szX {v : Value} {zs : List Row.E} {N1 N2 : Int} {w : World} (left : Int) (h : Row.Is w v zs) (hg : good (zs, N1, N2)) (h0 : 0 ≤ left) (h1 : left ≤ 1048576) : Calls Tryz.prog 10 #[.agg #[v, .int .i64 N1, .int .i64 N2], .int .i64 left] w fun e w' => e = .returned (.int .i64 (if left - (Row.tot zs : Int) < 0 then -1 else left - (Row.tot zs : Int))) ∧ Below w.heap.size w w' :=
  sz_one (c := (v, .int .i64 N1, .int .i64 N2)) (x := (zs, N1, N2)) left ⟨h, rfl, rfl⟩ hg h0 h1
theorem markA {lo hi : Nat} {v : Value} {zs : List Row.E} {N1 N2 : Int} {w : World} (k0 : Nat) (hk1 : 1 ≤ k0) (hk2 : k0 ≤ 100000000) (ht : Row.tot zs ≤ 1048576) (h : Row.Own lo hi w v zs) :
    Calls Tryz.prog 18 #[.agg #[v, .int .i64 N1, .int .i64 N2], .int .i64 k0] w fun e w' => ∃ k : Nat, e = .returned (.int .i64 k) ∧ 1 ≤ k ∧ k ≤ k0 + 4194304 ∧ Zone lo hi w w' := by
  obtain ⟨ra, rl, rq, rfl⟩ := Row.Own.form h
  have b : Below w.heap.size w (w.alloc (.cells #[.slice ra rl rq, .int .i64 N1, .int .i64 N2] 30)) := (Below.refl _ _).alloc (Nat.le_refl _) _
  have H := hide (Row.markA k0 hk1 hk2 ht (h.below b))
  have zb : Zone lo hi w (w.alloc (.cells #[.slice ra rl rq, .int .i64 N1, .int .i64 N2] 30)) := Zone.of_below b
  clear h ht b
  go_enter Tryz.func18, Tryz.ntmps18
  go_wp2_with fail
  refine (unhide H).mono ?_
  rintro e v0 ⟨k, rfl, h1, h2, z⟩
  go_wp2_with fail
  go_ret
  exact ⟨k, rfl, h1, h2, zb.trans z⟩
def ask (ms : List Mat.E) (f t : Int) (zs : List Row.E) (H F : Int) : List Row.E := if Row.tableB zs H F = true then Row.ask ms f t zs else []
set_option maxHeartbeats 4000000 in
theorem impl_ask {w : World} {v u : Value} {zs : List Row.E} {ms : List Mat.E} (f t H F : Int) (h : Row.Is w v zs) (hm : Mat.Is w u ms) (hg : ∀ x ∈ zs, Row.good x) (hlen : zs.length ≤ maxLen) (hmg : ∀ x ∈ ms, Mat.good x) (hml : ms.length ≤ maxLen) :
    Calls Tryz.prog 27 #[.agg #[v, .int .i64 H, .int .i64 F], u, .int .i64 f, .int .i64 t] w fun e w' => ∃ r, e = .returned r ∧ Row.Own w.heap.size w'.heap.size w' r (ask ms f t zs H F) ∧ Below w.heap.size w w' := by
  have H1 := hide (fun W (hb : Below w.heap.size w W) => Row.impl_table (H := H) (F := F) (h.below hb) hg hlen)
  have H2 := hide (fun W (hb : Below w.heap.size w W) => Row.impl_ask f t (h.below hb) (hm.below hb) hg hlen hmg hml)
  obtain ⟨av, nv, cv, ev⟩ : ∃ a n c, v = .slice a n c := by obtain ⟨cs, -, hL, -⟩ := h; obtain ⟨-, a, c, e, -⟩ := hL; exact ⟨a, _, c, e⟩
  obtain ⟨au, nu, cu, eu⟩ : ∃ a n c, u = .slice a n c := by obtain ⟨-, a, c, e, -⟩ := hm; exact ⟨a, _, c, e⟩
  clear h hm hg hlen hmg hml
  subst ev eu
  have b0 : Below w.heap.size w (w.alloc (.cells #[.slice av nv cv, .int .i64 H, .int .i64 F] 30)) := (Below.refl _ _).alloc (Nat.le_refl _) _
  cases ho : Row.tableB zs H F
  · have HR := hide (show ask ms f t zs H F = [] by unfold ask; rw [ho]; rfl)
    rw [ho] at H1
    clear ho
    go_enter Tryz.func27, Tryz.ntmps27
    go_wp2_with fail
    refine (unhide H1 _ b0).mono ?_
    rintro e w1 ⟨rfl, b1⟩
    have b01 := b0.trans (b1.mono b0.size)
    go_wp2_with fail
    go_ret
    exact ⟨_, rfl, by rw [unhide HR]; have := Row.own_nil w.heap.size w1; exact this, b01⟩
  · have HR := hide (show ask ms f t zs H F = Row.ask ms f t zs by unfold ask; rw [ho]; rfl)
    rw [ho] at H1
    clear ho
    go_enter Tryz.func27, Tryz.ntmps27
    go_wp2_with fail
    refine (unhide H1 _ b0).mono ?_
    rintro e w1 ⟨rfl, b1⟩
    have b01 := b0.trans (b1.mono b0.size)
    obtain ⟨bc, bf⟩ := bcell b1
    simp only [World.size_alloc] at bc bf
    go_wp2_with fail
    refine (unhide H2 _ b01).mono ?_
    rintro e w2 ⟨r, rfl, o2, b2⟩
    have b02 := b01.trans (b2.mono b01.size)
    have O2 := hide (show Row.Own w.heap.size w2.heap.size w2 r (ask ms f t zs H F) by rw [unhide HR]; exact o2.wide b01.size (Nat.le_refl _) (Nat.le_refl _))
    clear o2 b2
    go_wp2_with fail
    go_ret
    exact ⟨r, rfl, unhide O2, b02⟩
theorem table_ok {zs : List Row.E} {H F : Int} (h : Row.tableB zs H F = true) : Row.ok zs = true := by
  unfold Row.tableB at h
  simp only [Bool.and_eq_true] at h
  exact h.1.2
set_option maxHeartbeats 4000000 in
theorem spec_ask {w : World} {v u : Value} {zs : List Row.E} {ms : List Mat.E} (f t H F : Int) (h : Row.Is w v zs) (hm : Mat.Is w u ms) (hg : ∀ x ∈ zs, Row.good x) (hlen : zs.length ≤ maxLen) (hmg : ∀ x ∈ ms, Mat.good x) (hml : ms.length ≤ maxLen) :
    Calls Tryz.prog 32 #[.agg #[v, .int .i64 H, .int .i64 F], u, .int .i64 f, .int .i64 t] w fun e w' => ∃ r, e = .returned r ∧ Row.Own w.heap.size w'.heap.size w' r (ask ms f t zs H F) ∧ Below w.heap.size w w' := by
  have H1 := hide (fun W (hb : Below w.heap.size w W) => Row.spec_table (H := H) (F := F) (h.below hb) hg hlen)
  have H2 := hide (fun W (hb : Below w.heap.size w W) => Mat.spec_ok (hm.below hb) hmg hml)
  have H3 := hide (fun W (hb : Below w.heap.size w W) (ho : Row.ok zs = true) (hmo : Mat.ok ms = true) => Row.l5ask f t (h.below hb) (hm.below hb) hg hmg ho hmo)
  obtain ⟨av, nv, cv, ev⟩ : ∃ a n c, v = .slice a n c := by obtain ⟨cs, -, hL, -⟩ := h; obtain ⟨-, a, c, e, -⟩ := hL; exact ⟨a, _, c, e⟩
  obtain ⟨au, nu, cu, eu⟩ : ∃ a n c, u = .slice a n c := by obtain ⟨-, a, c, e, -⟩ := hm; exact ⟨a, _, c, e⟩
  clear h hm hg hlen hmg hml
  subst ev eu
  have b0 : Below w.heap.size w (w.alloc (.cells #[.slice av nv cv, .int .i64 H, .int .i64 F] 30)) := (Below.refl _ _).alloc (Nat.le_refl _) _
  have HEm := hide (fun (w1 : World) (b1 : Below w.heap.size w w1) => show Row.Own w.heap.size (w1.alloc (.cells #[] 93)).heap.size (w1.alloc (.cells #[] 93)) (.slice (some ⟨w1.heap.size, 0, none⟩) 0 0) [] from ⟨[], rfl, own_empty b1.size, own_block_lt (own_empty (base := w.heap.size) (e := 93) (size := 2) b1.size), Nat.le_refl _, fun i j _ h => absurd h (Nat.not_lt_zero _), fun i j _ h => absurd h (Nat.not_lt_zero _), fun i h => absurd h (Nat.not_lt_zero _)⟩)
  cases ho : Row.tableB zs H F
  · have HR := hide (show ask ms f t zs H F = [] by unfold ask; rw [ho]; rfl)
    rw [ho] at H1
    clear ho H3
    go_enter Tryz.func32, Tryz.ntmps32
    go_wp2_with fail
    refine (unhide H1 _ b0).mono ?_
    rintro e w1 ⟨rfl, b1⟩
    have b01 := b0.trans (b1.mono b0.size)
    have he := hide (unhide HEm w1 b01)
    have b3 := b01.alloc b01.size (.cells #[] 93)
    clear HEm
    go_wp2_with fail
    go_ret
    exact ⟨_, rfl, by rw [unhide HR]; exact unhide he, b3⟩
  have hrk := table_ok ho
  cases hmo : Mat.ok ms
  · have HR := hide (show ask ms f t zs H F = [] by
      unfold ask Row.ask
      rw [ho, hrk]
      simp only [if_true]
      unfold Row.outL
      rw [List.flatMap_eq_nil_iff]
      intro x _
      rw [if_pos (show Row.askG ms f t x = [] by unfold Row.askG Mat.mlet; rw [hmo]; rfl)])
    rw [ho] at H1
    rw [hmo] at H2
    clear ho H3 hmo hrk
    go_enter Tryz.func32, Tryz.ntmps32
    go_wp2_with fail
    refine (unhide H1 _ b0).mono ?_
    rintro e w1 ⟨rfl, b1⟩
    have b01 := b0.trans (b1.mono b0.size)
    go_wp2_with fail
    refine (unhide H2 w1 b01).mono ?_
    rintro e w2 ⟨rfl, b2⟩
    have b02 := b01.trans (b2.mono b01.size)
    have he := hide (unhide HEm w2 b02)
    have b3 := b02.alloc b02.size (.cells #[] 93)
    clear HEm
    go_wp2_with fail
    go_ret
    exact ⟨_, rfl, by rw [unhide HR]; exact unhide he, b3⟩
  · have HR := hide (show ask ms f t zs H F = Row.outL (Row.askG ms f t) zs by unfold ask Row.ask; rw [ho, hrk]; rfl)
    have H4 := hide (fun W hb => unhide H3 W hb hrk hmo)
    rw [ho] at H1
    rw [hmo] at H2
    clear ho H3 hmo hrk HEm
    go_enter Tryz.func32, Tryz.ntmps32
    go_wp2_with fail
    refine (unhide H1 _ b0).mono ?_
    rintro e w1 ⟨rfl, b1⟩
    have b01 := b0.trans (b1.mono b0.size)
    obtain ⟨bc, bf⟩ := bcell b1
    simp only [World.size_alloc] at bc bf
    have z1 := b1.size
    simp only [World.size_alloc] at z1
    go_wp2_with fail
    refine (unhide H2 w1 b01).mono ?_
    rintro e w2 ⟨rfl, b2⟩
    have b02 := b01.trans (b2.mono b01.size)
    have hcv : w2.cell? ⟨w.heap.size, 0, none⟩ = some (.slice av nv cv) := (b2.cell (p := ⟨w.heap.size, 0, none⟩) (by show w.heap.size < _; omega)).trans ((bc _ _ (by omega)).trans (by simp [go_sem]))
    clear bc bf
    go_wp2_with fail
    refine (unhide H4 _ b02).mono ?_
    rintro e w3 ⟨r, rfl, o3, b3⟩
    have b03 := b02.trans (b3.mono b02.size)
    have O3 := hide (show Row.Own w.heap.size w3.heap.size w3 r (ask ms f t zs H F) by rw [unhide HR]; exact o3.wide b02.size (Nat.le_refl _) (Nat.le_refl _))
    clear o3 b3
    go_wp2_with fail
    go_ret
    exact ⟨r, rfl, unhide O3, b03⟩
end Go.Proofs.YtlboekimnhgfdaaGreat.Tab
