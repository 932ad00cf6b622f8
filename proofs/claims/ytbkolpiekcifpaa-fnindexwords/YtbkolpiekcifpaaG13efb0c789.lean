/- My own texts of one claim, laid together by program: IdxWords, GReg. -/
import Derived.Test.YtbkolpiekcifpaaG920ab0f5d7
import Derived.Test.YtbkolpiekcifpaaGbac96fcef0
import Derived.Test.YtbkolpiekcifpaaG7bed53e9b8
import Derived.Test.YtbkolpiekcifpaaG62a06868fc
import Derived.Deep.RegionHeld3
/- IndexWords, of the program and of the model. -/
namespace Go.Proofs.Ytbkolpiekcifpaa.Lss
open Go.RowKit Rw
set_option linter.unusedVariables false
attribute [local go_sem ↓] Go.wp_at_zero Go.wp_at_succ
theorem neq_empty (X : ByteArray) (W : World) : (binOp .neq 9 (.string X) (.string ⟨#[]⟩)).run Try.prog W = .ok (.bool !(X.toList == ByteArray.toList ⟨#[]⟩)) W := rfl
theorem beq_empty {X : ByteArray} (h : X.size = 0) : (X.toList == ByteArray.toList ⟨#[]⟩) = true := by
  have : X = ⟨#[]⟩ := (Lab.empty_iff X).2 h
  rw [this]; exact beq_self_eq_true _
theorem is_empty {X : ByteArray} (h : X.size = 0) : X.toList.isEmpty = true := by
  have : X = ByteArray.empty := (Lab.empty_iff X).2 h
  rw [this, ByteArray.toList_eq]; rfl
theorem beq_full {X : ByteArray} (h : X.size ≠ 0) : (X.toList == ByteArray.toList ⟨#[]⟩) = false := Str.beq_no (fun e => h (by rw [e]; rfl))
set_option maxRecDepth 100000 in
set_option maxHeartbeats 4000000 in
theorem impl_words {w : World} {v u : Value} {zs : List E} {ms : List Mat.E} (nm : ByteArray) (h : Is w v zs) (h' : Mat.Is w u ms) (hg : ∀ x ∈ zs, good x) (hg' : ∀ x ∈ ms, Mat.good x) (hz : ms.length ≤ maxLen) :
    Calls Try.prog 21 #[v, .string nm, u] w fun e w' => ∃ r, e = .returned r ∧ w'.ownsRow w.heap.size 9 1 r (words ms zs nm).length (Str.flat (words ms zs nm)) ∧ Below w.heap.size w w' := by
  have HF := hide (impl_find h h' hg hg' hz)
  obtain ⟨cs, hcs, hL, hE⟩ := h
  have HE := hide hE
  obtain ⟨-, a, cap, rfl, hc, hm, -, hr⟩ := hL
  unfold maxLen at hm
  obtain ⟨n, hn⟩ : ∃ n, n = zs.length := ⟨_, rfl⟩
  rw [← hn] at hc hr hcs HF ⊢
  have HN := hide hn
  have HC := hide hcs
  obtain ⟨ua, ul, uq, rfl⟩ : ∃ a l q, u = .slice a l q := by obtain ⟨-, a, q, e, -⟩ := h'; exact ⟨a, _, q, e⟩
  clear hn hE hcs hg hg' h' hz
  obtain ⟨fs, hfs⟩ : ∃ fs, fs = find ms zs := ⟨_, rfl⟩
  have HFA := hide (fun (j : Nat) (hj : j < fs.length) => (show ∃ i : Nat, i < zs.length ∧ ListMath.at' fs j = (i : Int) ∧ allOk zs = true by rw [hfs] at hj ⊢; exact find_at hj))
  have HFL := hide (show fs.length ≤ 40 by rw [hfs]; exact find_len ms zs)
  have HFS := hide (show words ms zs nm = fs.foldl (addW zs nm) [] by rw [hfs]; rfl)
  rw [← hfs] at HF
  clear hfs
  go_enter Try.func21, Try.ntmps21
  go_wp2_with fail
  refine (unhide HF).mono ?_
  rintro e w1 ⟨fv, rfl, of1, b1⟩
  clear HF
  have hfI : Ints.Is w1 fv fs := Ints.is_of_own of1
  obtain ⟨-, fa, fq, rfl, hfc, hfm, -, hfr⟩ := hfI
  clear of1
  obtain ⟨N, hN⟩ : ∃ N, N = fs.length := ⟨_, rfl⟩
  rw [← hN] at hfc hfr HFL ⊢
  have HNN := hide hN
  clear hN
  have hN40 := unhide HFL
  have z1 := b1.size
  go_wp2_with fail
  go_loopw [7, 15] (fun ov i wr => ∃ k : Nat, k ≤ N ∧ i = .int .i64 k ∧ (∃ a l q, ov = .slice a l q) ∧ wr.ownsRow w.heap.size 9 1 ov ((fs.take k).foldl (addW zs nm) []).length (Str.flat ((fs.take k).foldl (addW zs nm) [])) ∧ Below w1.heap.size w1 wr) (fun _ i _ => N - (intOf i).toNat)
  case atStart => exact ⟨0, Nat.zero_le _, rfl, ⟨_, _, _, rfl⟩, World.ownsRow_nil _ _ _ _, Below.refl _ _⟩
  case round =>
    obtain ⟨k, hk, rfl, ⟨oa, ol, oq, rfl⟩, hown, hbel⟩ := hrel
    have hsz := hbel.size
    have hk0 : (0 : Int) ≤ (k : Int) := Int.natCast_nonneg _
    by_cases hlt : k < N
    · obtain ⟨fb, foff, rfl, hfl, hfcells⟩ := hfr (by omega)
      obtain ⟨i, hi, hie, hA⟩ := unhide HFA k (by have := unhide HNN; omega)
      have hfc0 : wr.cell? ⟨fb, foff + k, none⟩ = some (.int .i64 (i : Int)) := by
        have := hfcells k _ (Ints.flat_get fs k (by have := unhide HNN; omega))
        rw [hie] at this
        exact (hbel.cell (p := ⟨fb, _, none⟩) hfl).trans this
      rw [← unhide HN] at hi
      obtain ⟨b, off, rfl, hl, hcells⟩ := hr (by omega)
      have fa := flat_at cs i (by have := unhide HC; omega)
      have cW : Below w.heap.size w wr := b1.trans (hbel.mono z1)
      have hc0 : wr.cell? ⟨b, off + i, none⟩ = some (cat cs i) := (cW.cell (p := ⟨b, _, none⟩) hl).trans (hcells i _ fa)
      have hi0 : (0 : Int) ≤ (i : Int) := Int.natCast_nonneg _
      have hi1 : (i : Int) < (n : Int) := by omega
      have hk1 : (k : Int) < (N : Int) := by omega
      have HW := hide (Mat.wordUnder_any nm ((unhide HE i (by have := unhide HN; omega)).below cW))
      have HSm := hide (word_small nm (allOk_at hA (by have := unhide HN; omega : i < zs.length)))
      have HTk := hide (show (fs.take (k + 1)).foldl (addW zs nm) [] = addW zs nm ((fs.take k).foldl (addW zs nm) []) (i : Int) by rw [ListMath.at_snoc fs k (by have := unhide HNN; omega), List.foldl_append, hie]; rfl)
      have HAl := hide (fold_len zs nm (fs.take k) [])
      obtain ⟨X, hX⟩ : ∃ X, X = Mat.wordOf (at' zs i) nm := ⟨_, rfl⟩
      rw [← hX] at HW HSm
      obtain ⟨c0, hC⟩ : ∃ c0, c0 = cat cs i := ⟨_, rfl⟩
      rw [← hC] at hc0 HW
      have HX := hide hX
      clear hX hC fa hie hA hfcells hcells
      obtain ⟨acc, hacc⟩ : ∃ acc, acc = (fs.take k).foldl (addW zs nm) [] := ⟨_, rfl⟩
      rw [← hacc] at hown HTk HAl
      have hal : acc.length ≤ 40 := by have h1 := unhide HAl; rw [List.length_take] at h1; simp only [List.length_nil] at h1; omega
      clear hacc HAl
      by_cases hx : X.size = 0
      · have l1 := is_empty hx
        have HS := hide (show (fs.take (k + 1)).foldl (addW zs nm) [] = acc by rw [unhide HTk]; exact addW_no acc (by rw [← unhide HX]; exact hx))
        clear hx HTk
        go_wp2_with fail
        refine (unhide HW).mono ?_
        rintro e w2 ⟨rfl, b2⟩
        have d2 := hbel.trans (b2.mono hsz)
        have o2 := own_below hown b2
        rw [← unhide HS] at o2
        have O2 := hide o2
        clear o2 hown b2
        go_wp2_with fail
        go_roundw
        case rel => exact ⟨k + 1, by omega, by go_num, ⟨_, _, _, rfl⟩, unhide O2, d2⟩
        case measure => simp [intOf]; omega
      · have l1 := Lab.not_empty hx
        have HS := hide (show (fs.take (k + 1)).foldl (addW zs nm) [] = StrMath.put acc X by rw [unhide HTk, unhide HX]; exact addW_yes acc (by rw [← unhide HX]; exact hx))
        clear hx HTk
        go_wp2_with fail
        refine (unhide HW).mono ?_
        rintro e w2 ⟨rfl, b2⟩
        have d2 := hbel.trans (b2.mono hsz)
        have o2 := own_below hown b2
        clear hown b2
        have z2 := d2.size
        go_wp2_with fail
        refine (Str.clone_any X w2 (by have := unhide HSm; omega)).mono ?_
        rintro e w3 ⟨rfl, b3⟩
        have d3 := d2.trans (b3.mono d2.size)
        have o3 := own_below o2 b3
        have z3 := d3.size
        clear o2 b3 l1
        have HP := hide (Str.put_any (Str.is_of_own (o3.alloc (.cells #[.string X] 9))) (show Str.Is (w3.alloc (.cells #[.string X] 9)) (.slice (some ⟨w3.heap.size, 0, none⟩) 1 1) [X] from lies_new rfl rfl (by unfold maxLen; omega)) (by omega))
        have d4 : Below w1.heap.size w1 (w3.alloc (.cells #[.string X] 9)) := d3.alloc d3.size _
        clear o3
        go_wp2_with fail
        refine (unhide HP).mono ?_
        rintro e w5 ⟨r, rfl, o5, b5⟩
        have d5 := d4.trans (b5.mono d4.size)
        have hform : ∃ a l q, r = .slice a l q := by obtain ⟨-, a, q, e, -⟩ := lies_of_own o5; exact ⟨a, _, q, e⟩
        obtain ⟨na, nl, nq, rfl⟩ := hform
        have O5 := hide (show w5.ownsRow w.heap.size 9 1 (.slice na nl nq) ((fs.take (k + 1)).foldl (addW zs nm) []).length (Str.flat ((fs.take (k + 1)).foldl (addW zs nm) [])) by rw [unhide HS]; exact own_mono o5 (by simp; omega))
        clear o5 b5 HP d4
        go_wp2_with fail
        go_roundw
        case rel => exact ⟨k + 1, by omega, by go_num, ⟨_, _, _, rfl⟩, unhide O5, d5⟩
        case measure => simp [intOf]; omega
    · obtain rfl : k = N := by omega
      have hkf : decide ((k : Int) < (k : Int)) = false := by simp
      have O := hide (show wr.ownsRow w.heap.size 9 1 (.slice oa ol oq) (words ms zs nm).length (Str.flat (words ms zs nm)) by rw [unhide HFS]; rw [List.take_of_length_le (by have := unhide HNN; omega)] at hown; exact hown)
      have cW : Below w.heap.size w wr := b1.trans (hbel.mono z1)
      clear hown
      go_wp2_with fail
      go_ret
      exact ⟨_, rfl, unhide O, cW⟩
set_option maxRecDepth 100000 in
set_option maxHeartbeats 4000000 in
theorem spec_words {w : World} {v u : Value} {zs : List E} {ms : List Mat.E} (nm : ByteArray) (h : Is w v zs) (h' : Mat.Is w u ms) (hg : ∀ x ∈ zs, good x) (hg' : ∀ x ∈ ms, Mat.good x) (hz : ms.length ≤ maxLen) :
    Calls Try.prog 23 #[v, .string nm, u] w fun e w' => ∃ r, e = .returned r ∧ w'.ownsRow w.heap.size 9 1 r (words ms zs nm).length (Str.flat (words ms zs nm)) ∧ Below w.heap.size w w' := by
  have HAll := hide (fun (W : World) (hb : Below w.heap.size w W) => spec_all (h.below hb) hg)
  have HMat := hide (fun (W : World) (hb : Below w.heap.size w W) => Mat.spec_ok (h'.below hb) hg' hz)
  have B0 : Below w.heap.size w (w.alloc (.cells #[] 9)) := (Below.refl _ _).alloc (Nat.le_refl _) _
  have O0 := hide (own_empty (w := w) (base := w.heap.size) (e := 9) (size := 1) (Nat.le_refl _))
  obtain ⟨cs, hcs, hL, hE⟩ := h
  have HE := hide hE
  obtain ⟨-, a, cap, rfl, hc, hm, -, hr⟩ := hL
  unfold maxLen at hm
  obtain ⟨n, hn⟩ : ∃ n, n = zs.length := ⟨_, rfl⟩
  rw [← hn] at hc hr hcs HAll ⊢
  have HN := hide hn
  have HC := hide hcs
  obtain ⟨ua, ul, uq, rfl⟩ : ∃ a l q, u = .slice a l q := by obtain ⟨-, a, q, e, -⟩ := h'; exact ⟨a, _, q, e⟩
  have HLet := hide (fun (W : World) (hb : Below w.heap.size w W) (k : Nat) (hk : k < n) => Mat.l3Lets_any (h'.below hb) ((hE k (by omega)).below hb) hg' (hg _ (at_mem zs k (by omega))).2)
  clear hn hE hcs hg hg' h' hz
  cases hA : allOk zs
  · have HR := hide (words_no (nm := nm) (find_no (ms := ms) hA))
    rw [hA] at HAll
    clear hA HMat
    go_enter Try.func23, Try.ntmps23
    go_wp2_with fail
    refine (unhide HAll _ B0).mono ?_
    rintro e w1 ⟨rfl, b1⟩
    have c1 := B0.trans (b1.mono B0.size)
    have O1 := hide (own_below (unhide O0) b1)
    go_wp2_with fail
    go_ret
    exact ⟨_, rfl, by rw [unhide HR]; exact unhide O1, c1⟩
  have hn40 : n ≤ 40 := by rw [unhide HN]; exact allOk_len hA
  cases hM : Mat.ok ms
  · have HR := hide (words_no (nm := nm) (find_bad zs hM))
    rw [hA] at HAll
    rw [hM] at HMat
    clear hA hM
    go_enter Try.func23, Try.ntmps23
    go_wp2_with fail
    refine (unhide HAll _ B0).mono ?_
    rintro e w1 ⟨rfl, b1⟩
    have c1 := B0.trans (b1.mono B0.size)
    have O1 := hide (own_below (unhide O0) b1)
    go_wp2_with fail
    refine (unhide HMat _ c1).mono ?_
    rintro e w2 ⟨rfl, b2⟩
    have c2 := c1.trans (b2.mono c1.size)
    have O2 := hide (own_below (unhide O1) b2)
    go_wp2_with fail
    go_ret
    exact ⟨_, rfl, by rw [unhide HR]; exact unhide O2, c2⟩
  have HML := hide (fun (k : Nat) (hk : k < n) => (show Mat.mlet ms (at' zs k) = Mat.lets ms (at' zs k) by unfold Mat.mlet; rw [hM, allOk_at hA (by have := unhide HN; omega)]; rfl))
  have HR := hide (words_yes (ms := ms) (nm := nm) hA)
  rw [hA] at HAll
  rw [hM] at HMat
  clear hA hM
  go_enter Try.func23, Try.ntmps23
  go_wp2_with fail
  refine (unhide HAll _ B0).mono ?_
  rintro e w1 ⟨rfl, b1⟩
  have c1 := B0.trans (b1.mono B0.size)
  have O1 := hide (own_below (unhide O0) b1)
  clear O0 B0 b1 HAll
  go_wp2_with fail
  refine (unhide HMat _ c1).mono ?_
  rintro e w2 ⟨rfl, b2⟩
  have c2 := c1.trans (b2.mono c1.size)
  have O2 := hide (own_below (unhide O1) b2)
  clear O1 c1 b2 HMat
  go_wp2_with fail
  go_loopw [7, 8] (fun ov i wr => ∃ k : Nat, k ≤ n ∧ i = .int .i64 k ∧ (∃ a l q, ov = .slice a l q) ∧ wr.ownsRow w.heap.size 9 1 ov (wordsTo ms zs nm k).length (Str.flat (wordsTo ms zs nm k)) ∧ Below w.heap.size w wr) (fun _ i _ => n - (intOf i).toNat)
  case atStart => exact ⟨0, Nat.zero_le _, rfl, ⟨_, _, _, rfl⟩, unhide O2, c2⟩
  case round =>
    clear O2 c2
    obtain ⟨k, hk, rfl, ⟨oa, ol, oq, rfl⟩, hown, hbel⟩ := hrel
    have hsz := hbel.size
    have hk0 : (0 : Int) ≤ (k : Int) := Int.natCast_nonneg _
    by_cases hlt : k < n
    · obtain ⟨b, off, rfl, hl, hcells⟩ := hr (by omega)
      have fa := flat_at cs k (by have := unhide HC; omega)
      have hc0 : wr.cell? ⟨b, off + k, none⟩ = some (cat cs k) := (hbel.cell (p := ⟨b, _, none⟩) hl).trans (hcells k _ fa)
      have hk1 : (k : Int) < (n : Int) := by omega
      have HW := hide (Mat.l3Word_any nm ((unhide HE k (by have := unhide HN; omega)).below hbel))
      have HL := hide (unhide HLet wr hbel k hlt)
      rw [← unhide HML k hlt] at HL
      have hal : (wordsTo ms zs nm k).length ≤ 40 := by have := wordsTo_len ms zs nm k; omega
      obtain ⟨X, hX⟩ : ∃ X, X = Mat.wordOf (at' zs k) nm := ⟨_, rfl⟩
      rw [← hX] at HW
      obtain ⟨c0, hC⟩ : ∃ c0, c0 = cat cs k := ⟨_, rfl⟩
      rw [← hC] at hc0 HW HL
      have HX := hide hX
      clear hX hC fa hcells
      by_cases hx : X.size = 0
      · have l1 := is_empty hx
        have HS := hide (show wordsTo ms zs nm (k + 1) = wordsTo ms zs nm k by
          cases hq : Mat.mlet ms (at' zs k)
          · exact wordsTo_no hq
          · rw [wordsTo_yes hq]; exact addW_no _ (by rw [← unhide HX]; exact hx))
        clear hx HL
        go_wp2_with fail
        refine (unhide HW).mono ?_
        rintro e w3 ⟨rfl, rfl⟩
        rw [← unhide HS] at hown
        have O3 := hide hown
        clear hown
        go_wp2_with fail
        go_roundw
        case rel => exact ⟨k + 1, by omega, by go_num, ⟨_, _, _, rfl⟩, unhide O3, hbel⟩
        case measure => simp [intOf]; omega
      · have l1 := Lab.not_empty hx
        cases hq : Mat.mlet ms (at' zs k)
        · have HS := hide (wordsTo_no (nm := nm) hq)
          rw [hq] at HL
          clear hx hq
          go_wp2_with fail
          refine (unhide HW).mono ?_
          rintro e w3 ⟨rfl, rfl⟩
          go_wp2_with fail
          refine (unhide HL).mono ?_
          rintro e w4 ⟨rfl, b4⟩
          have d4 := hbel.trans (b4.mono hsz)
          have o4 := own_below hown b4
          rw [← unhide HS] at o4
          have O4 := hide o4
          clear o4 hown b4
          go_wp2_with fail
          go_roundw
          case rel => exact ⟨k + 1, by omega, by go_num, ⟨_, _, _, rfl⟩, unhide O4, d4⟩
          case measure => simp [intOf]; omega
        · have HS := hide (show wordsTo ms zs nm (k + 1) = StrMath.put (wordsTo ms zs nm k) X by rw [wordsTo_yes hq, unhide HX]; exact addW_yes _ (by rw [← unhide HX]; exact hx))
          rw [hq] at HL
          clear hx hq
          go_wp2_with fail
          refine (unhide HW).mono ?_
          rintro e w3 ⟨rfl, rfl⟩
          go_wp2_with fail
          refine (unhide HL).mono ?_
          rintro e w4 ⟨rfl, b4⟩
          have d4 := hbel.trans (b4.mono hsz)
          have o4 := own_below hown b4
          have z4 := d4.size
          clear hown b4 l1
          have HP := hide (Str.l4Word_any X z4 (by omega) o4)
          clear o4
          go_wp2_with fail
          refine (unhide HP).mono ?_
          rintro e w5 ⟨r, rfl, o5, b5⟩
          have d5 := d4.trans (b5.mono d4.size)
          have hform : ∃ a l q, r = .slice a l q := by obtain ⟨-, a, q, e, -⟩ := lies_of_own o5; exact ⟨a, _, q, e⟩
          obtain ⟨na, nl, nq, rfl⟩ := hform
          rw [← unhide HS] at o5
          have O5 := hide o5
          clear o5 b5 HP
          go_wp2_with fail
          go_roundw
          case rel => exact ⟨k + 1, by omega, by go_num, ⟨_, _, _, rfl⟩, unhide O5, d5⟩
          case measure => simp [intOf]; omega
    · obtain rfl : k = n := by omega
      have hkf : decide ((k : Int) < (k : Int)) = false := by simp
      have O := hide (show wr.ownsRow w.heap.size 9 1 (.slice oa ol oq) (words ms zs nm).length (Str.flat (words ms zs nm)) by rw [unhide HR, ← unhide HN]; exact hown)
      clear hown
      go_wp2_with fail
      go_ret
      exact ⟨_, rfl, unhide O, hbel⟩
end Go.Proofs.Ytbkolpiekcifpaa.Lss

/- A region that draws its order, walked operation by operation: what is wanted and yields, what is not wanted, what is carried out alone. No condition. -/
namespace Go.Proofs.Ytbkolpiekcifpaa.Grl
open Go.RowKit
section
variable {P : Program} {l : List Oper} {Q : Exit → Act → World → Prop} {md : Region.Mode} {S : World → Prop}
theorem yes (i : Nat) {oi : Oper} {v : Value} {fuel : Nat} {listed : Array Bool} {a : Act} {w : World} (hi : l[i]? = some oi)
    (hs : Region.noSelect l.toArray = true) (hf : Region.free md l.toArray listed i = true) (hr : (Region.ready md l.toArray listed).contains i = true)
    (hQ : ∀ c a w, Q (.panic c) (a.put oi.dst v) w → Q (.panic c) a w) (hw : Region.wanted oi (yielded l.toArray a.tmps) = true) (hy : ∀ w, S w → (execOp a.eval oi).run P w = .ok (.value v) w) (hS : S w)
    (h : wpAnyH P md l.toArray Q S fuel (listed.setIfInBounds i true) (a.put oi.dst v) w) : wpAnyH P md l.toArray Q S (fuel + 1) listed a w :=
  wpAnyH_take (by simpa using hi) hs hf hr hQ (.inl ⟨hw, hy⟩) hS h
theorem no (i : Nat) {oi : Oper} {fuel : Nat} {listed : Array Bool} {a : Act} {w : World} (hi : l[i]? = some oi)
    (hs : Region.noSelect l.toArray = true) (hf : Region.free md l.toArray listed i = true) (hr : (Region.ready md l.toArray listed).contains i = true)
    (hQ : ∀ c a w, Q (.panic c) (a.put oi.dst undef) w → Q (.panic c) a w) (hw : Region.wanted oi (yielded l.toArray a.tmps) = false) (hS : S w)
    (h : wpAnyH P md l.toArray Q S fuel (listed.setIfInBounds i true) (a.put oi.dst undef) w) : wpAnyH P md l.toArray Q S (fuel + 1) listed a w :=
  wpAnyH_take (by simpa using hi) hs hf hr hQ (.inr ⟨hw, rfl⟩) hS h
theorem one (i : Nat) {o : Oper} {fuel : Nat} {listed : Array Bool} {a : Act} {w : World} (hi : l[i]? = some o) (hr : Region.ready md l.toArray listed = [i])
    (h : ∀ K' : Act → World → Prop, Shut (∀ a w, S w → (S w → wpAnyH P md l.toArray Q S fuel (listed.setIfInBounds i true) a w) → K' a w) → if Region.wanted o (yielded l.toArray a.tmps) = true then Oper.wp P o a w K' Q else K' (a.put o.dst undef) w) :
    wpAnyH P md l.toArray Q S (fuel + 1) listed a w :=
  wpAnyH_ready hr (by simp) (AllReadyH.cons (by simpa using hi) h AllReadyH.nil)
theorem start {id : Nat} {a : Act} {w : World} (hm : P.follows .mixedOrders = true) (hS : S w.drew)
    (h : S w.drew → wpAnyH P .any l.toArray Q S l.length (Array.replicate l.length false) a w.drew) : (Code.region id l.toArray true).wp P Q a w :=
  wp_region_held_drew hm hS (by simpa using h)
end
theorem wrap_ok {n : Int} (h0 : -4611686018427387904 ≤ n) (h1 : n ≤ 4611686018427387904) : IntKind.i64.wrap n = n := by
  have hb : (2 : Int) ^ IntKind.i64.bits = 18446744073709551616 := by decide
  have hb' : (2 : Int) ^ (IntKind.i64.bits - 1) = 9223372036854775808 := by decide
  unfold IntKind.wrap
  simp only [hb, hb']
  have hs : IntKind.i64.signed = true := rfl
  simp only [hs, Bool.true_and, decide_eq_true_eq]
  split <;> omega
end Go.Proofs.Ytbkolpiekcifpaa.Grl
