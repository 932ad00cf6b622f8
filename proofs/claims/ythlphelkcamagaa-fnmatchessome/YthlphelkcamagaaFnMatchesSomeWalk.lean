/- FnMatchesSome returns true at every text of bytes. -/
import Derived.Test.YthlphelkcamagaaLetLaw
import Derived.Test.YthlphelkcamagaaSomeMath
import Derived.Deep.RegionHeld3
namespace Go.Proofs.Ythlphelkcamagaa
open Go.RowKit Rw Mat Draw
set_option linter.unusedVariables false
attribute [local go_sem ↓] Go.wp_at_zero Go.wp_at_succ
theorem word_empty : Lab.wordB ByteArray.empty = true := by decide
theorem name_nobody : Lab.nameB nobody = true := by decide
theorem word_begin {B : ByteArray} (j : Nat) (h : Lab.wordB B = true) : Lab.wordB (B.extract 0 j) = true := by
  unfold Lab.wordB at *
  rw [Bool.and_eq_true, decide_eq_true_eq] at *
  refine ⟨by rw [ByteArray.size_extract]; omega, ?_⟩
  unfold Lab.letters at *
  rw [ByteArray.data_extract, Array.toList_extract]
  rw [List.all_eq_true] at *
  intro x hx
  exact h.2 x (List.mem_of_mem_drop (List.mem_of_mem_take hx))
theorem m_block' {wr W5 : World} {c c' : Array Value} {t t' : TypeId} (bb : Below ((wr.alloc (.cells c t)).alloc (.cells c' t')).heap.size ((wr.alloc (.cells c t)).alloc (.cells c' t')) W5) : W5.heap[wr.heap.size]? = some (.cells c t (0, 0)) := by
  have b1 : Below (wr.alloc (.cells c t)).heap.size (wr.alloc (.cells c t)) ((wr.alloc (.cells c t)).alloc (.cells c' t')) := (Below.refl _ _).alloc (Nat.le_refl _) _
  rw [bb.block wr.heap.size (by simp; omega), b1.block wr.heap.size (by simp)]
  exact heap_alloc_new wr _
set_option maxRecDepth 100000 in
set_option maxHeartbeats 4000000 in
theorem fnMatchesSome.walk (a0 : Option Addr) (len0 cap0 : Nat) (z0 : List Int) (w : World) (w0 : IsRow .u8 w a0 len0 cap0 z0) :
    Calls Try.prog 5 #[.slice a0 len0 cap0] w fun e w' => e = .returned (.bool true) ∧ Below w.heap.size w w' := by
  have l0 := (row_bytes w0)
  have c00 : len0 ≤ 9223372036854775807 := by have := l0.1; have := l0.2.1; unfold maxLen at this; omega
  have H0 := hide (draw_let w w w0 (Below.refl _ _))
  clear l0 w0
  by_cases hb0 : 1048576 < len0
  · go_enter Try.func5, Try.ntmps5
    go_wp2
    go_ret
    exact ⟨rfl, Below.refl _ _⟩
  go_enter Try.func5, Try.ntmps5
  go_wp2_with fail
  refine (unhide H0).mono ?_
  rintro e W ⟨zs, ls, va, vb, rfl, hl, hl', hsm, hsm', sa, sb, c0⟩
  clear H0
  obtain ⟨ab, cb, eb⟩ : ∃ a c, vb = .slice a ls.length c := by obtain ⟨-, a, c, e, -⟩ := sb; exact ⟨a, c, e⟩
  subst eb
  have HLa := hide (show zs.length ≤ maxLen by unfold maxLen; omega)
  have HLb := hide (show ls.length ≤ maxLen by unfold maxLen; omega)
  have GA := hide (fun x hx => good_smallM (hsm x hx))
  have GB := hide (fun x hx => good_smallL (hsm' x hx))
  have SM := hide hsm'
  clear hsm hsm'
  obtain ⟨R, hR⟩ : ∃ R, R = mlet zs ls := ⟨_, rfl⟩
  have HR := hide hR
  clear hR
  have nn : (R != R) = false := by simp
  have nn2 : (R == R) = true := by simp
  go_wp2_with fail
  refine (impl_let sa sb (unhide GA) (unhide GB) (unhide HLa)).mono ?_
  rintro e W1 ⟨rfl, bb⟩
  rw [← unhide HR]
  have f1_a := sa.below bb
  clear sa
  have f1_b := sb.below bb
  clear sb
  have c1 := c0.trans (bb.mono c0.size)
  clear c0 bb
  go_wp2_with fail
  refine (spec_let f1_a f1_b (unhide GA) (unhide GB) (unhide HLa) (unhide HLb)).mono ?_
  rintro e W2 ⟨rfl, bb⟩
  rw [← unhide HR]
  have f2_a := f1_a.below bb
  clear f1_a
  have f2_b := f1_b.below bb
  clear f1_b
  have c2 := c1.trans (bb.mono c1.size)
  clear c1 bb
  go_wp2_with fail
  cases hob : Lab.ok ls
  · have KB := hide hob
    clear hob
    refine (Lab.spec_ok f2_b (unhide GB) (unhide HLb)).mono ?_
    rintro e W3 ⟨rfl, bb⟩
    rw [unhide KB]
    have f3_a := f2_a.below bb
    clear f2_a
    have f3_b := f2_b.below bb
    clear f2_b
    have c3 := c2.trans (bb.mono c2.size)
    clear c2 bb
    go_wp2_with fail
    refine (impl_let f3_a f3_b (unhide GA) (unhide GB) (unhide HLa)).mono ?_
    rintro e W4 ⟨rfl, bb⟩
    rw [← unhide HR]
    have f4_a := f3_a.below bb
    clear f3_a
    have f4_b := f3_b.below bb
    clear f3_b
    have c4 := c3.trans (bb.mono c3.size)
    clear c3 bb
    go_wp2_with fail
    refine (spec_let f4_a f4_b (unhide GA) (unhide GB) (unhide HLa) (unhide HLb)).mono ?_
    rintro e W5 ⟨rfl, bb⟩
    rw [← unhide HR]
    have c5 := c4.trans (bb.mono c4.size)
    clear f4_a f4_b c4 bb
    go_wp2_with fail
    go_ret
    exact ⟨by first | rfl | exact ret_bool nn2, c5⟩
  · have KB := hide hob
    clear hob
    refine (Lab.spec_ok f2_b (unhide GB) (unhide HLb)).mono ?_
    rintro e W3 ⟨rfl, bb⟩
    rw [unhide KB]
    have f3_b := f2_b.below bb
    clear f2_b f2_a
    have c3 := c2.trans (bb.mono c2.size)
    clear c2 bb
    obtain ⟨n, hn⟩ : ∃ n, n = ls.length := ⟨_, rfl⟩
    have HL := hide (show Lab.Is W3 (.slice ab n cb) ls by rw [hn]; exact f3_b)
    obtain ⟨-, a1, cc1, he, hcc, hmm, -, hr⟩ := f3_b
    cases he
    unfold maxLen at hmm
    have hl2 : n ≤ 20 := by omega
    rw [← hn] at hcc hr ⊢
    have HN := hide hn
    clear hn hl hl'
    have hws := c3.size
    go_wp2_with fail
    go_loopw [5] (fun iv wr => ∃ (k : Nat), k ≤ n ∧ iv = .int .i64 k ∧ Below W3.heap.size W3 wr) (fun iv _ => n - (intOf iv).toNat)
    case atStart => exact ⟨0, Nat.zero_le _, rfl, Below.refl _ _⟩
    case round =>
      obtain ⟨k, hk, rfl, hbel⟩ := hrel
      have hsz := hbel.size
      by_cases hlt : k < n
      · have hkz : k < ls.length := by have := unhide HN; omega
        obtain ⟨A, B, hX⟩ : ∃ A B, (A, B) = Lab.at' ls k := ⟨_, _, rfl⟩
        have g := lab_at (unhide KB) hkz
        have s1 := some_is (unhide KB) hkz
        have s2 := some_none (unhide KB) hkz
        have s3 := some_begin (unhide KB) hkz
        have sm := unhide SM _ (show Lab.at' ls k ∈ ls by rw [Lab.at_get ls k hkz]; exact List.getElem_mem _)
        rw [← hX] at g s1 s2 s3 sm
        obtain ⟨b, off, rfl, hlb, hcells⟩ := hr (by omega)
        have fa := Lab.flat_at ls k hkz
        rw [← hX] at fa
        have hc0 : wr.cell? ⟨b, off + k * 2, none⟩ = some (.string A) := (hbel.cell (p := ⟨b, _, none⟩) hlb).trans (hcells (k * 2) _ fa.1)
        have hc1 : wr.cell? ⟨b, off + k * 2 + 1, none⟩ = some (.string B) := (hbel.cell (p := ⟨b, _, none⟩) hlb).trans (hcells (k * 2 + 1) _ fa.2)
        have hA : A.size ≤ 100 := sm.1
        have hB : B.size ≤ 100 := sm.2.1
        have HG := hide g
        have S1 := hide s1
        have S2 := hide s2
        have S3 := hide s3
        have hk0 : (0 : Int) ≤ (k : Int) := Int.natCast_nonneg _
        have hk1 : (k : Int) < (n : Int) := by omega
        clear fa hX hcells hr g s1 s2 s3 sm
        have hb2 := (hbel.alloc hsz (.cells #[.string A, .string B] 40)).alloc (by simp; omega) (.cells #[.int .i64 1, .string A, .string B] 36)
        have I1 := hide (impl_let (is_one (wr.alloc (.cells #[.string A, .string B] 40)) 1 A B (N := wr.heap.size + 1) (by simp)) ((unhide HL).below hb2) (good_one (by omega) (by omega) hA hB) (unhide GB) (by unfold maxLen; show 1 ≤ _; omega))
        go_wp2_with fail
        refine (unhide I1).mono ?_
        rintro e W5 ⟨rfl, bb⟩
        rw [mlet_one (by omega) (by omega) (unhide HG).1 (unhide HG).2.1 (unhide KB), unhide S1]
        have hh := m_block' bb
        have hb5 := hb2.trans (bb.mono hb2.size)
        have hs5 := bb.size
        simp at hs5
        have hd0 : W5.cell? ⟨wr.heap.size, 0, none⟩ = some (.string A) := by rw [cell_of_row W5 _ 0 _ _ _ hh]; rfl
        have hd1 : W5.cell? ⟨wr.heap.size, 1, none⟩ = some (.string B) := by rw [cell_of_row W5 _ 1 _ _ _ hh]; rfl
        have hlt5 : wr.heap.size < W5.heap.size := by omega
        have hb6 := hb5.alloc (by omega) (.cells #[.int .i64 1, .string A, .string ByteArray.empty] 36)
        have I2 := hide (impl_let (is_one W5 1 A ByteArray.empty (N := W5.heap.size) rfl) ((unhide HL).below hb6) (good_one (by omega) (by omega) hA (by decide)) (unhide GB) (by unfold maxLen; show 1 ≤ _; omega))
        have HH := hide hh
        clear hh I1 bb hb2 hc0 hc1 hb5
        go_wp2_with fail
        refine (unhide I2).mono ?_
        rintro e W6 ⟨rfl, bb⟩
        rw [mlet_one (by omega) (by omega) (unhide HG).1 word_empty (unhide KB), unhide S2]
        have hb7 := hb6.trans (bb.mono hb6.size)
        have hs6 := bb.size
        simp at hs6
        have h6 : W6.heap[wr.heap.size]? = some (.cells #[.string A, .string B] 40 (0, 0)) := by
          rw [bb.block wr.heap.size (by simp; omega), ((Below.refl W5.heap.size W5).alloc (Nat.le_refl _) _).block wr.heap.size hlt5]
          exact unhide HH
        clear I2 bb hb6 hd0 hd1 HH
        go_wp2_with fail
        obtain ⟨wo, hwo⟩ : ∃ wo, wo = wr := ⟨_, rfl⟩
        subst hwo
        go_loopw [7] (fun jv wq => ∃ (j : Nat), j ≤ B.size + 1 ∧ jv = .int .i64 j ∧ Below W3.heap.size W3 wq ∧ wq.heap[wo.heap.size]? = some (.cells #[.string A, .string B] 40 (0, 0)) ∧ wo.heap.size < wq.heap.size) (fun jv _ => B.size + 1 - (intOf jv).toNat)
        case atStart => exact ⟨0, Nat.zero_le _, rfl, hb7, h6, by omega⟩
        case round =>
          clear hb7 h6 hs6
          obtain ⟨j, hj, rfl, hbq, hq6, hlq⟩ := hrel
          have hd0 : wr.cell? ⟨wo.heap.size, 0, none⟩ = some (.string A) := by rw [cell_of_row wr _ 0 _ _ _ hq6]; rfl
          have hd1 : wr.cell? ⟨wo.heap.size, 1, none⟩ = some (.string B) := by rw [cell_of_row wr _ 1 _ _ _ hq6]; rfl
          have hqs := hbq.size
          by_cases hjl : j ≤ B.size
          · have hbd := (hbq.drew).alloc (by simp; omega) (.cells #[.int .i64 3, .string A, .string (B.extract 0 j)] 36)
            have hP : (B.extract 0 j).size ≤ 100 := by rw [ByteArray.size_extract]; omega
            have I3 := hide (impl_let (is_one wr.drew 3 A (B.extract 0 j) (N := wr.heap.size) rfl) ((unhide HL).below hbd) (good_one (by omega) (by omega) hA hP) (unhide GB) (by unfold maxLen; show 1 ≤ _; omega))
            have hjz : (j : Int) ≤ (B.size : Int) := by omega
            have S4 := hide (unhide S3 j hjl)
            have W4 := hide (word_begin j (unhide HG).2.1)
            have HBD := hide hbd
            have bx : Below wr.heap.size wr (wr.drew.alloc (.cells #[.int .i64 3, .string A, .string (B.extract 0 j)] 36)) := ((Below.refl wr.heap.size wr).drew).alloc (by simp) _
            have HQ6 := hide hq6
            clear hP hbd hq6
            go_wp2_with fail
            go_region_held3 (fun W => W.cell? ⟨wo.heap.size, 0, none⟩ = some (.string A) ∧ W.cell? ⟨wo.heap.size, 1, none⟩ = some (.string B)) ((first | exact ⟨hd0, hd1⟩ | exact ⟨k0, k1⟩ | exact ⟨((((Below.refl wr.heap.size wr).alloc (Nat.le_refl _) _).drew).cell (p := ⟨wo.heap.size, 0, none⟩) hlq).trans hd0, ((((Below.refl wr.heap.size wr).alloc (Nat.le_refl _) _).drew).cell (p := ⟨wo.heap.size, 1, none⟩) hlq).trans hd1⟩)) ((go_at_call 18; refine (unhide I3).mono ?_; rintro e W7 ⟨rfl, bb⟩; rw [mlet_one (by omega) (by omega) (unhide HG).1 (unhide W4) (unhide KB), unhide S4]; have k0 := (bb.cell (p := ⟨wo.heap.size, 0, none⟩) (by simp; omega)).trans ((bx.cell (p := ⟨wo.heap.size, 0, none⟩) hlq).trans hd0); have k1 := (bb.cell (p := ⟨wo.heap.size, 1, none⟩) (by simp; omega)).trans ((bx.cell (p := ⟨wo.heap.size, 1, none⟩) hlq).trans hd1)))
            have h7 := hide (show W7.heap[wo.heap.size]? = some (.cells #[.string A, .string B] 40 (0, 0)) by rw [bb.block wo.heap.size (by simp; omega), bx.block wo.heap.size hlq]; exact unhide HQ6)
            have hb8 := hide ((unhide HBD).trans (bb.mono (unhide HBD).size))
            have hs8 := bb.size
            simp at hs8
            clear bb k0 k1 bx
            go_wp2_with fail
            go_roundw
            case rel => exact ⟨j + 1, by omega, by go_num, unhide hb8, unhide h7, by omega⟩
            case measure => simp [intOf]; omega
          · have hjf : decide ((j : Int) ≤ (B.size : Int)) = false := by simp; omega
            go_wp2_with fail
            go_roundw
            case rel => exact ⟨k + 1, by omega, by go_num, hbq⟩
            case measure => simp [intOf]; omega
      · have hkf : decide ((k : Int) < (n : Int)) = false := by simp; omega
        have hb2 := hbel.alloc hsz (.cells #[.int .i64 1, .string nobody, .string ByteArray.empty] 36)
        have nob : ∀ x ∈ ls, x.1 ≠ nobody := fun x hx => (unhide SM x hx).2.2
        have I1 := hide (impl_let (is_one wr 1 nobody ByteArray.empty (N := wr.heap.size) rfl) ((unhide HL).below hb2) (good_one (by omega) (by omega) (by decide) (by decide)) (unhide GB) (by unfold maxLen; show 1 ≤ _; omega))
        have S5 := hide (nobody_is nob)
        have S6 := hide (nobody_never nob)
        clear nob
        go_wp2_with fail
        refine (unhide I1).mono ?_
        rintro e W5 ⟨rfl, bb⟩
        rw [mlet_one (by omega) (by omega) name_nobody word_empty (unhide KB), unhide S5]
        have hb5 := hb2.trans (bb.mono hb2.size)
        have hs5 := hb5.size
        have hb6 := hb5.alloc hs5 (.cells #[.int .i64 4, .string nobody, .string ByteArray.empty] 36)
        have I2 := hide (impl_let (is_one W5 4 nobody ByteArray.empty (N := W5.heap.size) rfl) ((unhide HL).below hb6) (good_one (by omega) (by omega) (by decide) (by decide)) (unhide GB) (by unfold maxLen; show 1 ≤ _; omega))
        clear I1 bb hb2 hb5
        go_wp2_with fail
        refine (unhide I2).mono ?_
        rintro e W6 ⟨rfl, bb⟩
        rw [mlet_one (by omega) (by omega) name_nobody word_empty (unhide KB), unhide S6]
        have H7 := hide (c3.trans ((hb6.trans (bb.mono hb6.size)).mono hws))
        clear I2 bb hb6
        go_wp2_with fail
        go_ret
        exact ⟨rfl, unhide H7⟩
end Go.Proofs.Ythlphelkcamagaa
