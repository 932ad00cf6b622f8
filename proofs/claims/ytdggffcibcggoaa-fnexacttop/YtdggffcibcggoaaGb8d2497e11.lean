/- My own texts of one claim, laid together by program: RowTop3, RowMark. -/
import Derived.Test.YtdggffcibcggoaaG69e9947934
import Derived.Test.YtdggffcibcggoaaG590ba59697
import Derived.Test.YtdggffcibcggoaaGd6c1f711d7
import Derived.Test.YtdggffcibcggoaaG4b0a2e056d
/- What Top answers, of the program and of the model, at all rows: the loops. -/
namespace Go.Proofs.Ytdggffcibcggoaa.Row
open Go.RowKit Rw
set_option linter.unusedVariables false
attribute [local go_sem ↓] Go.wp_at_zero Go.wp_at_succ
theorem Own.wide2 {lo hi lo' hi' : Nat} {w : World} {v : Value} {zs : List E} (h : Own lo hi w v zs) (h1 : lo' ≤ lo) (h2 : hi ≤ hi') (h3 : hi' ≤ w.heap.size) : Own lo' hi' w v zs := by
  obtain ⟨cs, g1, g2, g3, g4, g5, g6, g7⟩ := h
  exact ⟨cs, g1, own_mono g2 h1, fun k hk => by have := g3 k hk; omega, h3, g5, g6, fun i hi => ⟨⟨own_mono (g7 i hi).1.1 h1, own_mono (g7 i hi).1.2 h1⟩, fun k hk => by have := (g7 i hi).2.1 k hk; omega, fun k hk => by have := (g7 i hi).2.2 k hk; omega⟩⟩
set_option maxRecDepth 100000 in
set_option maxHeartbeats 4000000 in
theorem impl_top {w : World} {v : Value} {zs : List E} (most : Int) (h : Is w v zs) (hg : ∀ x ∈ zs, good x) (hlen : zs.length ≤ maxLen) :
    Calls Try.prog 31 #[v, .int .i64 most] w fun e w' => ∃ r, e = .returned r ∧ Own w.heap.size w'.heap.size w' r (top most zs) ∧ Below w.heap.size w w' := by
  obtain ⟨i0, hi, hz0, hz1, hz2⟩ := info_parts Row.info_e
  have HOK := hide (impl_ok h hg hlen)
  obtain ⟨a, cap, ev, hcap⟩ : ∃ a cap, v = .slice a zs.length cap ∧ zs.length ≤ cap ∧ cap ≤ 9223372036854775807 := by
    obtain ⟨cs, -, hL, -⟩ := h
    obtain ⟨-, a, cap, e, h1, h2, -⟩ := hL
    unfold maxLen at h2
    exact ⟨a, cap, e, h1, by omega⟩
  subst ev
  obtain ⟨l, hl⟩ : ∃ l, l = zs.length := ⟨_, rfl⟩
  rw [← hl] at hcap h HOK ⊢
  have HN := hide hl
  cases hok : ok zs
  · have HR := hide (show top most zs = [] by unfold top; rw [hok]; rfl)
    rw [hok] at HOK
    clear hok h hg hlen hl
    go_enter Try.func31, Try.ntmps31
    go_wp2_with fail
    refine (unhide HOK).mono ?_
    rintro e w1 ⟨rfl, b1⟩
    go_wp2_with fail
    go_ret
    exact ⟨_, rfl, by rw [unhide HR]; have := own_nil w.heap.size w1; exact this, b1⟩
  · have HR := hide (show top most zs = topTo zs most l by unfold top; rw [hok, hl]; rfl)
    rw [hok] at HOK
    have hl10 := ok_len hok
    rw [← hl] at hl10
    have HI := hide h
    have HO := hide hok
    clear hok h hg hlen hl
    go_enter Try.func31, Try.ntmps31
    go_wp2_with fail
    refine (unhide HOK).mono ?_
    rintro e w1 ⟨rfl, b1⟩
    go_wp2_with fail
    go_loopw [5, 13] (fun ov iv wr => ∃ (k : Nat) (L : List E) (ao : Option Addr) (qo : Nat), k ≤ l ∧ iv = .int .i64 k ∧ ov = .slice ao L.length qo ∧ L = topTo zs most k ∧ Hid (Sel w wr ov L) ∧ Below w.heap.size w wr) (fun _ iv _ => l - (intOf iv).toNat)
    case atStart => exact ⟨0, [], _, _, Nat.zero_le _, rfl, rfl, rfl, hide ⟨[], rfl, World.ownsRow_nil _ _ _ _, fun i h => by simp at h⟩, b1⟩
    case round =>
      obtain ⟨k, L, ao, qo, hk, rfl, rfl, hL, HSel, hbel⟩ := hrel
      have hsz := hbel.size
      by_cases hlt : k < l
      · obtain ⟨b, off, rfl, a0, ll, q0, b1', o1, m, q1, hA⟩ := row_at (unhide HI) (unhide HO) (show k < zs.length by have := unhide HN; omega)
        have hLk := topTo_le zs most k
        rw [← hL] at hLk
        have hB := hA.below hbel
        have hc0 := hB.c0
        have hc1 := hB.c1
        have HEl := hide hA.el
        have HP := hide (fun W (hb : Below w.heap.size w W) => place_any k ((unhide HI).below hb) (unhide HN) hcap (unhide HO) hlt)
        have HY := hide (fun (h : (rankTo zs k l : Int) < most) => (show topTo zs most (k + 1) = L ++ [at' zs k] by rw [hL]; exact topTo_yes (by rw [← unhide HN]; exact h)))
        have HNo := hide (fun (h : ¬ (rankTo zs k l : Int) < most) => (show topTo zs most (k + 1) = L by rw [hL]; exact topTo_no (by rw [← unhide HN]; exact h)))
        obtain ⟨W, hW⟩ : ∃ W, W = wr.alloc (.cells #[.slice a0 ll q0, .slice (some ⟨b1', o1, none⟩) (m + 1) q1] 61) := ⟨_, rfl⟩
        have bW : Below wr.heap.size wr W := by rw [hW]; exact (Below.refl _ _).alloc (Nat.le_refl _) _
        have cW := hbel.trans (bW.mono hsz)
        have zW : wr.heap.size < W.heap.size := by rw [hW]; simp
        have n0 : W.cell? ⟨wr.heap.size, 0, none⟩ = some (.slice a0 ll q0) := by rw [hW]; simp
        have n1 : W.cell? ⟨wr.heap.size, 1, none⟩ = some (.slice (some ⟨b1', o1, none⟩) (m + 1) q1) := by rw [hW]; simp
        have hk0 : (0 : Int) ≤ (k : Int) := Int.natCast_nonneg _
        have hk1 : (k : Int) < (l : Int) := by omega
        generalize hrk : (rankTo zs k l : Int) = rk at HP HY HNo
        clear hrk hL hA hB
        go_wp2_with fail
        rw [← hW]
        clear hW
        refine (unhide HP W cW).mono ?_
        rintro e w2 ⟨rfl, b2⟩
        have b2' := bW.trans (b2.mono bW.size)
        have c2 := hbel.trans (b2'.mono hsz)
        have m0 := (b2.cell (p := ⟨wr.heap.size, 0, none⟩) zW).trans n0
        have m1 := (b2.cell (p := ⟨wr.heap.size, 1, none⟩) zW).trans n1
        have z2 := c2.size
        by_cases hlt2 : rk < most
        · have HF := hide (unhide HY hlt2)
          obtain ⟨cs, s1, s2, s3⟩ := unhide HSel
          have o2 := own_below s2 b2'
          have HS3 := hide s3
          have HS1 := hide s1
          clear s1 s2 s3 HSel n0 n1 hc0 hc1
          go_wp2_with (at_builtin; refine app_wp _ rfl _ _ _ rfl w.heap.size 61 i0 _ 2 48 Try.underlying24 hi hz0 hz1 hz2 rfl (by omega) _ _ _ rfl (o2.alloc _) _ 1 [.slice a0 ll q0, .slice (some ⟨b1', o1, none⟩) (m + 1) q1] rfl (lies_new rfl rfl (by unfold maxLen; omega)) (by simp [Value.oneCell']) (by unfold maxLen; omega) (by omega) (by simp; omega) ?_; intro vn wn on gn an)
          have R9 := below_grown (c2.alloc z2 _) (by simp; omega) gn (own_ge o2)
          have R2 : Sel w wn vn (L ++ [at' zs k]) := by
            refine ⟨cs ++ [(.slice a0 ll q0, .slice (some ⟨b1', o1, none⟩) (m + 1) q1)], by rw [List.length_append, List.length_append, unhide HS1]; rfl, by rw [flatOf_append, flatOf_one, List.length_append]; exact on, fun i hi => ?_⟩
            rw [List.length_append] at hi
            simp only [List.length_cons, List.length_nil] at hi
            by_cases e : i < L.length
            · rw [cat_lt cs _ i (by rw [unhide HS1]; exact e), at_snoc_lt L _ i e]; exact unhide HS3 i e
            · obtain rfl : i = L.length := by omega
              rw [at_snoc_last, ← unhide HS1, cat_last]; exact unhide HEl
          obtain ⟨an', qn', evn⟩ : ∃ a q, vn = Value.slice a (L ++ [at' zs k]).length q := by obtain ⟨_, -, o, -⟩ := R2; obtain ⟨-, a, q, e, -⟩ := lies_of_own o; exact ⟨a, q, e⟩
          have HR2 := hide R2
          clear on gn an R2 HS3
          go_wp2_with fail
          go_roundw
          case rel => exact ⟨k + 1, _, _, _, by omega, by go_num, evn, (unhide HF).symm, HR2, R9⟩
          case measure => simp [intOf]; omega
        · have HF := hide (unhide HNo (by omega))
          have hd : decide (rk < most) = false := by simp; omega
          have HR2 := hide (show Sel w w2 (.slice ao L.length qo) L by obtain ⟨cs, s1, s2, s3⟩ := unhide HSel; exact ⟨cs, s1, own_below s2 b2', s3⟩)
          clear HSel n0 n1 hc0 hc1
          go_wp2_with fail
          go_roundw
          case rel => exact ⟨k + 1, L, _, _, by omega, by go_num, rfl, (unhide HF).symm, HR2, c2⟩
          case measure => simp [intOf]; omega
      · have HF := hide (show L = top most zs by rw [unhide HR, hL, show k = l by omega])
        have HCp := hide (copy_any ((unhide HSel).is hbel) (by rw [hL, show k = zs.length by have := unhide HN; omega]; exact topTo_ok most (unhide HO)))
        clear HSel hL
        go_wp2_with fail
        refine (unhide HCp).mono ?_
        rintro e w3 ⟨r, rfl, o3, b3⟩
        have O3 := hide (o3.wide2 hsz (Nat.le_refl _) (Nat.le_refl _))
        have c3 := hbel.trans (b3.mono hsz)
        clear o3
        go_wp2_with fail
        go_ret
        exact ⟨r, rfl, by rw [← unhide HF]; exact unhide O3, c3⟩
set_option maxRecDepth 100000 in
set_option maxHeartbeats 4000000 in
theorem spec_top {w : World} {v : Value} {zs : List E} (most : Int) (h : Is w v zs) (hg : ∀ x ∈ zs, good x) (hlen : zs.length ≤ maxLen) :
    Calls Try.prog 30 #[v, .int .i64 most] w fun e w' => ∃ r, e = .returned r ∧ Own w.heap.size w'.heap.size w' r (top most zs) ∧ Below w.heap.size w w' := by
  obtain ⟨i0, hi, hz0, hz1, hz2⟩ := info_parts Row.info_e
  obtain ⟨W0, hW0⟩ : ∃ W0, W0 = w.alloc (.cells #[] 61) := ⟨_, rfl⟩
  have bW0 : Below w.heap.size w W0 := by rw [hW0]; exact (Below.refl _ _).alloc (Nat.le_refl _) _
  have oW0 : W0.ownsRow w.heap.size 61 2 (.slice (some ⟨w.heap.size, 0, none⟩) 0 0) 0 [] := by rw [hW0]; exact own_empty (Nat.le_refl _)
  have HOK := hide (spec_ok (h.below bW0) hg hlen)
  obtain ⟨a, cap, ev, hcap⟩ : ∃ a cap, v = .slice a zs.length cap ∧ zs.length ≤ cap ∧ cap ≤ 9223372036854775807 := by
    obtain ⟨cs, -, hL, -⟩ := h
    obtain ⟨-, a, cap, e, h1, h2, -⟩ := hL
    unfold maxLen at h2
    exact ⟨a, cap, e, h1, by omega⟩
  subst ev
  obtain ⟨l, hl⟩ : ∃ l, l = zs.length := ⟨_, rfl⟩
  rw [← hl] at hcap h HOK ⊢
  have HN := hide hl
  rw [hW0] at HOK
  have HW0 := hide hW0.symm
  clear hW0
  cases hok : ok zs
  · have HR := hide (show top most zs = [] by unfold top; rw [hok]; rfl)
    rw [hok] at HOK
    clear hok h hg hlen hl
    go_enter Try.func30, Try.ntmps30
    go_wp2_with fail
    refine (unhide HOK).mono ?_
    rintro e w1 ⟨rfl, b1⟩
    rw [unhide HW0] at b1
    have On := hide (show Own w.heap.size w1.heap.size w1 (.slice (some ⟨w.heap.size, 0, none⟩) 0 0) [] from ⟨[], rfl, own_below oW0 b1, own_block_lt (own_below oW0 b1), Nat.le_refl _, fun i j _ h => absurd h (Nat.not_lt_zero _), fun i j _ h => absurd h (Nat.not_lt_zero _), fun i hi => absurd hi (Nat.not_lt_zero _)⟩)
    go_wp2_with fail
    go_ret
    exact ⟨_, rfl, by rw [unhide HR]; exact unhide On, bW0.trans (b1.mono bW0.size)⟩
  · have HR := hide (show top most zs = topTo zs most l by unfold top; rw [hok, hl]; rfl)
    rw [hok] at HOK
    have hl10 := ok_len hok
    rw [← hl] at hl10
    have HI := hide h
    have HO := hide hok
    clear hok h hg hlen hl
    go_enter Try.func30, Try.ntmps30
    go_wp2_with fail
    refine (unhide HOK).mono ?_
    rintro e w1 ⟨rfl, b1⟩
    rw [unhide HW0] at b1
    have c1 := bW0.trans (b1.mono bW0.size)
    have o1 := own_below oW0 b1
    go_wp2_with fail
    go_loopw [5, 6] (fun ov iv wr => ∃ (k : Nat) (L : List E) (ao : Option Addr) (qo : Nat), k ≤ l ∧ iv = .int .i64 k ∧ ov = .slice ao L.length qo ∧ L = topTo zs most k ∧ Hid (Sel w wr ov L) ∧ Below w.heap.size w wr) (fun _ iv _ => l - (intOf iv).toNat)
    case atStart => exact ⟨0, [], _, _, Nat.zero_le _, rfl, rfl, rfl, hide ⟨[], rfl, o1, fun i h => by simp at h⟩, c1⟩
    case round =>
      obtain ⟨k, L, ao, qo, hk, rfl, rfl, hL, HSel, hbel⟩ := hrel
      obtain ⟨wo, hwo⟩ : ∃ wo, wo = wr := ⟨_, rfl⟩
      subst hwo
      have hsz := hbel.size
      by_cases hlt : k < l
      · have hLk := topTo_le zs most k
        rw [← hL] at hLk
        have HAh := hide (fun W (hb : Below w.heap.size w W) j (hj : j < l) => l11ahead j k ((unhide HI).below hb) (unhide HN) hcap (unhide HO) hj hlt)
        have HY := hide (fun (h : (rankTo zs k l : Int) < most) => (show topTo zs most (k + 1) = L ++ [at' zs k] by rw [hL]; exact topTo_yes (by rw [← unhide HN]; exact h)))
        have HNo := hide (fun (h : ¬ (rankTo zs k l : Int) < most) => (show topTo zs most (k + 1) = L by rw [hL]; exact topTo_no (by rw [← unhide HN]; exact h)))
        have hk0 : (0 : Int) ≤ (k : Int) := Int.natCast_nonneg _
        have hk1 : (k : Int) < (l : Int) := by omega
        have HHL := hide hL
        clear hL
        go_wp2_with fail
        go_loopw [7, 8] (fun s jv wr => ∃ j : Nat, j ≤ l ∧ jv = .int .i64 j ∧ s = .int .i64 (rankTo zs k j : Int) ∧ Below wo.heap.size wo wr) (fun _ jv _ => l - (intOf jv).toNat)
        case atStart => exact ⟨0, Nat.zero_le _, rfl, rfl, Below.refl _ _⟩
        case round =>
          obtain ⟨j, hj, rfl, rfl, hbj⟩ := hrel
          have cj := hbel.trans (hbj.mono hsz)
          have zj := hbj.size
          by_cases hjl : j < l
          · have hr := rankTo_le zs k j
            have HYj := hide (fun (h : ahead zs j k = true) => rank_yes h)
            have HNj := hide (fun (h : ahead zs j k = false) => rank_no h)
            have HA := hide (unhide HAh wr cj j hjl)
            generalize rankTo zs k j = rk at hr HYj HNj
            have hj0 : (0 : Int) ≤ (j : Int) := Int.natCast_nonneg _
            have hj1 : (j : Int) < (l : Int) := by omega
            go_wp2_with fail
            refine (unhide HA).mono ?_
            rintro e w2 ⟨rfl, b2⟩
            cases hah : ahead zs j k
            · have HF := hide (unhide HNj hah)
              go_wp2_with fail
              go_roundw
              case rel => exact ⟨j + 1, by omega, by go_num, by rw [unhide HF], hbj.trans (b2.mono zj)⟩
              case measure => simp [intOf]; omega
            · have HF := hide (unhide HYj hah)
              go_wp2_with fail
              go_roundw
              case rel => exact ⟨j + 1, by omega, by go_num, by rw [unhide HF]; go_num, hbj.trans (b2.mono zj)⟩
              case measure => simp [intOf]; omega
          · obtain rfl : j = l := by omega
            obtain ⟨b, off, rfl, a0, ll, q0, b1', o1, m, q1, hA⟩ := row_at (unhide HI) (unhide HO) (show k < zs.length by have := unhide HN; omega)
            have hB := hA.below cj
            have hc0 := hB.c0
            have hc1 := hB.c1
            have hbl := hB.bl
            have HEl := hide hA.el
            have z2 := cj.size
            generalize hrk : (rankTo zs k j : Int) = rk at HY HNo
            clear hrk hA hB HAh
            by_cases hlt2 : rk < most
            · have HF := hide (unhide HY hlt2)
              obtain ⟨cs, s1, s2, s3⟩ := unhide HSel
              have o2 := own_below s2 hbj
              have HS3 := hide s3
              have HS1 := hide s1
              clear s1 s2 s3 HSel
              go_wp2_with (at_builtin; refine app_wp _ rfl _ _ _ rfl w.heap.size 61 i0 _ 2 48 Try.underlying24 hi hz0 hz1 hz2 rfl (by omega) _ _ _ rfl (o2.alloc _) _ 1 [.slice a0 ll q0, .slice (some ⟨b1', o1, none⟩) (m + 1) q1] rfl (lies_new rfl rfl (by unfold maxLen; omega)) (by simp [Value.oneCell']) (by unfold maxLen; omega) (by omega) (by simp; omega) ?_; intro vn wn on gn an)
              have R9 := below_grown (cj.alloc z2 _) (by simp; omega) gn (own_ge o2)
              have R2 : Sel w wn vn (L ++ [at' zs k]) := by
                refine ⟨cs ++ [(.slice a0 ll q0, .slice (some ⟨b1', o1, none⟩) (m + 1) q1)], by rw [List.length_append, List.length_append, unhide HS1]; rfl, by rw [flatOf_append, flatOf_one, List.length_append]; exact on, fun i hi => ?_⟩
                rw [List.length_append] at hi
                simp only [List.length_cons, List.length_nil] at hi
                by_cases e : i < L.length
                · rw [cat_lt cs _ i (by rw [unhide HS1]; exact e), at_snoc_lt L _ i e]; exact unhide HS3 i e
                · obtain rfl : i = L.length := by omega
                  rw [at_snoc_last, ← unhide HS1, cat_last]; exact unhide HEl
              obtain ⟨an', qn', evn⟩ : ∃ a q, vn = Value.slice a (L ++ [at' zs k]).length q := by obtain ⟨_, -, o, -⟩ := R2; obtain ⟨-, a, q, e, -⟩ := lies_of_own o; exact ⟨a, q, e⟩
              have HR2 := hide R2
              clear on gn an R2 HS3
              go_wp2_with fail
              go_roundw
              case rel => exact ⟨k + 1, _, _, _, by omega, by go_num, evn, (unhide HF).symm, HR2, R9⟩
              case measure => simp [intOf]; omega
            · have HF := hide (unhide HNo (by omega))
              have hd : decide (rk < most) = false := by simp; omega
              have HR2 := hide (show Sel w wr (.slice ao L.length qo) L by obtain ⟨cs, s1, s2, s3⟩ := unhide HSel; exact ⟨cs, s1, own_below s2 hbj, s3⟩)
              clear HSel hc0 hc1
              go_wp2_with fail
              go_roundw
              case rel => exact ⟨k + 1, L, _, _, by omega, by go_num, rfl, (unhide HF).symm, HR2, cj⟩
              case measure => simp [intOf]; omega
      · have HF := hide (show L = top most zs by rw [unhide HR, hL, show k = l by omega])
        have HCp := hide (l5copy ((unhide HSel).is hbel) (by rw [hL, show k = zs.length by have := unhide HN; omega]; exact topTo_ok most (unhide HO)))
        clear HSel hL
        go_wp2_with fail
        refine (unhide HCp).mono ?_
        rintro e w3 ⟨r, rfl, o3, b3⟩
        have O3 := hide (o3.wide2 hsz (Nat.le_refl _) (Nat.le_refl _))
        have c3 := hbel.trans (b3.mono hsz)
        clear o3
        go_wp2_with fail
        go_ret
        exact ⟨r, rfl, by rw [← unhide HF]; exact unhide O3, c3⟩
end Go.Proofs.Ytdggffcibcggoaa.Row

/- What the laws' own helpers do to mark rows, and to see that the marks are held. -/
namespace Go.Proofs.Ytdggffcibcggoaa.Row
open Go.RowKit Rw
set_option linter.unusedVariables false
attribute [local go_sem ↓] Go.wp_at_zero Go.wp_at_succ
def cntE (x : E) : Nat := 2 * x.1.length + 2 * x.2.length
def cntTo (zs : List E) (i : Nat) : Nat := ((zs.take i).map cntE).sum
def cnt (zs : List E) : Nat := cntTo zs zs.length
theorem cntTo_succ (zs : List E) (j : Nat) (h : j < zs.length) : cntTo zs (j + 1) = cntTo zs j + cntE (at' zs j) := by
  unfold cntTo
  rw [List.take_succ_eq_append_getElem h, List.map_append, List.sum_append, at_get zs j h]
  simp
theorem cntTo_mono (zs : List E) : ∀ (i j : Nat), i ≤ j → j ≤ zs.length → cntTo zs i ≤ cntTo zs j
  | i, 0, h, _ => by obtain rfl : i = 0 := by omega
                     exact Nat.le_refl _
  | i, j + 1, h, hl => by
    by_cases e : i = j + 1
    · subst e; exact Nat.le_refl _
    · have h1 := cntTo_mono zs i j (by omega) (by omega)
      rw [cntTo_succ zs j (by omega)]
      omega
theorem cntTo_le (zs : List E) (j : Nat) (h : j < zs.length) : cntTo zs j + cntE (at' zs j) ≤ cnt zs := by
  rw [← cntTo_succ zs j h]
  exact cntTo_mono zs _ _ (by omega) (Nat.le_refl _)
def mkAt (k0 : Nat) (zs : List E) (i : Nat) : E := (Lab.marks (k0 + cntTo zs i) (at' zs i).1.length, Sam.marks (k0 + cntTo zs i + 2 * (at' zs i).1.length) (at' zs i).2.length)
def mk (k0 : Nat) (zs : List E) : List E := (List.range zs.length).map (mkAt k0 zs)
theorem mk_length (k0 : Nat) (zs : List E) : (mk k0 zs).length = zs.length := by simp [mk]
theorem mk_at (k0 : Nat) (zs : List E) (i : Nat) (h : i < zs.length) : at' (mk k0 zs) i = mkAt k0 zs i := by
  rw [at_get _ _ (by rw [mk_length]; exact h)]
  simp [mk]
/-- what row i holds when j rows are marked -/
def cur (k0 : Nat) (zs : List E) (j i : Nat) : E := if i < j then mkAt k0 zs i else at' zs i
set_option maxRecDepth 100000 in
set_option maxHeartbeats 4000000 in
theorem mark_some {lo hi g n cap : Nat} {zs : List E} {w : World} (k0 : Nat) (hk1 : 1 ≤ k0) (hk2 : k0 ≤ 100000000) (hn : zs.length = n) (ht : cnt zs ≤ 2097152) (hnb : n ≤ 2097152) (h : Own lo hi w (.slice (some ⟨g, 0, none⟩) n cap) zs) :
    Calls Try.prog 16 #[.slice (some ⟨g, 0, none⟩) n cap, .int .i64 k0] w fun e w' => ∃ k : Nat, e = .returned (.int .i64 k) ∧ k = k0 + cnt zs ∧ Own lo hi w' (.slice (some ⟨g, 0, none⟩) n cap) (mk k0 zs) ∧ Zone lo hi w w' := by
  obtain ⟨cs, h1, h2, h3, h4, h5, h6, h7⟩ := h
  rw [hn] at h1 h2 h5 h6 h7
  have HN := hide hn
  have HI := hide (fun i (hi' : i < n) => (h7 i hi').2)
  have HR := hide (show ∀ i, i < n → w.ownsRow lo 86 2 (cat cs i).1 (cur k0 zs 0 i).1.length (Lab.flat (cur k0 zs 0 i).1) ∧ w.ownsRow lo 38 2 (cat cs i).2 (cur k0 zs 0 i).2.length (Sam.flat (cur k0 zs 0 i).2) from fun i hi' => by rw [show cur k0 zs 0 i = at' zs i from if_neg (by omega)]; exact (h7 i hi').1)
  have HA1 := hide h5
  have HA2 := hide h6
  have HC := hide h1
  have HTT := hide ht
  have H34 := hide (And.intro h3 h4)
  clear h5 h6 h7 h1 hn ht h3 h4
  go_enter Try.func16, Try.ntmps16
  go_wp2
  go_loopw [1, 5] (fun kv i wr => ∃ (j q : Nat), j ≤ n ∧ i = .int .i64 j ∧ kv = .int .i64 q ∧ Hid (q = k0 + cntTo zs j) ∧ wr.ownsRow lo 61 2 (.slice (some ⟨g, 0, none⟩) n cap) n (flatOf cl cs) ∧ Hid (∀ i, i < n → wr.ownsRow lo 86 2 (cat cs i).1 (cur k0 zs j i).1.length (Lab.flat (cur k0 zs j i).1) ∧ wr.ownsRow lo 38 2 (cat cs i).2 (cur k0 zs j i).2.length (Sam.flat (cur k0 zs j i).2)) ∧ Zone lo hi w wr) (fun _ i _ => n - (intOf i).toNat)
  case atStart => exact ⟨0, k0, Nat.zero_le _, rfl, rfl, hide (by simp [cntTo]), h2, HR, Zone.refl _ _ _⟩
  case round =>
    clear HR h2
    obtain ⟨j, q, hj, rfl, rfl, HQ, ho, HR, hzn⟩ := hrel
    by_cases hlt : j < n
    · have fa := flat_at cs j (by have := unhide HC; omega)
      have hc0 : wr.cell? ⟨g, j * 2, none⟩ = some (cat cs j).1 := by rw [ho.cellAt (j * 2) (by omega)]; exact fa.1
      have hc1 : wr.cell? ⟨g, j * 2 + 1, none⟩ = some (cat cs j).2 := by rw [ho.cellAt (j * 2 + 1) (by omega)]; exact fa.2
      have h0 : (0 : Int) ≤ (j : Int) := Int.natCast_nonneg _
      have h1 : (j : Int) < (n : Int) := by omega
      have hq := unhide HQ
      have hle := cntTo_le zs j (by have := unhide HN; omega)
      unfold cntE at hle
      have hxo := unhide HR j hlt
      rw [show cur k0 zs j j = at' zs j from if_neg (Nat.lt_irrefl _)] at hxo
      have HM := hide (Lab.mark_any q (by omega) (by have := unhide HTT; omega) (by have := unhide HTT; omega) hxo.1 (in_self (cat cs j).1))
      -- behind the labels' marks
      have HR1 := hide (fun (w' : World) (hw : Zone (loOf (cat cs j).1) (hiOf (cat cs j).1) wr w') (hy : w'.ownsRow lo 86 2 (cat cs j).1 (at' zs j).1.length (Lab.flat (Lab.marks q (at' zs j).1.length))) =>
        (show w'.ownsRow lo 61 2 (.slice (some ⟨g, 0, none⟩) n cap) n (flatOf cl cs) ∧ w'.ownsRow lo 38 2 (cat cs j).2 (at' zs j).2.length (Sam.flat (at' zs j).2) ∧ (∀ i, i < n → i ≠ j → w'.ownsRow lo 86 2 (cat cs i).1 (cur k0 zs j i).1.length (Lab.flat (cur k0 zs j i).1) ∧ w'.ownsRow lo 38 2 (cat cs i).2 (cur k0 zs j i).2.length (Sam.flat (cur k0 zs j i).2)) ∧ Zone lo hi w w' from
          ⟨hw.own ho (out_of_ne (own_ne_type hxo.1 ho (by decide))), hw.own hxo.2 (out_of_ne (own_ne_type hxo.1 hxo.2 (by decide))),
           fun i hi' hij => ⟨hw.own (unhide HR i hi').1 (out_of_ne ((unhide HA1).ne (fun e => hij e.symm) hlt hi')), hw.own (unhide HR i hi').2 (out_of_ne (own_ne_type hxo.1 (unhide HR i hi').2 (by decide)))⟩,
           hzn.trans (zone_in hw (fun k hk => ⟨own_ge hxo.1 k hk, (unhide HI j hlt).1 k hk⟩))⟩))
      have HLb := hide (show 1 ≤ q ∧ q + 2 * (at' zs j).1.length ≤ 500000000000 ∧ (at' zs j).2.length ≤ 8388608 ∧ q + 2 * (at' zs j).1.length + 2 * (at' zs j).2.length = k0 + cntTo zs (j + 1) from ⟨by omega, by have := unhide HTT; omega, by have := unhide HTT; omega, by rw [cntTo_succ zs j (by have := unhide HN; omega)]; unfold cntE; omega⟩)
      have HMk := hide (show mkAt k0 zs j = (Lab.marks q (at' zs j).1.length, Sam.marks (q + 2 * (at' zs j).1.length) (at' zs j).2.length) by unfold mkAt; rw [hq])
      clear fa hle hxo ho HR hzn
      obtain ⟨c0, hX0⟩ : ∃ c0, c0 = (cat cs j).1 := ⟨_, rfl⟩
      obtain ⟨c1, hX1⟩ : ∃ c1, c1 = (cat cs j).2 := ⟨_, rfl⟩
      rw [← hX0] at hc0 HM HR1
      rw [← hX1] at hc1 HR1
      have HX0 := hide hX0
      have HX1 := hide hX1
      clear hX0 hX1
      obtain ⟨l0, hl0⟩ : ∃ l, l = (at' zs j).1.length := ⟨_, rfl⟩
      rw [← hl0] at HM HLb HMk HR1
      have HL0 := hide hl0
      clear hl0 hq
      go_wp2_with fail
      refine (unhide HM).mono ?_
      rintro e w2 ⟨rfl, o2, z2⟩
      obtain ⟨r1, r2, r3, r4⟩ := unhide HR1 w2 z2 o2
      have hcc : w2.cell? ⟨g, j * 2 + 1, none⟩ = some c1 := by rw [r1.cellAt (j * 2 + 1) (by omega), unhide HX1]; exact (flat_at cs j (by have := unhide HC; omega)).2
      clear HR1 HM z2
      have HS := hide (Sam.mark_any (q + 2 * l0) (by have := unhide HLb; omega) (unhide HLb).2.1 (unhide HLb).2.2.1 r2 (in_self c1))
      have HR2 := hide (fun (w' : World) (hw : Zone (loOf c1) (hiOf c1) w2 w') (hy : w'.ownsRow lo 38 2 c1 (at' zs j).2.length (Sam.flat (Sam.marks (q + 2 * l0) (at' zs j).2.length))) =>
        (show w'.ownsRow lo 61 2 (.slice (some ⟨g, 0, none⟩) n cap) n (flatOf cl cs) ∧ (∀ i, i < n → w'.ownsRow lo 86 2 (cat cs i).1 (cur k0 zs (j + 1) i).1.length (Lab.flat (cur k0 zs (j + 1) i).1) ∧ w'.ownsRow lo 38 2 (cat cs i).2 (cur k0 zs (j + 1) i).2.length (Sam.flat (cur k0 zs (j + 1) i).2)) ∧ Zone lo hi w w' from
          ⟨hw.own r1 (out_of_ne (own_ne_type r2 r1 (by decide))),
           fun i hi' => by
             by_cases hij : i = j
             · subst hij
               rw [show cur k0 zs (i + 1) i = mkAt k0 zs i from if_pos (Nat.lt_succ_self i), unhide HMk]
               simp only [Lab.marks_length, Sam.marks_length]
               rw [← unhide HX0, ← unhide HX1]
               exact ⟨hw.own o2 (out_of_ne (own_ne_type r2 o2 (by decide))), hy⟩
             · rw [show cur k0 zs (j + 1) i = cur k0 zs j i by unfold cur; by_cases h : i < j <;> simp [h] <;> omega]
               refine ⟨hw.own (r3 i hi' hij).1 (out_of_ne (own_ne_type r2 (r3 i hi' hij).1 (by decide))), hw.own (r3 i hi' hij).2 (out_of_ne ?_)⟩
               rw [unhide HX1]
               exact (unhide HA2).ne (fun e => hij e.symm) hlt hi',
           r4.trans (zone_in hw (fun k hk => ⟨own_ge r2 k hk, (unhide HI j hlt).2 k (by rw [← unhide HX1]; exact hk)⟩))⟩))
      clear r1 r2 r3 r4 o2
      obtain ⟨l1, hl1⟩ : ∃ l, l = (at' zs j).2.length := ⟨_, rfl⟩
      rw [← hl1] at HS HLb HR2
      clear hl1
      obtain ⟨q1, hq1⟩ : ∃ q1, q1 = q + 2 * l0 := ⟨_, rfl⟩
      rw [← hq1] at HS HLb HR2
      rw [← hq1]
      clear hq1
      go_wp2_with fail
      refine (unhide HS).mono ?_
      rintro e w3 ⟨rfl, o3, z3⟩
      have RR := hide (unhide HR2 w3 z3 o3)
      clear HR2 HS o3 z3
      obtain ⟨q2, hq2⟩ : ∃ q2, q2 = q1 + 2 * l1 := ⟨_, rfl⟩
      rw [← hq2]
      have HQ2 := hide (show q2 = k0 + cntTo zs (j + 1) by rw [hq2]; exact (unhide HLb).2.2.2)
      clear hq2 HLb HQ
      go_wp2_with fail
      go_roundw
      case rel => exact ⟨j + 1, q2, by omega, by go_num, rfl, HQ2, (unhide RR).1, hide (unhide RR).2.1, (unhide RR).2.2⟩
      case measure => simp [intOf]; omega
    · obtain rfl : j = n := by omega
      have hq := unhide HQ
      have HF := hide (show Own lo hi wr (.slice (some ⟨g, 0, none⟩) j cap) (mk k0 zs) from ⟨cs, by rw [mk_length]; have := unhide HC; have := unhide HN; omega, by rw [mk_length, unhide HN]; exact ho, (unhide H34).1, Nat.le_trans (unhide H34).2 hzn.size, by rw [mk_length, unhide HN]; exact unhide HA1, by rw [mk_length, unhide HN]; exact unhide HA2, fun i hi' => by
        rw [mk_length] at hi'
        have hin : i < j := by have := unhide HN; omega
        rw [mk_at k0 zs i hi']
        have := unhide HR i hin
        rw [show cur k0 zs j i = mkAt k0 zs i from if_pos hin] at this
        exact ⟨this, unhide HI i hin⟩⟩)
      have HQ' := hide (show q = k0 + cnt zs by rw [hq]; unfold cnt; rw [unhide HN])
      clear hq HQ ho HR
      go_wp2
      go_ret
      exact ⟨q, rfl, unhide HQ', unhide HF, hzn⟩
theorem mark_nil (k0 : Int) (w : World) : Calls Try.prog 16 #[.slice none 0 0, .int .i64 k0] w fun e w' => e = .returned (.int .i64 k0) ∧ w' = w := by
  go_enter Try.func16, Try.ntmps16
  go_wp2
  refine wp_loop_rounds 1 ?_
  rw [rounds_succ]
  go_wp2
  go_ret
  exact ⟨rfl, rfl⟩
theorem len_cnt {zs : List E} (h : tot zs ≤ 1048576) : zs.length ≤ 2097152 := (tiny_of h).1
theorem markX {lo hi : Nat} {v : Value} {zs : List E} {w : World} (k0 : Nat) (hk1 : 1 ≤ k0) (hk2 : k0 ≤ 100000000) (hc : cnt zs ≤ 2097152 ∧ zs.length ≤ 2097152) (h : Own lo hi w v zs) :
    Calls Try.prog 16 #[v, .int .i64 k0] w fun e w' => ∃ k : Nat, e = .returned (.int .i64 k) ∧ k = k0 + cnt zs ∧ Own lo hi w' v (mk k0 zs) ∧ Zone lo hi w w' := by
  have hf := h
  obtain ⟨cs, hl, h2, -⟩ := h
  rcases h2.2 with ⟨h1, hz⟩ | ⟨g, cap, cur, h1, -⟩
  · subst h1
    obtain rfl : zs = [] := List.eq_nil_of_length_eq_zero hz
    refine (mark_nil k0 w).mono ?_
    rintro e w' ⟨rfl, rfl⟩
    exact ⟨k0, rfl, by simp [cnt, cntTo], hf, Zone.refl _ _ _⟩
  · subst h1
    exact mark_some k0 hk1 hk2 rfl hc.1 hc.2 hf
set_option maxRecDepth 100000 in
set_option maxHeartbeats 4000000 in
theorem heldX {v : Value} {zs : List E} {w : World} (k0 : Nat) (hk1 : 1 ≤ k0) (hk2 : k0 ≤ 100000000) (hc : cnt zs ≤ 2097152 ∧ zs.length ≤ 2097152) (h : Is w v (mk k0 zs)) :
    Calls Try.prog 17 #[v, .int .i64 k0] w fun e w' => ∃ k : Nat, e = .returned (.int .i64 k) ∧ k = k0 + cnt zs ∧ Below w.heap.size w w' := by
  obtain ⟨cs, hcs, hL, hE⟩ := h
  rw [mk_length] at hcs hL hE
  have HE := hide hE
  obtain ⟨-, a, cap, rfl, hcp, hm, -, hr⟩ := hL
  unfold maxLen at hm
  obtain ⟨n, hn⟩ : ∃ n, n = zs.length := ⟨_, rfl⟩
  rw [← hn] at hcp hr hcs ⊢
  have HN := hide hn
  have HC := hide hcs
  have HTT := hide hc
  clear hn hE hcs hc
  go_enter Try.func17, Try.ntmps17
  go_wp2_with fail
  go_loopw [1, 5] (fun kv i wr => ∃ (j q : Nat), j ≤ n ∧ i = .int .i64 j ∧ kv = .int .i64 q ∧ Hid (q = k0 + cntTo zs j) ∧ Below w.heap.size w wr) (fun _ i _ => n - (intOf i).toNat)
  case atStart => exact ⟨0, k0, Nat.zero_le _, rfl, rfl, hide (by simp [cntTo]), Below.refl _ _⟩
  case round =>
    obtain ⟨j, q, hj, rfl, rfl, HQ, hbel⟩ := hrel
    have hsz := hbel.size
    by_cases hlt : j < n
    · obtain ⟨b, off, rfl, hl, hcells⟩ := hr (by omega)
      have fa := flat_at cs j (by have := unhide HC; omega)
      have hc0 : wr.cell? ⟨b, off + j * 2, none⟩ = some (cat cs j).1 := (hbel.cell (p := ⟨b, _, none⟩) hl).trans (hcells (j * 2) _ fa.1)
      have hc1 : wr.cell? ⟨b, off + j * 2 + 1, none⟩ = some (cat cs j).2 := (hbel.cell (p := ⟨b, _, none⟩) hl).trans (hcells (j * 2 + 1) _ fa.2)
      have h0 : (0 : Int) ≤ (j : Int) := Int.natCast_nonneg _
      have h1 : (j : Int) < (n : Int) := by omega
      have hq := unhide HQ
      have hle := cntTo_le zs j (by have := unhide HN; omega)
      unfold cntE at hle
      have hEj := (unhide HE j (by have := unhide HN; omega)).below hbel
      rw [mk_at k0 zs j (by have := unhide HN; omega)] at hEj
      have HMk : mkAt k0 zs j = (Lab.marks q (at' zs j).1.length, Sam.marks (q + 2 * (at' zs j).1.length) (at' zs j).2.length) := by unfold mkAt; rw [hq]
      rw [HMk] at hEj
      have HM := hide (Lab.held_any q (by omega) (by have := unhide HTT; omega) (by have := unhide HTT; omega) hEj.1)
      have HS := hide (fun W (hb : Below wr.heap.size wr W) => Sam.held_any (q + 2 * (at' zs j).1.length) (by omega) (by have := unhide HTT; omega) (by have := unhide HTT; omega) (hEj.2.below hb))
      have HLb := hide (show q + 2 * (at' zs j).1.length + 2 * (at' zs j).2.length = k0 + cntTo zs (j + 1) by rw [cntTo_succ zs j (by have := unhide HN; omega)]; unfold cntE; omega)
      clear fa hle hEj HMk
      obtain ⟨c0, hX0⟩ : ∃ c0, c0 = (cat cs j).1 := ⟨_, rfl⟩
      obtain ⟨c1, hX1⟩ : ∃ c1, c1 = (cat cs j).2 := ⟨_, rfl⟩
      rw [← hX0] at hc0 HM
      rw [← hX1] at hc1 HS
      clear hX0 hX1
      obtain ⟨l0, hl0⟩ : ∃ l, l = (at' zs j).1.length := ⟨_, rfl⟩
      rw [← hl0] at HM HLb HS
      clear hl0 hq
      obtain ⟨l1, hl1⟩ : ∃ l, l = (at' zs j).2.length := ⟨_, rfl⟩
      rw [← hl1] at HS HLb
      clear hl1
      obtain ⟨q1, hq1⟩ : ∃ q1, q1 = q + 2 * l0 := ⟨_, rfl⟩
      rw [← hq1] at HS HLb HM
      clear hq1
      go_wp2_with fail
      refine (unhide HM).mono ?_
      rintro e w2 ⟨rfl, b2⟩
      have hcc : w2.cell? ⟨b, off + j * 2 + 1, none⟩ = some c1 := (b2.cell (p := ⟨b, off + j * 2 + 1, none⟩) (by show b < _; omega)).trans hc1
      have hbel2 := hbel.trans (b2.mono hsz)
      have HS2 := hide (unhide HS w2 b2)
      have hqn : decide ((q1 : Int) < 0) = false := by simp
      obtain ⟨q2, hq2⟩ : ∃ q2, q2 = q1 + 2 * l1 := ⟨_, rfl⟩
      rw [← hq2] at HS2 HLb
      clear hq2 HM HS b2
      go_wp2_with fail
      refine (unhide HS2).mono ?_
      rintro e w3 ⟨rfl, b3⟩
      have hbel3 := hbel2.trans (b3.mono hbel2.size)
      have hqn2 : decide ((q2 : Int) < 0) = false := by simp
      clear HS2 b3 HQ
      go_wp2_with fail
      go_roundw
      case rel => exact ⟨j + 1, q2, by omega, by go_num, rfl, HLb, hbel3⟩
      case measure => simp [intOf]; omega
    · obtain rfl : j = n := by omega
      have HQ' := hide (show q = k0 + cnt zs by rw [unhide HQ]; unfold cnt; rw [unhide HN])
      clear HQ
      go_wp2
      go_ret
      exact ⟨q, rfl, unhide HQ', hbel⟩
theorem cnt_tot (zs : List E) : ∀ j, j ≤ zs.length → cntTo zs j ≤ 2 * totTo zs j
  | 0, _ => by simp [cntTo]
  | j + 1, h => by
    have := cnt_tot zs j (by omega)
    rw [cntTo_succ zs j (by omega), totTo_succ zs j (by omega)]
    have h1 := Lab.tot_len (at' zs j).1
    have h2 : (at' zs j).2.length ≤ Sam.tot (at' zs j).2 := Nat.le_refl _
    unfold cntE szOf
    omega
theorem markA {lo hi : Nat} {v : Value} {zs : List E} {w : World} (k0 : Nat) (hk1 : 1 ≤ k0) (hk2 : k0 ≤ 100000000) (ht : tot zs ≤ 1048576) (h : Own lo hi w v zs) :
    Calls Try.prog 16 #[v, .int .i64 k0] w fun e w' => ∃ k : Nat, e = .returned (.int .i64 k) ∧ 1 ≤ k ∧ k ≤ k0 + 4194304 ∧ Zone lo hi w w' := by
  have hc : cnt zs ≤ 2097152 := by have := cnt_tot zs zs.length (Nat.le_refl _); rw [totTo_all] at this; unfold cnt; omega
  refine (markX k0 hk1 hk2 ⟨hc, (tiny_of ht).1⟩ h).mono ?_
  rintro e w' ⟨k, rfl, h1, -, z⟩
  exact ⟨k, rfl, by omega, by omega, z⟩
end Go.Proofs.Ytdggffcibcggoaa.Row
