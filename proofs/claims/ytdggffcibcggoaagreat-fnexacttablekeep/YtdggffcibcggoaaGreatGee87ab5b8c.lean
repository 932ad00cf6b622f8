/- My own texts of one claim, laid together by program: RSet2, CutMath, MatLaw. -/
import Derived.Test.YtdggffcibcggoaaGreatGc49e60e5b5
import Derived.Test.YtdggffcibcggoaaGreatG54735dbb26
import Derived.Test.YtdggffcibcggoaaGreatG2db420e969
import Derived.ChangeArms
/- The rows of a set; a new set; samples put to a row that is there. -/
namespace Go.Proofs.YtdggffcibcggoaaGreat.RSet
open Go.RowKit Rw
set_option linter.unusedVariables false
attribute [local go_sem ↓] Go.wp_at_zero Go.wp_at_succ
theorem new_any (w : World) : Calls Tryz.prog 69 #[] w fun e w' => ∃ mb, e = .returned (.agg #[.slice none 0 0, .map (some mb)]) ∧ w.heap.size ≤ mb ∧ SMap.MapIs w' mb 0 (fun _ => none) ∧ Below w.heap.size w w' := by
  have hmm := @run_makeMap Tryz.prog
  have B2 := hide (((Below.refl w.heap.size w).alloc (Nat.le_refl _) (.cells #[.slice none 0 0, .map (some (w.heap.size + 1))] 94)).alloc (by simp) (.map #[] 0))
  have hM := SMap.made (w.alloc (.cells #[.slice none 0 0, .map (some (w.heap.size + 1))] 94))
  simp only [World.size_alloc] at hM
  have hM2 := hide hM
  clear hM
  go_enter Tryz.func69, Tryz.ntmps69
  go_wp2
  refine bodyPost_ret (v := .agg #[.slice none 0 0, .map (some (w.heap.size + 1))]) (by simp [results, Tryz.results69, go_sem]) rfl ⟨_, rfl, by omega, unhide hM2, unhide B2⟩
set_option maxRecDepth 100000 in
set_option maxHeartbeats 8000000 in
theorem put_fail {lo B mb n m sc : Nat} {sa : Option Addr} {w : World} {ks : List ByteArray} {M : ByteArray → Option Row.C} {R : ByteArray → Row.E} {lv : Value} {ls : List Lab.E} {zs : List Sam.E} {c : Row.C}
    (h : IsSet lo B mb n w ks M R) (hl : Lab.Is w lv ls) (hlg : ∀ x ∈ ls, Lab.good x) (hlo : Lab.ok ls = true) (hs : Samp.Smp w (.slice sa m sc) zs) (hm : zs.length = m) (hJ : (SampMath.join (R (Lab.keyOf ls)).2 zs).2 = false) (h0 : 0 < m) (h1 : m ≤ 4194304) (h2 : (R (Lab.keyOf ls)).2.length ≤ 4194304) (hN : M (Lab.keyOf ls) = some c) :
    Calls Tryz.prog 80 #[.pointer (some ⟨B, 0, none⟩), lv, .slice sa m sc] w fun e w' => e = .returned (.bool false) ∧ Below w.heap.size w w' := by
  have hm0 : (m == 0) = false := by simp; omega
  have hmI : ((m : Int) == 0) = false := by simp; omega
  have HK := hide (Lab.rowKey_any hl hlg hlo)
  obtain ⟨⟨p1, p2⟩, p3, p4⟩ := h.row _ c hN
  have HJ := hide (fun W (hb : Below w.heap.size w W) => Samp.impl_join (w := W) (v := c.2) (zs := (R (Lab.keyOf ls)).2) (Samp.smp_of_own (by rw [flat_eq]; exact own_below p2 hb)) (hs.below hb) h2 (by omega))
  have hKs := key_size hlo
  unfold Samp.Joined at HJ
  rw [hJ] at HJ
  have HKS := hide hKs
  obtain ⟨K, hK⟩ : ∃ K, K = Lab.keyOf ls := ⟨_, rfl⟩
  rw [← hK] at HK hN HKS HJ p1 p2
  clear hl hlg hlo hs hKs hK hJ h2
  obtain ⟨c0, c1⟩ := c
  simp only at p1 p2 HJ
  obtain ⟨-, a0, q0, e0, -⟩ := lies_of_own p1
  obtain ⟨-, a1, q1, e1, -⟩ := lies_of_own p2
  generalize (R K).1.length = l0 at e0
  generalize (R K).2.length = l1 at e1
  clear p1 p2 p3 p4
  subst e0 e1
  have hB := h.ltB
  go_enter Tryz.func80, Tryz.ntmps80
  go_wp2_with fail
  refine (unhide HK).mono ?_
  rintro e w1 ⟨rfl, b1⟩
  have z1 := b1.size
  have hs1 := h.below b1
  have hlk := hs1.map.look_ok (s := K) (by have := unhide HKS; unfold maxLen; omega)
  simp only [hN, Option.map_some, Option.getD_some, Option.isSome_some, aggOf] at hlk
  have hmc := hs1.mapc
  clear hs1 HK h
  go_wp2_with fail
  obtain ⟨w2, hw2⟩ : ∃ w2, w2 = w1.alloc (.cells #[.slice a0 l0 q0, .slice a1 l1 q1] 88) := ⟨_, rfl⟩
  rw [← hw2]
  have b2 : Below w1.heap.size w1 w2 := by rw [hw2]; exact (Below.refl _ _).alloc (Nat.le_refl _) _
  have b12 : Below w.heap.size w w2 := b1.trans (b2.mono z1)
  clear hw2
  refine (unhide HJ w2 b12).mono ?_
  rintro e w3 ⟨x, rfl, ox, b3⟩
  have b13 : Below w.heap.size w w3 := b12.trans (b3.mono b12.size)
  clear HJ hlk hmc ox b3
  go_wp2_with fail
  go_ret
  exact ⟨rfl, b13⟩
set_option maxRecDepth 100000 in
set_option maxHeartbeats 8000000 in
theorem put_old {lo B mb n m sc : Nat} {sa : Option Addr} {w : World} {ks : List ByteArray} {M : ByteArray → Option Row.C} {R : ByteArray → Row.E} {lv : Value} {ls : List Lab.E} {zs J : List Sam.E} {c : Row.C}
    (h : IsSet lo B mb n w ks M R) (hl : Lab.Is w lv ls) (hlg : ∀ x ∈ ls, Lab.good x) (hlo : Lab.ok ls = true) (hs : Samp.Smp w (.slice sa m sc) zs) (hm : zs.length = m) (hJ : SampMath.join (R (Lab.keyOf ls)).2 zs = (J, true)) (h0 : 0 < m) (h1 : m ≤ 4194304) (h2 : (R (Lab.keyOf ls)).2.length ≤ 4194304) (hn : n ≤ 1000) (hN : M (Lab.keyOf ls) = some c) (hlow : lo ≤ w.heap.size) :
    Calls Tryz.prog 80 #[.pointer (some ⟨B, 0, none⟩), lv, .slice sa m sc] w fun e w' => ∃ c, e = .returned (.bool true) ∧ IsSet lo B mb (n + 1) w' ks (fun k => if k = Lab.keyOf ls then some c else M k) (fun k => if k = Lab.keyOf ls then ((R k).1, J) else R k) ∧ Two B mb w w' := by
  have hm0 : (m == 0) = false := by simp; omega
  have hmI : ((m : Int) == 0) = false := by simp; omega
  have HK := hide (Lab.rowKey_any hl hlg hlo)
  obtain ⟨⟨p1, p2⟩, p3, p4⟩ := h.row _ c hN
  have HJ := hide (fun W (hb : Below w.heap.size w W) => Samp.impl_join (w := W) (v := c.2) (zs := (R (Lab.keyOf ls)).2) (Samp.smp_of_own (by rw [flat_eq]; exact own_below p2 hb)) (hs.below hb) h2 (by omega))
  have hKs := key_size hlo
  unfold Samp.Joined at HJ
  rw [hJ] at HJ
  simp only [flat_eq] at HJ
  have HKS := hide hKs
  have HLEN := hide hn
  obtain ⟨K, hK⟩ : ∃ K, K = Lab.keyOf ls := ⟨_, rfl⟩
  rw [← hK] at HK hN HKS p1 p2 ⊢
  clear hl hlg hlo hs hKs hK hJ h2 hn
  obtain ⟨c0, c1⟩ := c
  simp only at p1 p2 p3 p4 HJ
  have HP1 := hide p1
  have HP3 := hide p3
  obtain ⟨-, a0, q0, e0, -⟩ := lies_of_own p1
  obtain ⟨-, a1, q1, e1, -⟩ := lies_of_own p2
  generalize hl0 : (R K).1.length = l0 at e0
  generalize (R K).2.length = l1 at e1
  have HL0 := hide hl0
  clear p1 p2 p3 p4 hl0
  subst e0 e1
  have hB := h.ltB
  go_enter Tryz.func80, Tryz.ntmps80
  go_wp2_with fail
  refine (unhide HK).mono ?_
  rintro e w1 ⟨rfl, b1⟩
  have z1 := b1.size
  have hs1 := h.below b1
  have hlk := hs1.map.look_ok (s := K) (by have := unhide HKS; unfold maxLen; omega)
  simp only [hN, Option.map_some, Option.getD_some, Option.isSome_some, aggOf] at hlk
  have hmc := hs1.mapc
  have Hs1 := hide hs1
  clear hs1 HK h
  go_wp2_with fail
  obtain ⟨w2, hw2⟩ : ∃ w2, w2 = w1.alloc (.cells #[.slice a0 l0 q0, .slice a1 l1 q1] 88) := ⟨_, rfl⟩
  rw [← hw2]
  have b2 : Below w1.heap.size w1 w2 := by rw [hw2]; exact (Below.refl _ _).alloc (Nat.le_refl _) _
  have z2 : w2.heap.size = w1.heap.size + 1 := by rw [hw2]; simp
  have x20 : w2.cell? ⟨w1.heap.size, 0, none⟩ = some (.slice a0 l0 q0) := by rw [hw2]; simp [go_sem]
  have x21 : w2.cell? ⟨w1.heap.size, 1, none⟩ = some (.slice a1 l1 q1) := by rw [hw2]; simp [go_sem]
  have f21 : w2.frozen? ⟨w1.heap.size, 1, none⟩ = false := by rw [hw2]; simp [go_sem]
  have b12 : Below w.heap.size w w2 := b1.trans (b2.mono z1)
  clear hw2
  refine (unhide HJ w2 b12).mono ?_
  rintro e w3 ⟨x, rfl, ox, b3⟩
  have z3 := b3.size
  obtain ⟨xa, xq, rfl⟩ : ∃ a q, x = .slice a J.length q := by obtain ⟨-, a, q, e, -⟩ := lies_of_own ox; exact ⟨a, q, e⟩
  have b13 : Below w.heap.size w w3 := b12.trans (b3.mono b12.size)
  have b1_3 : Below w1.heap.size w1 w3 := b2.trans (b3.mono b2.size)
  have x30 := (b3.cell (p := ⟨w1.heap.size, 0, none⟩) (by show w1.heap.size < _; omega)).trans x20
  have x31 := (b3.cell (p := ⟨w1.heap.size, 1, none⟩) (by show w1.heap.size < _; omega)).trans x21
  have f31 := (b3.frozen (p := ⟨w1.heap.size, 1, none⟩) (by show w1.heap.size < _; omega)).trans f21
  clear x20 x21 f21 HJ hlk hmc
  have hs3 := (unhide Hs1).below b1_3
  have hne1 : ¬ B = w1.heap.size := by omega
  have hne2 : ¬ w1.heap.size = B := by omega
  obtain ⟨w8, hw8⟩ : ∃ w8, w8 = w3.setCell ⟨w1.heap.size, 1, none⟩ (.slice xa J.length xq) := ⟨_, rfl⟩
  have o8 : OnlyAt w1.heap.size w3 w8 := by rw [hw8]; exact (OnlyAt.refl _ _).setCell 1 _
  have c80 : w8.cell? ⟨w1.heap.size, 0, none⟩ = some (.slice a0 l0 q0) := by rw [hw8, World.cell?_setCell_other _ _ _ _ (by simp)]; exact x30
  have c81 : w8.cell? ⟨w1.heap.size, 1, none⟩ = some (.slice xa J.length xq) := by rw [hw8]; exact World.cell?_setCell_same _ _ _ x31
  have c8M : w8.cell? ⟨B, 1, none⟩ = some (.map (some mb)) := (World.cell?_of_block (a := ⟨B, 1, none⟩) (o8.block _ hne1)).trans hs3.mapc
  have hml := (unhide Hs1).map.lt
  have hnem : mb ≠ w1.heap.size := by omega
  have hBm := (unhide Hs1).ne
  have m8 : SMap.MapIs w8 mb n (fun k => (M k).map aggOf) := hs3.map.block (o8.block mb hnem)
  obtain ⟨w9, hmu, m9, o9⟩ := (m8.below (Below.refl _ _).drew).store (s := K) (by have := unhide HKS; unfold maxLen; omega) (by have := unhide HLEN; unfold maxLen; omega) (.agg #[.slice a0 l0 q0, .slice xa J.length xq])
  have S8 : (fun W : World => W.cell? ⟨B, 1, none⟩ = some (.map (some mb)) ∧ W.cell? ⟨w1.heap.size, 0, none⟩ = some (.slice a0 l0 q0) ∧ W.cell? ⟨w1.heap.size, 1, none⟩ = some (.slice xa J.length xq)) w8.drew := ⟨by simpa using c8M, by simpa using c80, by simpa using c81⟩
  have S9 : (fun W : World => W.cell? ⟨B, 1, none⟩ = some (.map (some mb)) ∧ W.cell? ⟨w1.heap.size, 0, none⟩ = some (.slice a0 l0 q0) ∧ W.cell? ⟨w1.heap.size, 1, none⟩ = some (.slice xa J.length xq)) w9 := ⟨(World.cell?_of_block (a := ⟨B, 1, none⟩) (o9.block _ hBm)).trans S8.1, (World.cell?_of_block (a := ⟨w1.heap.size, 0, none⟩) (o9.block _ hnem.symm)).trans S8.2.1, (World.cell?_of_block (a := ⟨w1.heap.size, 1, none⟩) (o9.block _ hnem.symm)).trans S8.2.2⟩
  have HM9 := hide m9
  have Hs3 := hide hs3
  clear m9 m8 hs3
  go_wp2_with fail
  rw [← hw8]
  clear hw8
  go_region_held3 (fun W => W.cell? ⟨B, 1, none⟩ = some (.map (some mb)) ∧ W.cell? ⟨w1.heap.size, 0, none⟩ = some (.slice a0 l0 q0) ∧ W.cell? ⟨w1.heap.size, 1, none⟩ = some (.slice xa J.length xq)) (first | exact S8 | exact S9) (fail)
  go_wp2_with fail
  go_ret
  have z8 := o8.size
  have z9 := o9.size
  simp only [World.size_drew] at z9
  have two1 : Two B mb w1 w9 := (((Two.of_below b1_3).then_only (Nat.le_refl _) o8).trans (Two.of_below (Below.refl _ _).drew)).trans (Two.of_onlyM o9)
  have hs1 := unhide Hs1
  have hml1 : mb < w1.heap.size := hml
  have ox9 : w9.ownsRow lo 133 2 (.slice xa J.length xq) J.length (Sam.flat J) := own_mono (o9.own (World.ownsRow.drew (o8.own ox (fun k hk' => by have := own_ge ox k hk'; omega))) (fun k hk' => by have := own_ge ox k hk'; omega)) (by omega)
  obtain ⟨kv, kc1, ko1, kf⟩ := hs1.key
  refine ⟨(.slice a0 l0 q0, .slice xa J.length xq), rfl, ⟨hs1.loB, hs1.loM, hs1.ne, by omega, ⟨kv, ?_, two1.own ko1 kf, kf⟩, S9.1, ?_, ?_, ?_, ?_, ?_⟩, (Two.of_below b1).trans two1⟩
  · exact (World.cell?_of_block (a := ⟨B, 0, none⟩) (o9.block _ hBm)).trans ((show w8.drew.cell? ⟨B, 0, none⟩ = w8.cell? ⟨B, 0, none⟩ by simp).trans ((World.cell?_of_block (a := ⟨B, 0, none⟩) (o8.block _ hne1)).trans ((b1_3.cell (p := ⟨B, 0, none⟩) (by show B < _; omega)).trans kc1)))
  · exact (World.frozen?_of_block (a := ⟨B, 0, none⟩) (o9.block _ hBm)).trans ((show w8.drew.frozen? ⟨B, 0, none⟩ = w8.frozen? ⟨B, 0, none⟩ by simp).trans ((World.frozen?_of_block (a := ⟨B, 0, none⟩) (o8.block _ hne1)).trans (unhide Hs3).fz))
  · have e : (fun k => (if k = K then some (Value.slice a0 l0 q0, Value.slice xa J.length xq) else M k).map aggOf) = (fun t => if t = K then some (.agg #[.slice a0 l0 q0, .slice xa J.length xq]) else (M t).map aggOf) := by funext t; split <;> rfl
    rw [e]
    exact unhide HM9
  · intro k
    by_cases e : k = K
    · subst e
      simp only [if_true, Option.isSome_some, true_iff]
      exact (hs1.has k).1 (by rw [hN]; rfl)
    · simp only [if_neg e]
      exact hs1.has k
  · intro k c hc
    by_cases e : k = K
    · subst e
      simp only [if_true, Option.some.injEq] at hc ⊢
      subst hc
      simp only
      have p1 := own_below (unhide HP1) b1
      exact ⟨⟨two1.own p1 (unhide HP3), ox9⟩, unhide HP3, fun k hk' => by have := own_ge ox k hk'; omega⟩
    · simp only [if_neg e] at hc ⊢
      obtain ⟨⟨p1, p2⟩, p3, p4⟩ := hs1.row k c hc
      exact ⟨⟨two1.own p1 p3, two1.own p2 p4⟩, p3, p4⟩
  · intro k k' c c' hne hc hc'
    by_cases e : k = K
    · have e' : ¬ k' = K := fun h => hne (e.trans h.symm)
      simp only [if_pos e, if_neg e', Option.some.injEq] at hc hc'
      subst hc
      obtain ⟨⟨p1, p2⟩, p3, p4⟩ := hs1.row k' c' hc'
      exact ⟨(hs1.apart K k' _ c' (fun h => e' h.symm) hN hc').1, fun b hb hb' => by have h1 := own_ge ox b hb; have h2 := own_block_lt p2 b hb'; omega⟩
    · by_cases e' : k' = K
      · simp only [if_neg e, if_pos e', Option.some.injEq] at hc hc'
        subst hc'
        obtain ⟨⟨p1, p2⟩, p3, p4⟩ := hs1.row k c hc
        exact ⟨(hs1.apart k K c _ e hc hN).1, fun b hb hb' => by have h1 := own_ge ox b hb'; have h2 := own_block_lt p2 b hb; omega⟩
      · simp only [if_neg e, if_neg e'] at hc hc'
        exact hs1.apart k k' c c' hne hc hc'
set_option maxRecDepth 100000 in
set_option maxHeartbeats 8000000 in
theorem rows_any {lo B mb n : Nat} {w : World} {ks : List ByteArray} {M : ByteArray → Option Row.C} {R : ByteArray → Row.E} (h : IsSet lo B mb n w ks M R) (hnd : ks.Nodup) (hsz : ∀ k ∈ ks, k.size ≤ 2002002) (hk : ks.length ≤ 1000) (hlow : lo ≤ w.heap.size) :
    Calls Tryz.prog 71 #[.pointer (some ⟨B, 0, none⟩)] w fun e w' => ∃ v, e = .returned v ∧ Row.Own lo w'.heap.size w' v (ks.map R) ∧ Below w.heap.size w w' := by
  obtain ⟨i0, hi, hz0, hz1, hz2⟩ := info_parts Row.info_e
  obtain ⟨kv, kc, ko, kf⟩ := h.key
  have hmc := h.mapc
  have hB := h.ltB
  have hL := lies_of_own ko
  obtain ⟨-, ka, kq, rfl, hc, hm, -, hr⟩ := hL
  unfold maxLen at hm
  obtain ⟨l, hl⟩ : ∃ l, l = ks.length := ⟨_, rfl⟩
  rw [← hl] at hc hr hk kc
  have HN := hide hl
  have Hs := hide h
  have HSZ := hide hsz
  have hCell : ∀ k ∈ ks, ∃ c, M k = some c := fun k hk' => by have := (h.has k).2 hk'; exact Option.isSome_iff_exists.1 this
  obtain ⟨F, hF⟩ : ∃ F : ByteArray → Row.C, ∀ k ∈ ks, M k = some (F k) := ⟨fun k => (M k).getD (.slice none 0 0, .slice none 0 0), fun k hk' => by obtain ⟨c, e⟩ := hCell k hk'; simp only [e, Option.getD_some]⟩
  have HF := hide hF
  have HND := hide hnd
  clear h hsz hl ko kf hF hCell hnd
  go_enter Tryz.func71, Tryz.ntmps71
  go_wp2_with fail
  go_loopw [3, 11] (fun pv i wr => ∃ (k : Nat) (pa : Option Addr) (pc : Nat), k ≤ l ∧ i = .int .i64 k ∧ pv = .slice pa k pc ∧ wr.ownsRow w.heap.size 88 2 pv k (flatOf Row.cl ((ks.take k).map F)) ∧ Below w.heap.size w wr) (fun _ i _ => l - (intOf i).toNat)
  case atStart => exact ⟨0, none, 0, Nat.zero_le _, rfl, rfl, World.ownsRow_nil _ _ _ _, Below.refl _ _⟩
  case round =>
    obtain ⟨k, pa, pc, hk', rfl, rfl, hown, hbel⟩ := hrel
    have hsz := hbel.size
    have hk0 : (0 : Int) ≤ (k : Int) := Int.natCast_nonneg _
    by_cases hlt : k < l
    · obtain ⟨b, off, rfl, hbl, hcells⟩ := hr (by omega)
      have hkl : k < ks.length := by have := unhide HN; omega
      have fa : (Str.flat ks)[k]? = some (.string ks[k]) := by have := flatOf_get Str.flk ks k 0 hkl (by omega); simpa [Str.fl] using this
      have hc0 : wr.cell? ⟨b, off + k, none⟩ = some (.string ks[k]) := (hbel.cell (p := ⟨b, _, none⟩) hbl).trans (hcells k _ fa)
      have hmem : ks[k] ∈ ks := List.getElem_mem _
      have hMk := unhide HF _ hmem
      have hmcr := (hbel.cell (p := ⟨B, 1, none⟩) hB).trans hmc
      have hlk := ((unhide Hs).map.below hbel).look (s := ks[k]) (by have := unhide HSZ _ hmem; unfold maxLen; omega)
      rw [show (M ks[k]).map aggOf = some (aggOf (F ks[k])) by rw [hMk]; rfl] at hlk
      simp only [Option.getD_some, aggOf] at hlk
      have HPS := hide (show flatOf Row.cl ((ks.take (k + 1)).map F) = flatOf Row.cl ((ks.take k).map F) ++ [(F ks[k]).1, (F ks[k]).2] by rw [List.take_succ_eq_append_getElem hkl, List.map_append, flatOf_append]; rfl)
      obtain ⟨⟨p1, p2⟩, -⟩ := (unhide Hs).row _ _ hMk
      obtain ⟨c0, c1, hX⟩ : ∃ c0 c1, (c0, c1) = F ks[k] := ⟨_, _, rfl⟩
      rw [← hX] at hlk HPS p1 p2
      simp only at hlk HPS p1 p2
      obtain ⟨-, a0, q0, e0, -⟩ := lies_of_own p1
      obtain ⟨-, a1, q1, e1, -⟩ := lies_of_own p2
      generalize (R ks[k]).1.length = l0 at e0
      generalize (R ks[k]).2.length = l1 at e1
      clear hX hMk p1 p2
      subst e0 e1
      clear fa hmem
      generalize ks[k] = K at hc0 hlk
      have hk1 : (k : Int) < (l : Int) := by omega
      have hmx : 1 ≤ maxLen := by unfold maxLen; omega
      go_wp2_with (at_builtin; refine app_wp _ rfl _ _ _ rfl w.heap.size 88 i0 _ 2 48 Tryz.underlying26 hi hz0 hz1 hz2 rfl (by omega) _ k _ rfl (hown.alloc _) _ 1 [.slice a0 l0 q0, .slice a1 l1 q1] rfl (lies_new (by simp) rfl hmx) (by simp [Value.oneCell']) (by unfold maxLen; omega) (by omega) (by simp; omega) ?_; intro vn wn on gn an)
      have R9 : Below w.heap.size w wn := below_grown (hbel.alloc hsz _) (by simp; omega) gn (own_ge hown)
      have R2 := hide (show wn.ownsRow w.heap.size 88 2 vn (k + 1) (flatOf Row.cl ((ks.take (k + 1)).map F)) by rw [unhide HPS]; exact on)
      obtain ⟨an', cn, hvn⟩ : ∃ a c, vn = .slice a (k + 1) c := by obtain ⟨-, a, c, e, -⟩ := lies_of_own on; exact ⟨a, c, e⟩
      have HV := hide hvn
      clear on gn an hown hvn
      go_wp2_with fail
      go_roundw
      case rel => exact ⟨k + 1, an', cn, by omega, by go_num, unhide HV, unhide R2, R9⟩
      case measure => simp [intOf]; omega
    · obtain rfl : k = l := by omega
      rw [List.take_of_length_le (by have := unhide HN; omega)] at hown
      have hs := (unhide Hs).below hbel
      have HO := hide (show Row.Own lo wr.heap.size wr (.slice pa k pc) (ks.map R) from ⟨ks.map F, by simp, by rw [List.length_map, ← unhide HN]; exact own_mono hown hlow, own_block_lt hown, Nat.le_refl _, fun i j hij hj b hb => by
          rw [List.length_map] at hj
          have e1 : Row.cat (ks.map F) i = F (ks[i]'(by omega)) := by simp [Row.cat, List.getD, show i < ks.length by omega]
          have e2 : Row.cat (ks.map F) j = F ks[j] := by simp [Row.cat, List.getD, hj]
          simp only [e1, e2] at hb ⊢
          exact (hs.apart _ _ _ _ (fun e => by have := (List.getElem_inj (unhide HND)).1 e; omega) (unhide HF _ (List.getElem_mem _)) (unhide HF _ (List.getElem_mem _))).1 b hb, fun i j hij hj b hb => by
          rw [List.length_map] at hj
          have e1 : Row.cat (ks.map F) i = F (ks[i]'(by omega)) := by simp [Row.cat, List.getD, show i < ks.length by omega]
          have e2 : Row.cat (ks.map F) j = F ks[j] := by simp [Row.cat, List.getD, hj]
          simp only [e1, e2] at hb ⊢
          exact (hs.apart _ _ _ _ (fun e => by have := (List.getElem_inj (unhide HND)).1 e; omega) (unhide HF _ (List.getElem_mem _)) (unhide HF _ (List.getElem_mem _))).2 b hb, fun i hi' => by
          rw [List.length_map] at hi'
          have e1 : Row.cat (ks.map F) i = F ks[i] := by simp [Row.cat, List.getD, hi']
          have e2 : Row.at' (ks.map R) i = R ks[i] := by rw [Row.at_get _ _ (by rw [List.length_map]; exact hi')]; simp
          rw [e1, e2]
          have := (hs.row _ _ (unhide HF _ (List.getElem_mem hi'))).1
          exact ⟨this, own_block_lt this.1, own_block_lt this.2⟩⟩)
      clear hs hown
      go_wp2
      go_ret
      exact ⟨_, rfl, unhide HO, hbel⟩
end Go.Proofs.YtdggffcibcggoaaGreat.RSet

/- What is cut and joined again is the whole. No condition. -/
namespace Go.Proofs.YtdggffcibcggoaaGreat.Samp
open SampMath
set_option linter.unusedVariables false
theorem ok_iff (zs : List S) : ok zs = true ↔ (∀ z ∈ zs, inR z.1 z.2 = true) ∧ zs.Pairwise (fun a b => a.1 < b.1) := by
  constructor
  · intro h
    constructor
    · intro z hz
      obtain ⟨i, hi, rfl⟩ := List.getElem_of_mem hz
      have h1 := ok_at h hi
      have e : at' zs i = zs[i] := by simp [at', List.getD, hi]
      unfold stepOk at h1
      rw [e] at h1
      simp only [Bool.and_eq_true] at h1
      exact h1.1
    · rw [List.pairwise_iff_getElem]
      intro i j hi hj hij
      have := ok_lt h hij hj
      have e1 : at' zs i = zs[i] := by simp [at', List.getD, hi]
      have e2 : at' zs j = zs[j] := by simp [at', List.getD, hj]
      rw [e1, e2] at this
      exact this
  · rintro ⟨h1, h2⟩
    unfold ok okTo
    rw [List.all_eq_true]
    intro i hi
    have hi' : i < zs.length := by simpa using hi
    have e : at' zs i = zs[i] := by simp [at', List.getD, hi']
    have hr := h1 zs[i] (List.getElem_mem hi')
    rcases Nat.eq_zero_or_pos i with h0 | h0
    · subst h0
      exact stepOk_first (by rw [e]; exact hr)
    · refine stepOk_next (by rw [e]; exact hr) ?_
      have hp : i - 1 < zs.length := by omega
      have e1 : at' zs (i - 1) = zs[i - 1] := by simp [at', List.getD, hp]
      rw [e, e1]
      exact (List.pairwise_iff_getElem.1 h2) (i - 1) i hp hi' (by omega)
theorem ok_filter {zs : List S} (h : ok zs = true) (f : S → Bool) : ok (zs.filter f) = true := by
  rw [ok_iff] at h ⊢
  exact ⟨fun z hz => h.1 z ((List.mem_filter.1 hz).1), h.2.filter _⟩
theorem merge_apart : ∀ (a b : List S), (∀ x ∈ a, ∀ y ∈ b, x.1 < y.1) → merge a b = some (a ++ b)
  | [], b, _ => by rw [merge_nil]; rfl
  | x :: a, [], _ => by rw [merge_nil_right, List.append_nil]
  | x :: a, y :: b, h => by
    have hlt : x.1 < y.1 := h x (by simp) y (by simp)
    rw [merge, if_pos hlt, merge_apart a (y :: b) (fun u hu v hv => h u (by simp [hu]) v hv)]
    rfl
theorem filter_parts : ∀ (zs : List S) (f : Int), zs.Pairwise (fun a b => a.1 < b.1) → (zs.filter fun z => decide (z.1 < f)) ++ (zs.filter fun z => decide (f ≤ z.1)) = zs
  | [], _, _ => rfl
  | z :: zs, f, h => by
    rw [List.pairwise_cons] at h
    by_cases hz : z.1 < f
    · rw [List.filter_cons_of_pos (by simpa using hz), List.filter_cons_of_neg (by simp; omega), List.cons_append, filter_parts zs f h.2]
    · rw [List.filter_cons_of_neg (by simpa using hz), List.filter_cons_of_pos (by simp; omega)]
      have e1 : zs.filter (fun z => decide (z.1 < f)) = [] := by
        rw [List.filter_eq_nil_iff]
        intro y hy
        have := h.1 y hy
        simp
        omega
      have e2 : zs.filter (fun z => decide (f ≤ z.1)) = zs := by
        rw [List.filter_eq_self]
        intro y hy
        have := h.1 y hy
        simp
        omega
      rw [e1, e2]
      rfl
/-- both sides of a cut together are all -/
theorem join_sides {zs : List S} (h : ok zs = true) (f : Int) : join (cut zs 0 f) (cut zs f 10000) = (zs, true) := by
  have h' := (ok_iff zs).1 h
  have ea : cut zs 0 f = zs.filter fun z => decide (z.1 < f) := by
    unfold cut cutL
    rw [if_pos h]
    refine List.filter_congr fun z hz => ?_
    have := inR_iff.1 (h'.1 z hz)
    unfold inT
    rw [decide_eq_true this.1, Bool.true_and]
  have eb : cut zs f 10000 = zs.filter fun z => decide (f ≤ z.1) := by
    unfold cut cutL
    rw [if_pos h]
    refine List.filter_congr fun z hz => ?_
    have := inR_iff.1 (h'.1 z hz)
    unfold inT
    rw [decide_eq_true (show z.1 < 10000 by omega), Bool.and_true]
  rw [ea, eb]
  refine join_some (ok_filter h _) (ok_filter h _) ?_
  rw [merge_apart _ _ (fun x hx y hy => by
    have h1 := (List.mem_filter.1 hx).2
    have h2 := (List.mem_filter.1 hy).2
    simp at h1 h2
    omega), filter_parts zs f h'.2]
theorem cut_cut {zs : List S} (h : ok zs = true) (f t : Int) : cut (cut zs f t) f t = cut zs f t := by
  have e : cut zs f t = cutL zs f t := by unfold cut; rw [if_pos h]
  have h2 : ok (cutL zs f t) = true := ok_filter h _
  rw [e]
  unfold cut
  rw [if_pos h2]
  unfold cutL
  rw [List.filter_filter]
  simp
theorem cut_in {zs : List S} (h : ok zs = true) (f t : Int) (i : Nat) (hi : i < (cut zs f t).length) : f ≤ (at' (cut zs f t) i).1 ∧ (at' (cut zs f t) i).1 < t := by
  have e : at' (cut zs f t) i = (cut zs f t)[i] := by simp [at', List.getD, hi]
  have hm := List.getElem_mem hi
  rw [e]
  have e2 : cut zs f t = cutL zs f t := by unfold cut; rw [if_pos h]
  generalize (cut zs f t)[i] = y at hm
  rw [e2] at hm
  have := (List.mem_filter.1 hm).2
  unfold inT at this
  simpa using this
end Go.Proofs.YtdggffcibcggoaaGreat.Samp

/- What the laws' own helpers do with slices of impl.Match: they are copied, held against each other, and counted. -/
namespace Go.Proofs.YtdggffcibcggoaaGreat.Mat
open Go.RowKit Rw
set_option linter.unusedVariables false
attribute [local go_sem ↓] Go.wp_at_zero Go.wp_at_succ
abbrev E := Int × ByteArray × ByteArray
def fl (x : E) : List Value := [.int .i64 (x.1), .string (x.2.1), .string (x.2.2)]
theorem flk (x : E) : (fl x).length = 3 := rfl
def at' (zs : List E) (i : Nat) : E := zs.getD i default
abbrev flat (zs : List E) : List Value := flatOf fl zs
abbrev Is (w : World) (v : Value) (zs : List E) : Prop := Lies w v zs.length 3 (flat zs)
theorem flat_length (zs : List E) : (flat zs).length = zs.length * 3 := flatOf_length flk zs
theorem flat_oneCell (zs : List E) : ∀ u ∈ flat zs, u.oneCell' = true := by
  intro u hu
  obtain ⟨x, _, hx⟩ := List.mem_flatMap.1 hu
  simp only [fl, List.mem_cons, List.not_mem_nil, or_false] at hx
  rcases hx with rfl | rfl | rfl <;> rfl
theorem at_get (zs : List E) (i : Nat) (h : i < zs.length) : at' zs i = zs[i] := by simp [at', List.getD, h]
theorem at_snoc (zs : List E) (i : Nat) (h : i < zs.length) : zs.take (i + 1) = zs.take i ++ [at' zs i] := by rw [List.take_succ_eq_append_getElem h, at_get zs i h]
theorem flat_at (zs : List E) (i : Nat) (h : i < zs.length) : (flat zs)[i * 3]? = some (.int .i64 ((at' zs i).1)) ∧ (flat zs)[i * 3 + 1]? = some (.string ((at' zs i).2.1)) ∧ (flat zs)[i * 3 + 2]? = some (.string ((at' zs i).2.2)) := by
  rw [at_get zs i h]
  exact ⟨flatOf_get flk zs i 0 h (by omega), flatOf_get flk zs i 1 h (by omega), flatOf_get flk zs i 2 h (by omega)⟩
theorem is_of_own {w : World} {base : Nat} {v : Value} {zs : List E} (h : w.ownsRow base 81 3 v zs.length (flat zs)) : Is w v zs := lies_of_own h
theorem info_e : (Tryz.prog.info? 81).map (fun i => (i.zero, i.size, i.bytes)) = some (some (.agg #[.int .i64 0, .string ByteArray.empty, .string ByteArray.empty]), 3, 40) := by kernel_rfl
def good (x : E) : Prop := (Lit.int .i64 (x.1)).wf = true ∧ (x.2.1).size ≤ maxLen ∧ (x.2.2).size ≤ maxLen
theorem set_e (A : List Value) (u0 u1 u2 x0 x1 x2 : Value) (L : List Value) (k : Nat) (h : A.length = k) : ((((A ++ u0 :: u1 :: u2 :: L).set k x0).set (k + 1) x1).set (k + 2) x2) = A ++ [x0, x1, x2] ++ L := by
  subst h
  simp [List.set_append_right]
theorem split_e (r : List Value) (n : Nat) (h : r.length = (n + 1) * 3) : ∃ u0 u1 u2 L, r = u0 :: u1 :: u2 :: L ∧ L.length = n * 3 := by
  match r, h with
  | u0 :: u1 :: u2 :: L, h => exact ⟨u0, u1, u2, L, rfl, by simp only [List.length_cons] at h; omega⟩
  | [], h => simp at h <;> omega
  | [_], h => simp at h <;> omega
  | [_, _], h => simp at h <;> omega
def tot (zs : List E) : Nat := zs.foldl (fun a x => a + ((x.2.1).size + (x.2.2).size)) zs.length
def totTo (zs : List E) (j : Nat) : Nat := (zs.take j).foldl (fun a x => a + ((x.2.1).size + (x.2.2).size)) zs.length
theorem totTo_succ (zs : List E) (j : Nat) (h : j < zs.length) : totTo zs (j + 1) = totTo zs j + (((at' zs j).2.1).size + ((at' zs j).2.2).size) := by
  unfold totTo
  rw [at_snoc zs j h, List.foldl_append]
  rfl
theorem totTo_mono (zs : List E) : ∀ (i j : Nat), i ≤ j → j ≤ zs.length → totTo zs i ≤ totTo zs j
  | i, 0, h, _ => by obtain rfl : i = 0 := by omega
                     exact Nat.le_refl _
  | i, j + 1, h, hj => by
    by_cases e : i = j + 1
    · subst e; exact Nat.le_refl _
    · have h1 := totTo_mono zs i j (by omega) (by omega)
      rw [totTo_succ zs j (by omega)]
      omega
theorem totTo_all (zs : List E) : totTo zs zs.length = tot zs := by unfold totTo tot; rw [List.take_of_length_le (Nat.le_refl _)]
theorem tot_len (zs : List E) : zs.length ≤ tot zs := by have := totTo_mono zs 0 zs.length (Nat.zero_le _) (Nat.le_refl _); rw [totTo_all] at this; unfold totTo at this; simpa using this
theorem tot_at (zs : List E) (j : Nat) (h : j < zs.length) : ((at' zs j).2.1).size + ((at' zs j).2.2).size ≤ tot zs := by
  have h1 := totTo_succ zs j h
  have h2 := totTo_mono zs (j + 1) zs.length (by omega) (Nat.le_refl _)
  rw [totTo_all] at h2
  omega
end Go.Proofs.YtdggffcibcggoaaGreat.Mat
