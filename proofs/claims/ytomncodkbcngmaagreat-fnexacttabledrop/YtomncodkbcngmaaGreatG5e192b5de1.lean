/- My own texts of one claim, laid together by program: RSet2, CutMath, MatLaw. -/
import Derived.Test.YtomncodkbcngmaaGreatGe00025d884
import Derived.Test.YtomncodkbcngmaaGreatG954374519f
import Derived.Test.YtomncodkbcngmaaGreatG9dc531fdec
import Derived.ChangeArms
/- The rows of a set; a new set; samples put to a row that is there. -/
namespace Go.Proofs.YtomncodkbcngmaaGreat.RSet
open Go.RowKit Rw
set_option linter.unusedVariables false
attribute [local go_sem ↓] Go.wp_at_zero Go.wp_at_succ
theorem new_any (w : World) : Calls Tryz.prog 71 #[] w fun e w' => ∃ mb, e = .returned (.agg #[.slice none 0 0, .map (some mb)]) ∧ w.heap.size ≤ mb ∧ SMap.MapIs w' mb 0 (fun _ => none) ∧ Below w.heap.size w w' := by
  have hmm := @run_makeMap Tryz.prog
  have B2 := hide (((Below.refl w.heap.size w).alloc (Nat.le_refl _) (.cells #[.slice none 0 0, .map (some (w.heap.size + 1))] 99)).alloc (by simp) (.map #[] 0))
  have hM := SMap.made (w.alloc (.cells #[.slice none 0 0, .map (some (w.heap.size + 1))] 99))
  simp only [World.size_alloc] at hM
  have hM2 := hide hM
  clear hM
  go_enter Tryz.func71, Tryz.ntmps71
  go_wp2
  refine bodyPost_ret (v := .agg #[.slice none 0 0, .map (some (w.heap.size + 1))]) (by simp [results, Tryz.results71, go_sem]) rfl ⟨_, rfl, by omega, unhide hM2, unhide B2⟩
set_option maxRecDepth 100000 in
set_option maxHeartbeats 8000000 in
theorem put_fail {lo B mb n m sc : Nat} {sa : Option Addr} {w : World} {ks : List ByteArray} {M : ByteArray → Option Row.C} {R : ByteArray → Row.E} {lv : Value} {ls : List Lab.E} {zs : List Sam.E} {c : Row.C}
    (h : IsSet lo B mb n w ks M R) (hl : Lab.Is w lv ls) (hlg : ∀ x ∈ ls, Lab.good x) (hlo : Lab.ok ls = true) (hs : Samp.Smp w (.slice sa m sc) zs) (hm : zs.length = m) (hJ : (SampMath.join (R (Lab.keyOf ls)).2 zs).2 = false) (h0 : 0 < m) (h1 : m ≤ 4194304) (h2 : (R (Lab.keyOf ls)).2.length ≤ 4194304) (hN : M (Lab.keyOf ls) = some c) :
    Calls Tryz.prog 73 #[.pointer (some ⟨B, 0, none⟩), lv, .slice sa m sc] w fun e w' => e = .returned (.bool false) ∧ Below w.heap.size w w' := by
  have hm0 : (m == 0) = false := by simp; omega
  have hmI : ((m : Int) == 0) = false := by simp; omega
  have HK := hide (Lab.rowKey_any hl hlg hlo)
  obtain ⟨⟨p1, p2⟩, p3, p4⟩ := h.row _ c hN
  have HJ := hide (fun W (hb : Below w.heap.size w W) => Samp.impl_join (w := W) (v := c.2) (zs := (R (Lab.keyOf ls)).2) (Samp.smp_of_own (by rw [flat_eq]; exact own_below p2 hb)) (hs.below hb) h2 (by omega))
  have hKs := key_size hlo
  unfold Samp.Joined at HJ
  rw [hJ] at HJ
  have HKS := hide hKs
  obtain ⟨K, hK⟩ : ∃ K, K = Lab.keyOf ls := ⟨_, rfl⟩
  rw [← hK] at HK hN HKS HJ p1 p2
  clear hl hlg hlo hs hKs hK hJ h2
  obtain ⟨c0, c1⟩ := c
  simp only at p1 p2 HJ
  obtain ⟨-, a0, q0, e0, -⟩ := lies_of_own p1
  obtain ⟨-, a1, q1, e1, -⟩ := lies_of_own p2
  generalize (R K).1.length = l0 at e0
  generalize (R K).2.length = l1 at e1
  clear p1 p2 p3 p4
  subst e0 e1
  have hB := h.ltB
  go_enter Tryz.func73, Tryz.ntmps73
  go_wp2_with fail
  refine (unhide HK).mono ?_
  rintro e w1 ⟨rfl, b1⟩
  have z1 := b1.size
  have hs1 := h.below b1
  have hlk := hs1.map.look_ok (s := K) (by have := unhide HKS; unfold maxLen; omega)
  simp only [hN, Option.map_some, Option.getD_some, Option.isSome_some, aggOf] at hlk
  have hmc := hs1.mapc
  clear hs1 HK h
  go_wp2_with fail
  obtain ⟨w2, hw2⟩ : ∃ w2, w2 = w1.alloc (.cells #[.slice a0 l0 q0, .slice a1 l1 q1] 68) := ⟨_, rfl⟩
  rw [← hw2]
  have b2 : Below w1.heap.size w1 w2 := by rw [hw2]; exact (Below.refl _ _).alloc (Nat.le_refl _) _
  have b12 : Below w.heap.size w w2 := b1.trans (b2.mono z1)
  clear hw2
  refine (unhide HJ w2 b12).mono ?_
  rintro e w3 ⟨x, rfl, ox, b3⟩
  have b13 : Below w.heap.size w w3 := b12.trans (b3.mono b12.size)
  clear HJ hlk hmc ox b3
  go_wp2_with fail
  go_ret
  exact ⟨rfl, b13⟩
set_option maxRecDepth 100000 in
set_option maxHeartbeats 8000000 in
theorem put_old {lo B mb n m sc : Nat} {sa : Option Addr} {w : World} {ks : List ByteArray} {M : ByteArray → Option Row.C} {R : ByteArray → Row.E} {lv : Value} {ls : List Lab.E} {zs J : List Sam.E} {c : Row.C}
    (h : IsSet lo B mb n w ks M R) (hl : Lab.Is w lv ls) (hlg : ∀ x ∈ ls, Lab.good x) (hlo : Lab.ok ls = true) (hs : Samp.Smp w (.slice sa m sc) zs) (hm : zs.length = m) (hJ : SampMath.join (R (Lab.keyOf ls)).2 zs = (J, true)) (h0 : 0 < m) (h1 : m ≤ 4194304) (h2 : (R (Lab.keyOf ls)).2.length ≤ 4194304) (hn : n ≤ 1000) (hN : M (Lab.keyOf ls) = some c) (hlow : lo ≤ w.heap.size) :
    Calls Tryz.prog 73 #[.pointer (some ⟨B, 0, none⟩), lv, .slice sa m sc] w fun e w' => ∃ c, e = .returned (.bool true) ∧ IsSet lo B mb (n + 1) w' ks (fun k => if k = Lab.keyOf ls then some c else M k) (fun k => if k = Lab.keyOf ls then ((R k).1, J) else R k) ∧ Two B mb w w' := by
  have hm0 : (m == 0) = false := by simp; omega
  have hmI : ((m : Int) == 0) = false := by simp; omega
  have HK := hide (Lab.rowKey_any hl hlg hlo)
  obtain ⟨⟨p1, p2⟩, p3, p4⟩ := h.row _ c hN
  have HJ := hide (fun W (hb : Below w.heap.size w W) => Samp.impl_join (w := W) (v := c.2) (zs := (R (Lab.keyOf ls)).2) (Samp.smp_of_own (by rw [flat_eq]; exact own_below p2 hb)) (hs.below hb) h2 (by omega))
  have hKs := key_size hlo
  unfold Samp.Joined at HJ
  rw [hJ] at HJ
  simp only [flat_eq] at HJ
  have HKS := hide hKs
  have HLEN := hide hn
  obtain ⟨K, hK⟩ : ∃ K, K = Lab.keyOf ls := ⟨_, rfl⟩
  rw [← hK] at HK hN HKS p1 p2 ⊢
  clear hl hlg hlo hs hKs hK hJ h2 hn
  obtain ⟨c0, c1⟩ := c
  simp only at p1 p2 p3 p4 HJ
  have HP1 := hide p1
  have HP3 := hide p3
  obtain ⟨-, a0, q0, e0, -⟩ := lies_of_own p1
  obtain ⟨-, a1, q1, e1, -⟩ := lies_of_own p2
  generalize hl0 : (R K).1.length = l0 at e0
  generalize (R K).2.length = l1 at e1
  have HL0 := hide hl0
  clear p1 p2 p3 p4 hl0
  subst e0 e1
  have hB := h.ltB
  go_enter Tryz.func73, Tryz.ntmps73
  go_wp2_with fail
  refine (unhide HK).mono ?_
  rintro e w1 ⟨rfl, b1⟩
  have z1 := b1.size
  have hs1 := h.below b1
  have hlk := hs1.map.look_ok (s := K) (by have := unhide HKS; unfold maxLen; omega)
  simp only [hN, Option.map_some, Option.getD_some, Option.isSome_some, aggOf] at hlk
  have hmc := hs1.mapc
  have Hs1 := hide hs1
  clear hs1 HK h
  go_wp2_with fail
  obtain ⟨w2, hw2⟩ : ∃ w2, w2 = w1.alloc (.cells #[.slice a0 l0 q0, .slice a1 l1 q1] 68) := ⟨_, rfl⟩
  rw [← hw2]
  have b2 : Below w1.heap.size w1 w2 := by rw [hw2]; exact (Below.refl _ _).alloc (Nat.le_refl _) _
  have z2 : w2.heap.size = w1.heap.size + 1 := by rw [hw2]; simp
  have x20 : w2.cell? ⟨w1.heap.size, 0, none⟩ = some (.slice a0 l0 q0) := by rw [hw2]; simp [go_sem]
  have x21 : w2.cell? ⟨w1.heap.size, 1, none⟩ = some (.slice a1 l1 q1) := by rw [hw2]; simp [go_sem]
  have f21 : w2.frozen? ⟨w1.heap.size, 1, none⟩ = false := by rw [hw2]; simp [go_sem]
  have b12 : Below w.heap.size w w2 := b1.trans (b2.mono z1)
  clear hw2
  refine (unhide HJ w2 b12).mono ?_
  rintro e w3 ⟨x, rfl, ox, b3⟩
  have z3 := b3.size
  obtain ⟨xa, xq, rfl⟩ : ∃ a q, x = .slice a J.length q := by obtain ⟨-, a, q, e, -⟩ := lies_of_own ox; exact ⟨a, q, e⟩
  have b13 : Below w.heap.size w w3 := b12.trans (b3.mono b12.size)
  have b1_3 : Below w1.heap.size w1 w3 := b2.trans (b3.mono b2.size)
  have x30 := (b3.cell (p := ⟨w1.heap.size, 0, none⟩) (by show w1.heap.size < _; omega)).trans x20
  have x31 := (b3.cell (p := ⟨w1.heap.size, 1, none⟩) (by show w1.heap.size < _; omega)).trans x21
  have f31 := (b3.frozen (p := ⟨w1.heap.size, 1, none⟩) (by show w1.heap.size < _; omega)).trans f21
  clear x20 x21 f21 HJ hlk hmc
  have hs3 := (unhide Hs1).below b1_3
  have hne1 : ¬ B = w1.heap.size := by omega
  have hne2 : ¬ w1.heap.size = B := by omega
  obtain ⟨w8, hw8⟩ : ∃ w8, w8 = w3.setCell ⟨w1.heap.size, 1, none⟩ (.slice xa J.length xq) := ⟨_, rfl⟩
  have o8 : OnlyAt w1.heap.size w3 w8 := by rw [hw8]; exact (OnlyAt.refl _ _).setCell 1 _
  have c80 : w8.cell? ⟨w1.heap.size, 0, none⟩ = some (.slice a0 l0 q0) := by rw [hw8, World.cell?_setCell_other _ _ _ _ (by simp)]; exact x30
  have c81 : w8.cell? ⟨w1.heap.size, 1, none⟩ = some (.slice xa J.length xq) := by rw [hw8]; exact World.cell?_setCell_same _ _ _ x31
  have c8M : w8.cell? ⟨B, 1, none⟩ = some (.map (some mb)) := (World.cell?_of_block (a := ⟨B, 1, none⟩) (o8.block _ hne1)).trans hs3.mapc
  have hml := (unhide Hs1).map.lt
  have hnem : mb ≠ w1.heap.size := by omega
  have hBm := (unhide Hs1).ne
  have m8 : SMap.MapIs w8 mb n (fun k => (M k).map aggOf) := hs3.map.block (o8.block mb hnem)
  obtain ⟨w9, hmu, m9, o9⟩ := (m8.below (Below.refl _ _).drew).store (s := K) (by have := unhide HKS; unfold maxLen; omega) (by have := unhide HLEN; unfold maxLen; omega) (.agg #[.slice a0 l0 q0, .slice xa J.length xq])
  have S8 : (fun W : World => W.cell? ⟨B, 1, none⟩ = some (.map (some mb)) ∧ W.cell? ⟨w1.heap.size, 0, none⟩ = some (.slice a0 l0 q0) ∧ W.cell? ⟨w1.heap.size, 1, none⟩ = some (.slice xa J.length xq)) w8.drew := ⟨by simpa using c8M, by simpa using c80, by simpa using c81⟩
  have S9 : (fun W : World => W.cell? ⟨B, 1, none⟩ = some (.map (some mb)) ∧ W.cell? ⟨w1.heap.size, 0, none⟩ = some (.slice a0 l0 q0) ∧ W.cell? ⟨w1.heap.size, 1, none⟩ = some (.slice xa J.length xq)) w9 := ⟨(World.cell?_of_block (a := ⟨B, 1, none⟩) (o9.block _ hBm)).trans S8.1, (World.cell?_of_block (a := ⟨w1.heap.size, 0, none⟩) (o9.block _ hnem.symm)).trans S8.2.1, (World.cell?_of_block (a := ⟨w1.heap.size, 1, none⟩) (o9.block _ hnem.symm)).trans S8.2.2⟩
  have HM9 := hide m9
  have Hs3 := hide hs3
  clear m9 m8 hs3
  go_wp2_with fail
  rw [← hw8]
  clear hw8
  go_region_held3 (fun W => W.cell? ⟨B, 1, none⟩ = some (.map (some mb)) ∧ W.cell? ⟨w1.heap.size, 0, none⟩ = some (.slice a0 l0 q0) ∧ W.cell? ⟨w1.heap.size, 1, none⟩ = some (.slice xa J.length xq)) (first | exact S8 | exact S9) (fail)
  go_wp2_with fail
  go_ret
  have z8 := o8.size
  have z9 := o9.size
  simp only [World.size_drew] at z9
  have two1 : Two B mb w1 w9 := (((Two.of_below b1_3).then_only (Nat.le_refl _) o8).trans (Two.of_below (Below.refl _ _).drew)).trans (Two.of_onlyM o9)
  have hs1 := unhide Hs1
  have hml1 : mb < w1.heap.size := hml
  have ox9 : w9.ownsRow lo 109 2 (.slice xa J.length xq) J.length (Sam.flat J) := own_mono (o9.own (World.ownsRow.drew (o8.own ox (fun k hk' => by have := own_ge ox k hk'; omega))) (fun k hk' => by have := own_ge ox k hk'; omega)) (by omega)
  obtain ⟨kv, kc1, ko1, kf⟩ := hs1.key
  refine ⟨(.slice a0 l0 q0, .slice xa J.length xq), rfl, ⟨hs1.loB, hs1.loM, hs1.ne, by omega, ⟨kv, ?_, two1.own ko1 kf, kf⟩, S9.1, ?_, ?_, ?_, ?_, ?_⟩, (Two.of_below b1).trans two1⟩
  · exact (World.cell?_of_block (a := ⟨B, 0, none⟩) (o9.block _ hBm)).trans ((show w8.drew.cell? ⟨B, 0, none⟩ = w8.cell? ⟨B, 0, none⟩ by simp).trans ((World.cell?_of_block (a := ⟨B, 0, none⟩) (o8.block _ hne1)).trans ((b1_3.cell (p := ⟨B, 0, none⟩) (by show B < _; omega)).trans kc1)))
  · exact (World.frozen?_of_block (a := ⟨B, 0, none⟩) (o9.block _ hBm)).trans ((show w8.drew.frozen? ⟨B, 0, none⟩ = w8.frozen? ⟨B, 0, none⟩ by simp).trans ((World.frozen?_of_block (a := ⟨B, 0, none⟩) (o8.block _ hne1)).trans (unhide Hs3).fz))
  · have e : (fun k => (if k = K then some (Value.slice a0 l0 q0, Value.slice xa J.length xq) else M k).map aggOf) = (fun t => if t = K then some (.agg #[.slice a0 l0 q0, .slice xa J.length xq]) else (M t).map aggOf) := by funext t; split <;> rfl
    rw [e]
    exact unhide HM9
  · intro k
    by_cases e : k = K
    · subst e
      simp only [if_true, Option.isSome_some, true_iff]
      exact (hs1.has k).1 (by rw [hN]; rfl)
    · simp only [if_neg e]
      exact hs1.has k
  · intro k c hc
    by_cases e : k = K
    · subst e
      simp only [if_true, Option.some.injEq] at hc ⊢
      subst hc
      simp only
      have p1 := own_below (unhide HP1) b1
      exact ⟨⟨two1.own p1 (unhide HP3), ox9⟩, unhide HP3, fun k hk' => by have := own_ge ox k hk'; omega⟩
    · simp only [if_neg e] at hc ⊢
      obtain ⟨⟨p1, p2⟩, p3, p4⟩ := hs1.row k c hc
      exact ⟨⟨two1.own p1 p3, two1.own p2 p4⟩, p3, p4⟩
  · intro k k' c c' hne hc hc'
    by_cases e : k = K
    · have e' : ¬ k' = K := fun h => hne (e.trans h.symm)
      simp only [if_pos e, if_neg e', Option.some.injEq] at hc hc'
      subst hc
      obtain ⟨⟨p1, p2⟩, p3, p4⟩ := hs1.row k' c' hc'
      exact ⟨(hs1.apart K k' _ c' (fun h => e' h.symm) hN hc').1, fun b hb hb' => by have h1 := own_ge ox b hb; have h2 := own_block_lt p2 b hb'; omega⟩
    · by_cases e' : k' = K
      · simp only [if_neg e, if_pos e', Option.some.injEq] at hc hc'
        subst hc'
        obtain ⟨⟨p1, p2⟩, p3, p4⟩ := hs1.row k c hc
        exact ⟨(hs1.apart k K c _ e hc hN).1, fun b hb hb' => by have h1 := own_ge ox b hb'; have h2 := own_block_lt p2 b hb; omega⟩
      · simp only [if_neg e, if_neg e'] at hc hc'
        exact hs1.apart k k' c c' hne hc hc'
set_option maxRecDepth 100000 in
set_option maxHeartbeats 8000000 in
theorem rows_any {lo B mb n : Nat} {w : World} {ks : List ByteArray} {M : ByteArray → Option Row.C} {R : ByteArray → Row.E} (h : IsSet lo B mb n w ks M R) (hnd : ks.Nodup) (hsz : ∀ k ∈ ks, k.size ≤ 2002002) (hk : ks.length ≤ 1000) (hlow : lo ≤ w.heap.size) :
    Calls Tryz.prog 75 #[.pointer (some ⟨B, 0, none⟩)] w fun e w' => ∃ v, e = .returned v ∧ Row.Own lo w'.heap.size w' v (ks.map R) ∧ Below w.heap.size w w' := by
  obtain ⟨i0, hi, hz0, hz1, hz2⟩ := info_parts Row.info_e
  obtain ⟨kv, kc, ko, kf⟩ := h.key
  have hmc := h.mapc
  have hB := h.ltB
  have hL := lies_of_own ko
  obtain ⟨-, ka, kq, rfl, hc, hm, -, hr⟩ := hL
  unfold maxLen at hm
  obtain ⟨l, hl⟩ : ∃ l, l = ks.length := ⟨_, rfl⟩
  rw [← hl] at hc hr hk kc
  have HN := hide hl
  have Hs := hide h
  have HSZ := hide hsz
  have hCell : ∀ k ∈ ks, ∃ c, M k = some c := fun k hk' => by have := (h.has k).2 hk'; exact Option.isSome_iff_exists.1 this
  obtain ⟨F, hF⟩ : ∃ F : ByteArray → Row.C, ∀ k ∈ ks, M k = some (F k) := ⟨fun k => (M k).getD (.slice none 0 0, .slice none 0 0), fun k hk' => by obtain ⟨c, e⟩ := hCell k hk'; simp only [e, Option.getD_some]⟩
  have HF := hide hF
  have HND := hide hnd
  clear h hsz hl ko kf hF hCell hnd
  go_enter Tryz.func75, Tryz.ntmps75
  go_wp2_with fail
  go_loopw [3, 11] (fun pv i wr => ∃ (k : Nat) (pa : Option Addr) (pc : Nat), k ≤ l ∧ i = .int .i64 k ∧ pv = .slice pa k pc ∧ wr.ownsRow w.heap.size 68 2 pv k (flatOf Row.cl ((ks.take k).map F)) ∧ Below w.heap.size w wr) (fun _ i _ => l - (intOf i).toNat)
  case atStart => exact ⟨0, none, 0, Nat.zero_le _, rfl, rfl, World.ownsRow_nil _ _ _ _, Below.refl _ _⟩
  case round =>
    obtain ⟨k, pa, pc, hk', rfl, rfl, hown, hbel⟩ := hrel
    have hsz := hbel.size
    have hk0 : (0 : Int) ≤ (k : Int) := Int.natCast_nonneg _
    by_cases hlt : k < l
    · obtain ⟨b, off, rfl, hbl, hcells⟩ := hr (by omega)
      have hkl : k < ks.length := by have := unhide HN; omega
      have fa : (Str.flat ks)[k]? = some (.string ks[k]) := by have := flatOf_get Str.flk ks k 0 hkl (by omega); simpa [Str.fl] using this
      have hc0 : wr.cell? ⟨b, off + k, none⟩ = some (.string ks[k]) := (hbel.cell (p := ⟨b, _, none⟩) hbl).trans (hcells k _ fa)
      have hmem : ks[k] ∈ ks := List.getElem_mem _
      have hMk := unhide HF _ hmem
      have hmcr := (hbel.cell (p := ⟨B, 1, none⟩) hB).trans hmc
      have hlk := ((unhide Hs).map.below hbel).look (s := ks[k]) (by have := unhide HSZ _ hmem; unfold maxLen; omega)
      rw [show (M ks[k]).map aggOf = some (aggOf (F ks[k])) by rw [hMk]; rfl] at hlk
      simp only [Option.getD_some, aggOf] at hlk
      have HPS := hide (show flatOf Row.cl ((ks.take (k + 1)).map F) = flatOf Row.cl ((ks.take k).map F) ++ [(F ks[k]).1, (F ks[k]).2] by rw [List.take_succ_eq_append_getElem hkl, List.map_append, flatOf_append]; rfl)
      obtain ⟨⟨p1, p2⟩, -⟩ := (unhide Hs).row _ _ hMk
      obtain ⟨c0, c1, hX⟩ : ∃ c0 c1, (c0, c1) = F ks[k] := ⟨_, _, rfl⟩
      rw [← hX] at hlk HPS p1 p2
      simp only at hlk HPS p1 p2
      obtain ⟨-, a0, q0, e0, -⟩ := lies_of_own p1
      obtain ⟨-, a1, q1, e1, -⟩ := lies_of_own p2
      generalize (R ks[k]).1.length = l0 at e0
      generalize (R ks[k]).2.length = l1 at e1
      clear hX hMk p1 p2
      subst e0 e1
      clear fa hmem
      generalize ks[k] = K at hc0 hlk
      have hk1 : (k : Int) < (l : Int) := by omega
      have hmx : 1 ≤ maxLen := by unfold maxLen; omega
      go_wp2_with (at_builtin; refine app_wp _ rfl _ _ _ rfl w.heap.size 68 i0 _ 2 48 Tryz.underlying28 hi hz0 hz1 hz2 rfl (by omega) _ k _ rfl (hown.alloc _) _ 1 [.slice a0 l0 q0, .slice a1 l1 q1] rfl (lies_new (by simp) rfl hmx) (by simp [Value.oneCell']) (by unfold maxLen; omega) (by omega) (by simp; omega) ?_; intro vn wn on gn an)
      have R9 : Below w.heap.size w wn := below_grown (hbel.alloc hsz _) (by simp; omega) gn (own_ge hown)
      have R2 := hide (show wn.ownsRow w.heap.size 68 2 vn (k + 1) (flatOf Row.cl ((ks.take (k + 1)).map F)) by rw [unhide HPS]; exact on)
      obtain ⟨an', cn, hvn⟩ : ∃ a c, vn = .slice a (k + 1) c := by obtain ⟨-, a, c, e, -⟩ := lies_of_own on; exact ⟨a, c, e⟩
      have HV := hide hvn
      clear on gn an hown hvn
      go_wp2_with fail
      go_roundw
      case rel => exact ⟨k + 1, an', cn, by omega, by go_num, unhide HV, unhide R2, R9⟩
      case measure => simp [intOf]; omega
    · obtain rfl : k = l := by omega
      rw [List.take_of_length_le (by have := unhide HN; omega)] at hown
      have hs := (unhide Hs).below hbel
      have HO := hide (show Row.Own lo wr.heap.size wr (.slice pa k pc) (ks.map R) from ⟨ks.map F, by simp, by rw [List.length_map, ← unhide HN]; exact own_mono hown hlow, own_block_lt hown, Nat.le_refl _, fun i j hij hj b hb => by
          rw [List.length_map] at hj
          have e1 : Row.cat (ks.map F) i = F (ks[i]'(by omega)) := by simp [Row.cat, List.getD, show i < ks.length by omega]
          have e2 : Row.cat (ks.map F) j = F ks[j] := by simp [Row.cat, List.getD, hj]
          simp only [e1, e2] at hb ⊢
          exact (hs.apart _ _ _ _ (fun e => by have := (List.getElem_inj (unhide HND)).1 e; omega) (unhide HF _ (List.getElem_mem _)) (unhide HF _ (List.getElem_mem _))).1 b hb, fun i j hij hj b hb => by
          rw [List.length_map] at hj
          have e1 : Row.cat (ks.map F) i = F (ks[i]'(by omega)) := by simp [Row.cat, List.getD, show i < ks.length by omega]
          have e2 : Row.cat (ks.map F) j = F ks[j] := by simp [Row.cat, List.getD, hj]
          simp only [e1, e2] at hb ⊢
          exact (hs.apart _ _ _ _ (fun e => by have := (List.getElem_inj (unhide HND)).1 e; omega) (unhide HF _ (List.getElem_mem _)) (unhide HF _ (List.getElem_mem _))).2 b hb, fun i hi' => by
          rw [List.length_map] at hi'
          have e1 : Row.cat (ks.map F) i = F ks[i] := by simp [Row.cat, List.getD, hi']
          have e2 : Row.at' (ks.map R) i = R ks[i] := by rw [Row.at_get _ _ (by rw [List.length_map]; exact hi')]; simp
          rw [e1, e2]
          have := (hs.row _ _ (unhide HF _ (List.getElem_mem hi'))).1
          exact ⟨this, own_block_lt this.1, own_block_lt this.2⟩⟩)
      clear hs hown
      go_wp2
      go_ret
      exact ⟨_, rfl, unhide HO, hbel⟩
end Go.Proofs.YtomncodkbcngmaaGreat.RSet

/- What is cut and joined again is the whole. No condition. -/
namespace Go.Proofs.YtomncodkbcngmaaGreat.Samp
open SampMath
set_option linter.unusedVariables false
theorem ok_iff (zs : List S) : ok zs = true ↔ (∀ z ∈ zs, inR z.1 z.2 = true) ∧ zs.Pairwise (fun a b => a.1 < b.1) := by
  constructor
  · intro h
    constructor
    · intro z hz
      obtain ⟨i, hi, rfl⟩ := List.getElem_of_mem hz
      have h1 := ok_at h hi
      have e : at' zs i = zs[i] := by simp [at', List.getD, hi]
      unfold stepOk at h1
      rw [e] at h1
      simp only [Bool.and_eq_true] at h1
      exact h1.1
    · rw [List.pairwise_iff_getElem]
      intro i j hi hj hij
      have := ok_lt h hij hj
      have e1 : at' zs i = zs[i] := by simp [at', List.getD, hi]
      have e2 : at' zs j = zs[j] := by simp [at', List.getD, hj]
      rw [e1, e2] at this
      exact this
  · rintro ⟨h1, h2⟩
    unfold ok okTo
    rw [List.all_eq_true]
    intro i hi
    have hi' : i < zs.length := by simpa using hi
    have e : at' zs i = zs[i] := by simp [at', List.getD, hi']
    have hr := h1 zs[i] (List.getElem_mem hi')
    rcases Nat.eq_zero_or_pos i with h0 | h0
    · subst h0
      exact stepOk_first (by rw [e]; exact hr)
    · refine stepOk_next (by rw [e]; exact hr) ?_
      have hp : i - 1 < zs.length := by omega
      have e1 : at' zs (i - 1) = zs[i - 1] := by simp [at', List.getD, hp]
      rw [e, e1]
      exact (List.pairwise_iff_getElem.1 h2) (i - 1) i hp hi' (by omega)
theorem ok_filter {zs : List S} (h : ok zs = true) (f : S → Bool) : ok (zs.filter f) = true := by
  rw [ok_iff] at h ⊢
  exact ⟨fun z hz => h.1 z ((List.mem_filter.1 hz).1), h.2.filter _⟩
theorem merge_apart : ∀ (a b : List S), (∀ x ∈ a, ∀ y ∈ b, x.1 < y.1) → merge a b = some (a ++ b)
  | [], b, _ => by rw [merge_nil]; rfl
  | x :: a, [], _ => by rw [merge_nil_right, List.append_nil]
  | x :: a, y :: b, h => by
    have hlt : x.1 < y.1 := h x (by simp) y (by simp)
    rw [merge, if_pos hlt, merge_apart a (y :: b) (fun u hu v hv => h u (by simp [hu]) v hv)]
    rfl
theorem filter_parts : ∀ (zs : List S) (f : Int), zs.Pairwise (fun a b => a.1 < b.1) → (zs.filter fun z => decide (z.1 < f)) ++ (zs.filter fun z => decide (f ≤ z.1)) = zs
  | [], _, _ => rfl
  | z :: zs, f, h => by
    rw [List.pairwise_cons] at h
    by_cases hz : z.1 < f
    · rw [List.filter_cons_of_pos (by simpa using hz), List.filter_cons_of_neg (by simp; omega), List.cons_append, filter_parts zs f h.2]
    · rw [List.filter_cons_of_neg (by simpa using hz), List.filter_cons_of_pos (by simp; omega)]
      have e1 : zs.filter (fun z => decide (z.1 < f)) = [] := by
        rw [List.filter_eq_nil_iff]
        intro y hy
        have := h.1 y hy
        simp
        omega
      have e2 : zs.filter (fun z => decide (f ≤ z.1)) = zs := by
        rw [List.filter_eq_self]
        intro y hy
        have := h.1 y hy
        simp
        omega
      rw [e1, e2]
      rfl
/-- both sides of a cut together are all -/
theorem join_sides {zs : List S} (h : ok zs = true) (f : Int) : join (cut zs 0 f) (cut zs f 10000) = (zs, true) := by
  have h' := (ok_iff zs).1 h
  have ea : cut zs 0 f = zs.filter fun z => decide (z.1 < f) := by
    unfold cut cutL
    rw [if_pos h]
    refine List.filter_congr fun z hz => ?_
    have := inR_iff.1 (h'.1 z hz)
    unfold inT
    rw [decide_eq_true this.1, Bool.true_and]
  have eb : cut zs f 10000 = zs.filter fun z => decide (f ≤ z.1) := by
    unfold cut cutL
    rw [if_pos h]
    refine List.filter_congr fun z hz => ?_
    have := inR_iff.1 (h'.1 z hz)
    unfold inT
    rw [decide_eq_true (show z.1 < 10000 by omega), Bool.and_true]
  rw [ea, eb]
  refine join_some (ok_filter h _) (ok_filter h _) ?_
  rw [merge_apart _ _ (fun x hx y hy => by
    have h1 := (List.mem_filter.1 hx).2
    have h2 := (List.mem_filter.1 hy).2
    simp at h1 h2
    omega), filter_parts zs f h'.2]
theorem cut_cut {zs : List S} (h : ok zs = true) (f t : Int) : cut (cut zs f t) f t = cut zs f t := by
  have e : cut zs f t = cutL zs f t := by unfold cut; rw [if_pos h]
  have h2 : ok (cutL zs f t) = true := ok_filter h _
  rw [e]
  unfold cut
  rw [if_pos h2]
  unfold cutL
  rw [List.filter_filter]
  simp
theorem cut_in {zs : List S} (h : ok zs = true) (f t : Int) (i : Nat) (hi : i < (cut zs f t).length) : f ≤ (at' (cut zs f t) i).1 ∧ (at' (cut zs f t) i).1 < t := by
  have e : at' (cut zs f t) i = (cut zs f t)[i] := by simp [at', List.getD, hi]
  have hm := List.getElem_mem hi
  rw [e]
  have e2 : cut zs f t = cutL zs f t := by unfold cut; rw [if_pos h]
  generalize (cut zs f t)[i] = y at hm
  rw [e2] at hm
  have := (List.mem_filter.1 hm).2
  unfold inT at this
  simpa using this
end Go.Proofs.YtomncodkbcngmaaGreat.Samp

/- What the laws' own helpers do with slices of impl.Match: they are copied, held against each other, and counted. -/
namespace Go.Proofs.YtomncodkbcngmaaGreat.Mat
open Go.RowKit Rw
set_option linter.unusedVariables false
attribute [local go_sem ↓] Go.wp_at_zero Go.wp_at_succ
abbrev E := Int × ByteArray × ByteArray
def fl (x : E) : List Value := [.int .i64 (x.1), .string (x.2.1), .string (x.2.2)]
theorem flk (x : E) : (fl x).length = 3 := rfl
def at' (zs : List E) (i : Nat) : E := zs.getD i default
abbrev flat (zs : List E) : List Value := flatOf fl zs
abbrev Is (w : World) (v : Value) (zs : List E) : Prop := Lies w v zs.length 3 (flat zs)
theorem flat_length (zs : List E) : (flat zs).length = zs.length * 3 := flatOf_length flk zs
theorem flat_oneCell (zs : List E) : ∀ u ∈ flat zs, u.oneCell' = true := by
  intro u hu
  obtain ⟨x, _, hx⟩ := List.mem_flatMap.1 hu
  simp only [fl, List.mem_cons, List.not_mem_nil, or_false] at hx
  rcases hx with rfl | rfl | rfl <;> rfl
theorem at_get (zs : List E) (i : Nat) (h : i < zs.length) : at' zs i = zs[i] := by simp [at', List.getD, h]
theorem at_snoc (zs : List E) (i : Nat) (h : i < zs.length) : zs.take (i + 1) = zs.take i ++ [at' zs i] := by rw [List.take_succ_eq_append_getElem h, at_get zs i h]
theorem flat_at (zs : List E) (i : Nat) (h : i < zs.length) : (flat zs)[i * 3]? = some (.int .i64 ((at' zs i).1)) ∧ (flat zs)[i * 3 + 1]? = some (.string ((at' zs i).2.1)) ∧ (flat zs)[i * 3 + 2]? = some (.string ((at' zs i).2.2)) := by
  rw [at_get zs i h]
  exact ⟨flatOf_get flk zs i 0 h (by omega), flatOf_get flk zs i 1 h (by omega), flatOf_get flk zs i 2 h (by omega)⟩
theorem is_of_own {w : World} {base : Nat} {v : Value} {zs : List E} (h : w.ownsRow base 62 3 v zs.length (flat zs)) : Is w v zs := lies_of_own h
theorem info_e : (Tryz.prog.info? 62).map (fun i => (i.zero, i.size, i.bytes)) = some (some (.agg #[.int .i64 0, .string ByteArray.empty, .string ByteArray.empty]), 3, 40) := by kernel_rfl
def good (x : E) : Prop := (Lit.int .i64 (x.1)).wf = true ∧ (x.2.1).size ≤ maxLen ∧ (x.2.2).size ≤ maxLen
set_option maxRecDepth 100000 in
theorem open_arg {H : Type} {enc : TypeId × Value → H} {W : World} {a : Option Addr} {len cap : Nat} {d : DataW H} {p : List MemPlace}
    (h : DataW.Trod enc Tryz.prog W 0 (fun _ => true) true 25 (.slice a len cap) d p) : ∃ zs : List E, zs.length = len ∧ len ≤ maxLen ∧ Lies W (.slice a len cap) len 3 (flat zs) ∧ ∀ x ∈ zs, good x := by
  have ck : Tryz.prog.cellsOf 57 = 3 := by kernel_rfl
  refine open_flat (e := 57) (good := good) flk Tryz.underlying25 ck ?_ (by omega) h
  intro n cs y hl ht
  obtain ⟨xs, m, -, -, -, hxl, hf⟩ := DataW.trod_struct Tryz.underlying57 ht
  match cs, hl, xs, hxl with
  | [c0, c1, c2], _, [y0, y1, y2], _ =>
    have g0 := hf 0 _ rfl
    have g1 := hf 1 _ rfl
    have g2 := hf 2 _ rfl
    have cei : Tryz.prog.cellsOf 3 = 1 := by kernel_rfl
    have ces : Tryz.prog.cellsOf 9 = 1 := by kernel_rfl
    simp [cei, ces] at g0 g1 g2
    obtain ⟨s0, e0, -, w0⟩ := DataW.trod_int Tryz.underlying3 g0
    obtain ⟨s1, e1, -, w1⟩ := DataW.trod_string Tryz.underlying9 g1
    obtain ⟨s2, e2, -, w2⟩ := DataW.trod_string Tryz.underlying9 g2
    simp only [List.cons.injEq, and_true] at e0 e1 e2
    exact ⟨(s0, s1, s2), by rw [e0, e1, e2]; rfl, w0, w1, w2⟩
theorem to_one (A : Int) (B : ByteArray) (C : ByteArray) (w : World) : Calls Tryz.prog 37 #[.agg #[.int .i64 A, .string B, .string C]] w fun e w' => e = .returned (.agg #[.int .i64 A, .string B, .string C]) ∧ Below w.heap.size w w' := by
  go_enter Tryz.func37, Tryz.ntmps37
  go_wp2
  refine bodyPost_ret (v := .agg #[.int .i64 A, .string B, .string C]) (by simp [results, Tryz.results37, go_sem]) rfl ⟨rfl, ?_⟩
  exact (((Below.refl _ _).alloc (Nat.le_refl _) _).alloc (by simp) _).alloc (by simp; omega) _
theorem set_e (A : List Value) (u0 u1 u2 x0 x1 x2 : Value) (L : List Value) (k : Nat) (h : A.length = k) : ((((A ++ u0 :: u1 :: u2 :: L).set k x0).set (k + 1) x1).set (k + 2) x2) = A ++ [x0, x1, x2] ++ L := by
  subst h
  simp [List.set_append_right]
theorem split_e (r : List Value) (n : Nat) (h : r.length = (n + 1) * 3) : ∃ u0 u1 u2 L, r = u0 :: u1 :: u2 :: L ∧ L.length = n * 3 := by
  match r, h with
  | u0 :: u1 :: u2 :: L, h => exact ⟨u0, u1, u2, L, rfl, by simp only [List.length_cons] at h; omega⟩
  | [], h => simp at h <;> omega
  | [_], h => simp at h <;> omega
  | [_, _], h => simp at h <;> omega
set_option maxRecDepth 100000 in
set_option maxHeartbeats 2000000 in
theorem to_any {w : World} {v : Value} {zs : List E} (h : Is w v zs) (hlen : zs.length ≤ 4194304) :
    Calls Tryz.prog 11 #[v] w fun e w' => e = .returned (.slice (some ⟨w.heap.size, 0, none⟩) zs.length zs.length) ∧
      w'.ownsRow w.heap.size 62 3 (.slice (some ⟨w.heap.size, 0, none⟩) zs.length zs.length) zs.length (flat zs) ∧ Below w.heap.size w w' := by
  obtain ⟨i0, hi, hz0, hz1, hz2⟩ := info_parts info_e
  obtain ⟨-, a, cap, rfl, hc, hm, -, hr⟩ := h
  unfold maxLen at hm
  obtain ⟨n, hn⟩ : ∃ n, n = zs.length := ⟨_, rfl⟩
  rw [← hn] at hc hr hlen ⊢
  have HN := hide hn
  clear hn
  go_enter Tryz.func11, Tryz.ntmps11
  go_wp2_with (at_make; refine wpList_make_full _ rfl _ _ _ rfl w.heap.size 62 i0 (.agg #[.int .i64 0, .string ByteArray.empty, .string ByteArray.empty]) 3 Tryz.underlying33 hi hz0 hz1 .i64 .i64 _ _ n rfl rfl rfl rfl (by rw [hz2]; omega) (by unfold maxLen; omega) (Nat.le_refl _) ?_; intro w1 hown1 hgrow1)
  go_loopw [4] (fun i wr => ∃ (j : Nat) (r : List Value), j ≤ n ∧ i = .int .i64 j ∧ r.length = (n - j) * 3 ∧ wr.ownsRow w.heap.size 62 3 (.slice (some ⟨w.heap.size, 0, none⟩) n n) n (flat (zs.take j) ++ r) ∧ Below w.heap.size w wr) (fun i _ => n - (intOf i).toNat)
  case atStart =>
    refine ⟨0, _, Nat.zero_le _, rfl, ?_, hown1, below_grown (Below.refl _ _) (Nat.le_refl _) hgrow1 (by simp)⟩
    have := hown1.1
    simpa using this
  case round =>
    obtain ⟨j, r, hj, rfl, hrl, hown, hbel⟩ := hrel
    have hsz := own_lt hown
    by_cases hlt : j < n
    · obtain ⟨u0, u1, u2, L, rfl, hB⟩ := split_e r (n - j - 1) (by rw [hrl]; omega)
      obtain ⟨b, off, rfl, hl, hcells⟩ := hr (by omega)
      have fa := flat_at zs j (by have := unhide HN; omega)
      have hc0 : wr.cell? ⟨b, off + j * 3, none⟩ = some (.int .i64 ((at' zs j).1)) := (hbel.cell (p := ⟨b, _, none⟩) hl).trans (hcells (j * 3) _ fa.1)
      have hc1 : wr.cell? ⟨b, off + j * 3 + 1, none⟩ = some (.string ((at' zs j).2.1)) := (hbel.cell (p := ⟨b, _, none⟩) hl).trans (hcells (j * 3 + 1) _ fa.2.1)
      have hc2 : wr.cell? ⟨b, off + j * 3 + 2, none⟩ = some (.string ((at' zs j).2.2)) := (hbel.cell (p := ⟨b, _, none⟩) hl).trans (hcells (j * 3 + 2) _ fa.2.2)
      have fln : (flat (zs.take j)).length = j * 3 := by rw [flat_length]; simp; have := unhide HN; omega
      have hd0 : wr.cell? ⟨w.heap.size, j * 3, none⟩ = some u0 := by rw [hown.cellAt (j * 3) (by omega)]; simp [fln]
      have hf0 := hown.frozenAt (j * 3)
      have hd1 : wr.cell? ⟨w.heap.size, j * 3 + 1, none⟩ = some u1 := by rw [hown.cellAt (j * 3 + 1) (by omega)]; simp [fln]
      have hf1 := hown.frozenAt (j * 3 + 1)
      have hd2 : wr.cell? ⟨w.heap.size, j * 3 + 2, none⟩ = some u2 := by rw [hown.cellAt (j * 3 + 2) (by omega)]; simp [fln]
      have hf2 := hown.frozenAt (j * 3 + 2)
      have hk0 : (0 : Int) ≤ (j : Int) := Int.natCast_nonneg _
      have hk1 : (j : Int) < (n : Int) := by omega
      have HS := hide (at_snoc zs j (by have := unhide HN; omega))
      obtain ⟨A, B, C, hX⟩ : ∃ A B C, (A, B, C) = at' zs j := ⟨_, _, _, rfl⟩
      rw [← hX] at hc0 hc1 hc2
      have HX := hide hX
      have HF := hide fln
      clear hX fln fa
      go_wp2_with (go_at_call 37; refine (to_one _ _ _ _).mono ?_; rintro e w2 ⟨rfl, hb2⟩; obtain ⟨bc, bf⟩ := bcell hb2)
      have o0 := ((own_below hown hb2).stored (j * 3) (.int .i64 A)).1
      have o1 := (o0.stored (j * 3 + 1) (.string B)).1
      have o2 := (o1.stored (j * 3 + 2) (.string C)).1
      rw [set_e _ _ _ _ _ _ _ _ _ (unhide HF)] at o2
      have e2 : flat (zs.take (j + 1)) = flat (zs.take j) ++ [.int .i64 A, .string B, .string C] := by rw [unhide HS]; unfold flat; rw [flatOf_append, flatOf_one, ← unhide HX]; rfl
      rw [← e2] at o2
      have R := hide ((((hbel.trans (hb2.mono (by omega))).setCell (p := ⟨w.heap.size, j * 3, none⟩) (Nat.le_refl _) (.int .i64 A)).setCell (p := ⟨w.heap.size, j * 3 + 1, none⟩) (Nat.le_refl _) (.string B)).setCell (p := ⟨w.heap.size, j * 3 + 2, none⟩) (Nat.le_refl _) (.string C))
      have O := hide o2
      clear o0 o1 o2 e2 hown bc bf hd0 hf0 hd1 hf1 hd2 hf2
      go_wp2_with fail
      go_roundw
      case rel => exact ⟨j + 1, L, by omega, by go_num, by omega, unhide O, unhide R⟩
      case measure => simp [intOf]; omega
    · obtain rfl : j = n := by omega
      obtain rfl : r = [] := List.eq_nil_of_length_eq_zero (by rw [hrl]; omega)
      rw [List.append_nil, List.take_of_length_le (by have := unhide HN; omega)] at hown
      go_wp2
      go_ret
      exact ⟨rfl, hown, hbel⟩
theorem eq_one (A : Int) (B : ByteArray) (C : ByteArray) (w : World) : Calls Tryz.prog 41 #[.agg #[.int .i64 A, .string B, .string C], .agg #[.int .i64 A, .string B, .string C]] w fun e w' => e = .returned (.bool true) ∧ Below w.heap.size w w' := by
  go_enter Tryz.func41, Tryz.ntmps41
  go_wp2
  go_ret
  exact ⟨rfl, ((Below.refl _ _).alloc (Nat.le_refl _) _).alloc (by simp) _⟩
set_option maxRecDepth 100000 in
set_option maxHeartbeats 2000000 in
theorem eq_any {v u : Value} {zs : List E} {w : World} (h : Is w v zs) (h' : Is w u zs) : Calls Tryz.prog 15 #[v, u] w fun e w' => e = .returned (.bool true) ∧ Below w.heap.size w w' := by
  obtain ⟨-, a, cap, rfl, hc, hm, -, hr⟩ := h
  obtain ⟨-, a', cap', rfl, hc', hm', -, hr'⟩ := h'
  unfold maxLen at hm hm'
  obtain ⟨n, hn⟩ : ∃ n, n = zs.length := ⟨_, rfl⟩
  rw [← hn] at hc hr hc' hr' ⊢
  have HN := hide hn
  clear hn
  go_enter Tryz.func15, Tryz.ntmps15
  go_wp2
  go_loopw [5] (fun i wr => ∃ (j : Nat), j ≤ n ∧ i = .int .i64 j ∧ Below w.heap.size w wr) (fun i _ => n - (intOf i).toNat)
  case atStart => exact ⟨0, Nat.zero_le _, rfl, Below.refl _ _⟩
  case round =>
    obtain ⟨j, hj, rfl, hbel⟩ := hrel
    have hsz := hbel.size
    by_cases hlt : j < n
    · obtain ⟨b, off, rfl, hl, hcells⟩ := hr (by omega)
      obtain ⟨b', off', rfl, hl', hcells'⟩ := hr' (by omega)
      have fa := flat_at zs j (by have := unhide HN; omega)
      obtain ⟨A, B, C, hX⟩ : ∃ A B C, (A, B, C) = at' zs j := ⟨_, _, _, rfl⟩
      rw [← hX] at fa
      have hq0 : ∀ x : Cls wr.heap.size wr, x.val.cell? ⟨b, off + j * 3, none⟩ = some (.int .i64 A) := fun x => by rw [x.cell (by omega)]; exact (hbel.cell (p := ⟨b, _, none⟩) hl).trans (hcells (j * 3) _ fa.1)
      have hp0 : ∀ x : Cls wr.heap.size wr, x.val.cell? ⟨b', off' + j * 3, none⟩ = some (.int .i64 A) := fun x => by rw [x.cell (by omega)]; exact (hbel.cell (p := ⟨b', _, none⟩) hl').trans (hcells' (j * 3) _ fa.1)
      have hq1 : ∀ x : Cls wr.heap.size wr, x.val.cell? ⟨b, off + j * 3 + 1, none⟩ = some (.string B) := fun x => by rw [x.cell (by omega)]; exact (hbel.cell (p := ⟨b, _, none⟩) hl).trans (hcells (j * 3 + 1) _ fa.2.1)
      have hp1 : ∀ x : Cls wr.heap.size wr, x.val.cell? ⟨b', off' + j * 3 + 1, none⟩ = some (.string B) := fun x => by rw [x.cell (by omega)]; exact (hbel.cell (p := ⟨b', _, none⟩) hl').trans (hcells' (j * 3 + 1) _ fa.2.1)
      have hq2 : ∀ x : Cls wr.heap.size wr, x.val.cell? ⟨b, off + j * 3 + 2, none⟩ = some (.string C) := fun x => by rw [x.cell (by omega)]; exact (hbel.cell (p := ⟨b, _, none⟩) hl).trans (hcells (j * 3 + 2) _ fa.2.2)
      have hp2 : ∀ x : Cls wr.heap.size wr, x.val.cell? ⟨b', off' + j * 3 + 2, none⟩ = some (.string C) := fun x => by rw [x.cell (by omega)]; exact (hbel.cell (p := ⟨b', _, none⟩) hl').trans (hcells' (j * 3 + 2) _ fa.2.2)
      have hk0 : (0 : Int) ≤ (j : Int) := Int.natCast_nonneg _
      have hk1 : (j : Int) < (n : Int) := by omega
      clear hX fa
      have hne := cls_nonempty wr.heap.size wr
      go_wp2_with fail
      refine region_cls (by kernel_rfl) (by kernel_rfl) ?_
      repeat (go_big_quiet_step ((go_at_call 41; exact cls_call (Nat.le_refl _) (eq_one _ _ _ _))))
      refine wpQuiet_nil ?_
      rintro wq ⟨⟨_, hq⟩, rfl⟩
      go_wp2
      go_roundw
      case rel => exact ⟨j + 1, by omega, by go_num, hbel.trans (hq.mono hsz)⟩
      case measure => simp [intOf]; omega
    · go_wp2
      go_ret
      exact ⟨rfl, hbel⟩
def tot (zs : List E) : Nat := zs.foldl (fun a x => a + ((x.2.1).size + (x.2.2).size)) zs.length
def totTo (zs : List E) (j : Nat) : Nat := (zs.take j).foldl (fun a x => a + ((x.2.1).size + (x.2.2).size)) zs.length
theorem totTo_succ (zs : List E) (j : Nat) (h : j < zs.length) : totTo zs (j + 1) = totTo zs j + (((at' zs j).2.1).size + ((at' zs j).2.2).size) := by
  unfold totTo
  rw [at_snoc zs j h, List.foldl_append]
  rfl
theorem totTo_mono (zs : List E) : ∀ (i j : Nat), i ≤ j → j ≤ zs.length → totTo zs i ≤ totTo zs j
  | i, 0, h, _ => by obtain rfl : i = 0 := by omega
                     exact Nat.le_refl _
  | i, j + 1, h, hj => by
    by_cases e : i = j + 1
    · subst e; exact Nat.le_refl _
    · have h1 := totTo_mono zs i j (by omega) (by omega)
      rw [totTo_succ zs j (by omega)]
      omega
theorem totTo_all (zs : List E) : totTo zs zs.length = tot zs := by unfold totTo tot; rw [List.take_of_length_le (Nat.le_refl _)]
theorem tot_len (zs : List E) : zs.length ≤ tot zs := by have := totTo_mono zs 0 zs.length (Nat.zero_le _) (Nat.le_refl _); rw [totTo_all] at this; unfold totTo at this; simpa using this
theorem tot_at (zs : List E) (j : Nat) (h : j < zs.length) : ((at' zs j).2.1).size + ((at' zs j).2.2).size ≤ tot zs := by
  have h1 := totTo_succ zs j h
  have h2 := totTo_mono zs (j + 1) zs.length (by omega) (Nat.le_refl _)
  rw [totTo_all] at h2
  omega
theorem sz_one (A : Int) (B : ByteArray) (C : ByteArray) (left : Int) (w : World) (h0 : 0 ≤ left) (h1 : left ≤ 1048576) (g1 : B.size ≤ maxLen) (g2 : C.size ≤ maxLen) :
    Calls Tryz.prog 32 #[.agg #[.int .i64 A, .string B, .string C], .int .i64 left] w fun e w' => e = .returned (.int .i64 (if left - (B.size : Int) - (C.size : Int) < 0 then -1 else left - (B.size : Int) - (C.size : Int))) ∧ Below w.heap.size w w' := by
  unfold maxLen at g1 g2
  by_cases c1 : left - (B.size : Int) < 0
  · rw [if_pos (by omega)]
    go_enter Tryz.func32, Tryz.ntmps32
    go_wp2
    go_ret
    exact ⟨rfl, (Below.refl _ _).alloc (Nat.le_refl _) _⟩
  by_cases c2 : left - (B.size : Int) - (C.size : Int) < 0
  · rw [if_pos (by omega)]
    go_enter Tryz.func32, Tryz.ntmps32
    go_wp2
    go_ret
    exact ⟨rfl, (Below.refl _ _).alloc (Nat.le_refl _) _⟩
  rw [if_neg (by omega)]
  go_enter Tryz.func32, Tryz.ntmps32
  go_wp2
  go_ret
  exact ⟨rfl, (Below.refl _ _).alloc (Nat.le_refl _) _⟩
set_option maxRecDepth 100000 in
set_option maxHeartbeats 2000000 in
theorem sz_any {w : World} {v : Value} {zs : List E} (left : Int) (h : Is w v zs) (hlm : zs.length ≤ maxLen) (hg : ∀ x ∈ zs, good x) (h0 : 0 ≤ left) (h1 : left ≤ 1048576) :
    Calls Tryz.prog 8 #[v, .int .i64 left] w fun e w' => e = .returned (.int .i64 (if left - (tot zs : Int) < 0 then -1 else left - (tot zs : Int))) ∧ Below w.heap.size w w' := by
  obtain ⟨-, a, cap, rfl, hc, hm, -, hr⟩ := h
  have HT := hide (tot_len zs)
  unfold maxLen at hm hlm
  obtain ⟨n, hn⟩ : ∃ n, n = zs.length := ⟨_, rfl⟩
  rw [← hn] at hc hr hlm ⊢
  have HN := hide hn
  have HG := hide hg
  have T0 := hide (show totTo zs 0 = n by rw [hn]; rfl)
  clear hn hg
  by_cases hn0 : left - (n : Int) < 0
  · rw [if_pos (by have := unhide HT; have := unhide HN; omega)]
    go_enter Tryz.func8, Tryz.ntmps8
    go_wp2
    go_ret
    exact ⟨rfl, Below.refl _ _⟩
  obtain ⟨R, hR⟩ : ∃ R : Int, R = if left - (tot zs : Int) < 0 then -1 else left - (tot zs : Int) := ⟨_, rfl⟩
  rw [← hR]
  have HR := hide hR
  clear hR
  go_enter Tryz.func8, Tryz.ntmps8
  go_wp2
  go_loopw [1, 5] (fun lv i wr => ∃ (j : Nat), j ≤ n ∧ i = .int .i64 j ∧ lv = .int .i64 (left - (totTo zs j : Int)) ∧ 0 ≤ left - (totTo zs j : Int) ∧ Below w.heap.size w wr) (fun _ i _ => n - (intOf i).toNat)
  case atStart => exact ⟨0, Nat.zero_le _, rfl, by rw [unhide T0], by rw [unhide T0]; omega, Below.refl _ _⟩
  case round =>
    obtain ⟨j, hj, rfl, rfl, hleft, hbel⟩ := hrel
    have hsz := hbel.size
    by_cases hlt : j < n
    · obtain ⟨b, off, rfl, hl, hcells⟩ := hr (by omega)
      have fa := flat_at zs j (by have := unhide HN; omega)
      have HTS := totTo_succ zs j (by have := unhide HN; omega)
      have gd := unhide HG (at' zs j) (by rw [at_get zs j (by have := unhide HN; omega)]; exact List.getElem_mem _)
      have HLe := hide (show totTo zs (j + 1) ≤ tot zs by rw [← totTo_all]; exact totTo_mono zs _ _ (by have := unhide HN; omega) (Nat.le_refl _))
      obtain ⟨A, B, C, hX⟩ : ∃ A B C, (A, B, C) = at' zs j := ⟨_, _, _, rfl⟩
      rw [← hX] at fa HTS gd
      have hc0 : wr.cell? ⟨b, off + j * 3, none⟩ = some (.int .i64 A) := (hbel.cell (p := ⟨b, _, none⟩) hl).trans (hcells (j * 3) _ fa.1)
      have hc1 : wr.cell? ⟨b, off + j * 3 + 1, none⟩ = some (.string B) := (hbel.cell (p := ⟨b, _, none⟩) hl).trans (hcells (j * 3 + 1) _ fa.2.1)
      have hc2 : wr.cell? ⟨b, off + j * 3 + 2, none⟩ = some (.string C) := (hbel.cell (p := ⟨b, _, none⟩) hl).trans (hcells (j * 3 + 2) _ fa.2.2)
      have hk0 : (0 : Int) ≤ (j : Int) := Int.natCast_nonneg _
      have hk1 : (j : Int) < (n : Int) := by omega
      have HTS' := hide (show totTo zs (j + 1) = totTo zs j + (B.size + C.size) from HTS)
      have HOne := hide (fun W => sz_one A B C (left - (totTo zs j : Int)) W hleft (by omega) gd.2.1 gd.2.2)
      clear hX fa HTS gd
      generalize totTo zs j = Q at *
      go_wp2_with fail
      refine (unhide HOne _).mono ?_
      rintro e w2 ⟨rfl, b2⟩
      by_cases hneg : left - (Q : Int) - (B.size : Int) - (C.size : Int) < 0
      · rw [if_pos hneg]
        have HRn := hide (show R = -1 by rw [unhide HR, if_pos]; have := unhide HLe; have := unhide HTS'; omega)
        go_wp2
        go_ret
        exact ⟨ret_int (unhide HRn).symm, hbel.trans (b2.mono hsz)⟩
      · rw [if_neg hneg]
        have hle0 : 0 ≤ left - (Q : Int) - (B.size : Int) - (C.size : Int) := by omega
        go_wp2
        go_roundw
        case rel => exact ⟨j + 1, by omega, by go_num, by rw [unhide HTS']; go_num, by rw [unhide HTS']; omega, hbel.trans (b2.mono hsz)⟩
        case measure => simp [intOf]; omega
    · obtain rfl : j = n := by omega
      have HRp := hide (show R = left - (totTo zs j : Int) by rw [unhide HR]; have e := totTo_all zs; rw [← unhide HN] at e; rw [← e, if_neg (by omega)])
      go_wp2
      go_ret
      exact ⟨ret_int (unhide HRp).symm, hbel⟩
end Go.Proofs.YtomncodkbcngmaaGreat.Mat
