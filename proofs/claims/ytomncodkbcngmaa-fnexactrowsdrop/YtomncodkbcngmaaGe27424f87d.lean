/- My own texts of one claim, laid together by program: RSet2, RowMath. -/
import Derived.Test.YtomncodkbcngmaaGf3dc792d5e
import Derived.Test.YtomncodkbcngmaaGa05a9f4689
import Derived.Test.YtomncodkbcngmaaG94548590d7
import Derived.Test.YtomncodkbcngmaaG1a30be0f7d
/- The rows of a set; a new set; samples put to a row that is there. -/
namespace Go.Proofs.Ytomncodkbcngmaa.RSet
open Go.RowKit Rw
set_option linter.unusedVariables false
attribute [local go_sem ↓] Go.wp_at_zero Go.wp_at_succ
theorem new_any (w : World) : Calls Try.prog 43 #[] w fun e w' => ∃ mb, e = .returned (.agg #[.slice none 0 0, .map (some mb)]) ∧ w.heap.size ≤ mb ∧ SMap.MapIs w' mb 0 (fun _ => none) ∧ Below w.heap.size w w' := by
  have hmm := @run_makeMap Try.prog
  have B2 := hide (((Below.refl w.heap.size w).alloc (Nat.le_refl _) (.cells #[.slice none 0 0, .map (some (w.heap.size + 1))] 74)).alloc (by simp) (.map #[] 0))
  have hM := SMap.made (w.alloc (.cells #[.slice none 0 0, .map (some (w.heap.size + 1))] 74))
  simp only [World.size_alloc] at hM
  have hM2 := hide hM
  clear hM
  go_enter Try.func43, Try.ntmps43
  go_wp2
  refine bodyPost_ret (v := .agg #[.slice none 0 0, .map (some (w.heap.size + 1))]) (by simp [results, Try.results43, go_sem]) rfl ⟨_, rfl, by omega, unhide hM2, unhide B2⟩
set_option maxRecDepth 100000 in
set_option maxHeartbeats 8000000 in
theorem put_fail {lo B mb n m sc : Nat} {sa : Option Addr} {w : World} {ks : List ByteArray} {M : ByteArray → Option Row.C} {R : ByteArray → Row.E} {lv : Value} {ls : List Lab.E} {zs : List Sam.E} {c : Row.C}
    (h : IsSet lo B mb n w ks M R) (hl : Lab.Is w lv ls) (hlg : ∀ x ∈ ls, Lab.good x) (hlo : Lab.ok ls = true) (hs : Samp.Smp w (.slice sa m sc) zs) (hm : zs.length = m) (hJ : (SampMath.join (R (Lab.keyOf ls)).2 zs).2 = false) (h0 : 0 < m) (h1 : m ≤ 4194304) (h2 : (R (Lab.keyOf ls)).2.length ≤ 4194304) (hN : M (Lab.keyOf ls) = some c) :
    Calls Try.prog 45 #[.pointer (some ⟨B, 0, none⟩), lv, .slice sa m sc] w fun e w' => e = .returned (.bool false) ∧ Below w.heap.size w w' := by
  have hm0 : (m == 0) = false := by simp; omega
  have hmI : ((m : Int) == 0) = false := by simp; omega
  have HK := hide (Lab.rowKey_any hl hlg hlo)
  obtain ⟨⟨p1, p2⟩, p3, p4⟩ := h.row _ c hN
  have HJ := hide (fun W (hb : Below w.heap.size w W) => Samp.impl_join (w := W) (v := c.2) (zs := (R (Lab.keyOf ls)).2) (Samp.smp_of_own (by rw [flat_eq]; exact own_below p2 hb)) (hs.below hb) h2 (by omega))
  have hKs := key_size hlo
  unfold Samp.Joined at HJ
  rw [hJ] at HJ
  have HKS := hide hKs
  obtain ⟨K, hK⟩ : ∃ K, K = Lab.keyOf ls := ⟨_, rfl⟩
  rw [← hK] at HK hN HKS HJ p1 p2
  clear hl hlg hlo hs hKs hK hJ h2
  obtain ⟨c0, c1⟩ := c
  simp only at p1 p2 HJ
  obtain ⟨-, a0, q0, e0, -⟩ := lies_of_own p1
  obtain ⟨-, a1, q1, e1, -⟩ := lies_of_own p2
  generalize (R K).1.length = l0 at e0
  generalize (R K).2.length = l1 at e1
  clear p1 p2 p3 p4
  subst e0 e1
  have hB := h.ltB
  go_enter Try.func45, Try.ntmps45
  go_wp2_with fail
  refine (unhide HK).mono ?_
  rintro e w1 ⟨rfl, b1⟩
  have z1 := b1.size
  have hs1 := h.below b1
  have hlk := hs1.map.look_ok (s := K) (by have := unhide HKS; unfold maxLen; omega)
  simp only [hN, Option.map_some, Option.getD_some, Option.isSome_some, aggOf] at hlk
  have hmc := hs1.mapc
  clear hs1 HK h
  go_wp2_with fail
  obtain ⟨w2, hw2⟩ : ∃ w2, w2 = w1.alloc (.cells #[.slice a0 l0 q0, .slice a1 l1 q1] 67) := ⟨_, rfl⟩
  rw [← hw2]
  have b2 : Below w1.heap.size w1 w2 := by rw [hw2]; exact (Below.refl _ _).alloc (Nat.le_refl _) _
  have b12 : Below w.heap.size w w2 := b1.trans (b2.mono z1)
  clear hw2
  refine (unhide HJ w2 b12).mono ?_
  rintro e w3 ⟨x, rfl, ox, b3⟩
  have b13 : Below w.heap.size w w3 := b12.trans (b3.mono b12.size)
  clear HJ hlk hmc ox b3
  go_wp2_with fail
  go_ret
  exact ⟨rfl, b13⟩
set_option maxRecDepth 100000 in
set_option maxHeartbeats 8000000 in
theorem put_old {lo B mb n m sc : Nat} {sa : Option Addr} {w : World} {ks : List ByteArray} {M : ByteArray → Option Row.C} {R : ByteArray → Row.E} {lv : Value} {ls : List Lab.E} {zs J : List Sam.E} {c : Row.C}
    (h : IsSet lo B mb n w ks M R) (hl : Lab.Is w lv ls) (hlg : ∀ x ∈ ls, Lab.good x) (hlo : Lab.ok ls = true) (hs : Samp.Smp w (.slice sa m sc) zs) (hm : zs.length = m) (hJ : SampMath.join (R (Lab.keyOf ls)).2 zs = (J, true)) (h0 : 0 < m) (h1 : m ≤ 4194304) (h2 : (R (Lab.keyOf ls)).2.length ≤ 4194304) (hn : n ≤ 1000) (hN : M (Lab.keyOf ls) = some c) (hlow : lo ≤ w.heap.size) :
    Calls Try.prog 45 #[.pointer (some ⟨B, 0, none⟩), lv, .slice sa m sc] w fun e w' => ∃ c, e = .returned (.bool true) ∧ IsSet lo B mb (n + 1) w' ks (fun k => if k = Lab.keyOf ls then some c else M k) (fun k => if k = Lab.keyOf ls then ((R k).1, J) else R k) ∧ Two B mb w w' := by
  have hm0 : (m == 0) = false := by simp; omega
  have hmI : ((m : Int) == 0) = false := by simp; omega
  have HK := hide (Lab.rowKey_any hl hlg hlo)
  obtain ⟨⟨p1, p2⟩, p3, p4⟩ := h.row _ c hN
  have HJ := hide (fun W (hb : Below w.heap.size w W) => Samp.impl_join (w := W) (v := c.2) (zs := (R (Lab.keyOf ls)).2) (Samp.smp_of_own (by rw [flat_eq]; exact own_below p2 hb)) (hs.below hb) h2 (by omega))
  have hKs := key_size hlo
  unfold Samp.Joined at HJ
  rw [hJ] at HJ
  simp only [flat_eq] at HJ
  have HKS := hide hKs
  have HLEN := hide hn
  obtain ⟨K, hK⟩ : ∃ K, K = Lab.keyOf ls := ⟨_, rfl⟩
  rw [← hK] at HK hN HKS p1 p2 ⊢
  clear hl hlg hlo hs hKs hK hJ h2 hn
  obtain ⟨c0, c1⟩ := c
  simp only at p1 p2 p3 p4 HJ
  have HP1 := hide p1
  have HP3 := hide p3
  obtain ⟨-, a0, q0, e0, -⟩ := lies_of_own p1
  obtain ⟨-, a1, q1, e1, -⟩ := lies_of_own p2
  generalize hl0 : (R K).1.length = l0 at e0
  generalize (R K).2.length = l1 at e1
  have HL0 := hide hl0
  clear p1 p2 p3 p4 hl0
  subst e0 e1
  have hB := h.ltB
  go_enter Try.func45, Try.ntmps45
  go_wp2_with fail
  refine (unhide HK).mono ?_
  rintro e w1 ⟨rfl, b1⟩
  have z1 := b1.size
  have hs1 := h.below b1
  have hlk := hs1.map.look_ok (s := K) (by have := unhide HKS; unfold maxLen; omega)
  simp only [hN, Option.map_some, Option.getD_some, Option.isSome_some, aggOf] at hlk
  have hmc := hs1.mapc
  have Hs1 := hide hs1
  clear hs1 HK h
  go_wp2_with fail
  obtain ⟨w2, hw2⟩ : ∃ w2, w2 = w1.alloc (.cells #[.slice a0 l0 q0, .slice a1 l1 q1] 67) := ⟨_, rfl⟩
  rw [← hw2]
  have b2 : Below w1.heap.size w1 w2 := by rw [hw2]; exact (Below.refl _ _).alloc (Nat.le_refl _) _
  have z2 : w2.heap.size = w1.heap.size + 1 := by rw [hw2]; simp
  have x20 : w2.cell? ⟨w1.heap.size, 0, none⟩ = some (.slice a0 l0 q0) := by rw [hw2]; simp [go_sem]
  have x21 : w2.cell? ⟨w1.heap.size, 1, none⟩ = some (.slice a1 l1 q1) := by rw [hw2]; simp [go_sem]
  have f21 : w2.frozen? ⟨w1.heap.size, 1, none⟩ = false := by rw [hw2]; simp [go_sem]
  have b12 : Below w.heap.size w w2 := b1.trans (b2.mono z1)
  clear hw2
  refine (unhide HJ w2 b12).mono ?_
  rintro e w3 ⟨x, rfl, ox, b3⟩
  have z3 := b3.size
  obtain ⟨xa, xq, rfl⟩ : ∃ a q, x = .slice a J.length q := by obtain ⟨-, a, q, e, -⟩ := lies_of_own ox; exact ⟨a, q, e⟩
  have b13 : Below w.heap.size w w3 := b12.trans (b3.mono b12.size)
  have b1_3 : Below w1.heap.size w1 w3 := b2.trans (b3.mono b2.size)
  have x30 := (b3.cell (p := ⟨w1.heap.size, 0, none⟩) (by show w1.heap.size < _; omega)).trans x20
  have x31 := (b3.cell (p := ⟨w1.heap.size, 1, none⟩) (by show w1.heap.size < _; omega)).trans x21
  have f31 := (b3.frozen (p := ⟨w1.heap.size, 1, none⟩) (by show w1.heap.size < _; omega)).trans f21
  clear x20 x21 f21 HJ hlk hmc
  have hs3 := (unhide Hs1).below b1_3
  have hne1 : ¬ B = w1.heap.size := by omega
  have hne2 : ¬ w1.heap.size = B := by omega
  obtain ⟨w8, hw8⟩ : ∃ w8, w8 = w3.setCell ⟨w1.heap.size, 1, none⟩ (.slice xa J.length xq) := ⟨_, rfl⟩
  have o8 : OnlyAt w1.heap.size w3 w8 := by rw [hw8]; exact (OnlyAt.refl _ _).setCell 1 _
  have c80 : w8.cell? ⟨w1.heap.size, 0, none⟩ = some (.slice a0 l0 q0) := by rw [hw8, World.cell?_setCell_other _ _ _ _ (by simp)]; exact x30
  have c81 : w8.cell? ⟨w1.heap.size, 1, none⟩ = some (.slice xa J.length xq) := by rw [hw8]; exact World.cell?_setCell_same _ _ _ x31
  have c8M : w8.cell? ⟨B, 1, none⟩ = some (.map (some mb)) := (World.cell?_of_block (a := ⟨B, 1, none⟩) (o8.block _ hne1)).trans hs3.mapc
  have hml := (unhide Hs1).map.lt
  have hnem : mb ≠ w1.heap.size := by omega
  have hBm := (unhide Hs1).ne
  have m8 : SMap.MapIs w8 mb n (fun k => (M k).map aggOf) := hs3.map.block (o8.block mb hnem)
  obtain ⟨w9, hmu, m9, o9⟩ := (m8.below (Below.refl _ _).drew).store (s := K) (by have := unhide HKS; unfold maxLen; omega) (by have := unhide HLEN; unfold maxLen; omega) (.agg #[.slice a0 l0 q0, .slice xa J.length xq])
  have S8 : (fun W : World => W.cell? ⟨B, 1, none⟩ = some (.map (some mb)) ∧ W.cell? ⟨w1.heap.size, 0, none⟩ = some (.slice a0 l0 q0) ∧ W.cell? ⟨w1.heap.size, 1, none⟩ = some (.slice xa J.length xq)) w8.drew := ⟨by simpa using c8M, by simpa using c80, by simpa using c81⟩
  have S9 : (fun W : World => W.cell? ⟨B, 1, none⟩ = some (.map (some mb)) ∧ W.cell? ⟨w1.heap.size, 0, none⟩ = some (.slice a0 l0 q0) ∧ W.cell? ⟨w1.heap.size, 1, none⟩ = some (.slice xa J.length xq)) w9 := ⟨(World.cell?_of_block (a := ⟨B, 1, none⟩) (o9.block _ hBm)).trans S8.1, (World.cell?_of_block (a := ⟨w1.heap.size, 0, none⟩) (o9.block _ hnem.symm)).trans S8.2.1, (World.cell?_of_block (a := ⟨w1.heap.size, 1, none⟩) (o9.block _ hnem.symm)).trans S8.2.2⟩
  have HM9 := hide m9
  have Hs3 := hide hs3
  clear m9 m8 hs3
  go_wp2_with fail
  rw [← hw8]
  clear hw8
  go_region_held3 (fun W => W.cell? ⟨B, 1, none⟩ = some (.map (some mb)) ∧ W.cell? ⟨w1.heap.size, 0, none⟩ = some (.slice a0 l0 q0) ∧ W.cell? ⟨w1.heap.size, 1, none⟩ = some (.slice xa J.length xq)) (first | exact S8 | exact S9) (fail)
  go_wp2_with fail
  go_ret
  have z8 := o8.size
  have z9 := o9.size
  simp only [World.size_drew] at z9
  have two1 : Two B mb w1 w9 := (((Two.of_below b1_3).then_only (Nat.le_refl _) o8).trans (Two.of_below (Below.refl _ _).drew)).trans (Two.of_onlyM o9)
  have hs1 := unhide Hs1
  have hml1 : mb < w1.heap.size := hml
  have ox9 : w9.ownsRow lo 46 2 (.slice xa J.length xq) J.length (Sam.flat J) := own_mono (o9.own (World.ownsRow.drew (o8.own ox (fun k hk' => by have := own_ge ox k hk'; omega))) (fun k hk' => by have := own_ge ox k hk'; omega)) (by omega)
  obtain ⟨kv, kc1, ko1, kf⟩ := hs1.key
  refine ⟨(.slice a0 l0 q0, .slice xa J.length xq), rfl, ⟨hs1.loB, hs1.loM, hs1.ne, by omega, ⟨kv, ?_, two1.own ko1 kf, kf⟩, S9.1, ?_, ?_, ?_, ?_, ?_⟩, (Two.of_below b1).trans two1⟩
  · exact (World.cell?_of_block (a := ⟨B, 0, none⟩) (o9.block _ hBm)).trans ((show w8.drew.cell? ⟨B, 0, none⟩ = w8.cell? ⟨B, 0, none⟩ by simp).trans ((World.cell?_of_block (a := ⟨B, 0, none⟩) (o8.block _ hne1)).trans ((b1_3.cell (p := ⟨B, 0, none⟩) (by show B < _; omega)).trans kc1)))
  · exact (World.frozen?_of_block (a := ⟨B, 0, none⟩) (o9.block _ hBm)).trans ((show w8.drew.frozen? ⟨B, 0, none⟩ = w8.frozen? ⟨B, 0, none⟩ by simp).trans ((World.frozen?_of_block (a := ⟨B, 0, none⟩) (o8.block _ hne1)).trans (unhide Hs3).fz))
  · have e : (fun k => (if k = K then some (Value.slice a0 l0 q0, Value.slice xa J.length xq) else M k).map aggOf) = (fun t => if t = K then some (.agg #[.slice a0 l0 q0, .slice xa J.length xq]) else (M t).map aggOf) := by funext t; split <;> rfl
    rw [e]
    exact unhide HM9
  · intro k
    by_cases e : k = K
    · subst e
      simp only [if_true, Option.isSome_some, true_iff]
      exact (hs1.has k).1 (by rw [hN]; rfl)
    · simp only [if_neg e]
      exact hs1.has k
  · intro k c hc
    by_cases e : k = K
    · subst e
      simp only [if_true, Option.some.injEq] at hc ⊢
      subst hc
      simp only
      have p1 := own_below (unhide HP1) b1
      exact ⟨⟨two1.own p1 (unhide HP3), ox9⟩, unhide HP3, fun k hk' => by have := own_ge ox k hk'; omega⟩
    · simp only [if_neg e] at hc ⊢
      obtain ⟨⟨p1, p2⟩, p3, p4⟩ := hs1.row k c hc
      exact ⟨⟨two1.own p1 p3, two1.own p2 p4⟩, p3, p4⟩
  · intro k k' c c' hne hc hc'
    by_cases e : k = K
    · have e' : ¬ k' = K := fun h => hne (e.trans h.symm)
      simp only [if_pos e, if_neg e', Option.some.injEq] at hc hc'
      subst hc
      obtain ⟨⟨p1, p2⟩, p3, p4⟩ := hs1.row k' c' hc'
      exact ⟨(hs1.apart K k' _ c' (fun h => e' h.symm) hN hc').1, fun b hb hb' => by have h1 := own_ge ox b hb; have h2 := own_block_lt p2 b hb'; omega⟩
    · by_cases e' : k' = K
      · simp only [if_neg e, if_pos e', Option.some.injEq] at hc hc'
        subst hc'
        obtain ⟨⟨p1, p2⟩, p3, p4⟩ := hs1.row k c hc
        exact ⟨(hs1.apart k K c _ e hc hN).1, fun b hb hb' => by have h1 := own_ge ox b hb'; have h2 := own_block_lt p2 b hb; omega⟩
      · simp only [if_neg e, if_neg e'] at hc hc'
        exact hs1.apart k k' c c' hne hc hc'
set_option maxRecDepth 100000 in
set_option maxHeartbeats 8000000 in
theorem rows_any {lo B mb n : Nat} {w : World} {ks : List ByteArray} {M : ByteArray → Option Row.C} {R : ByteArray → Row.E} (h : IsSet lo B mb n w ks M R) (hnd : ks.Nodup) (hsz : ∀ k ∈ ks, k.size ≤ 2002002) (hk : ks.length ≤ 1000) (hlow : lo ≤ w.heap.size) :
    Calls Try.prog 47 #[.pointer (some ⟨B, 0, none⟩)] w fun e w' => ∃ v, e = .returned v ∧ Row.Own lo w'.heap.size w' v (ks.map R) ∧ Below w.heap.size w w' := by
  obtain ⟨i0, hi, hz0, hz1, hz2⟩ := info_parts Row.info_e
  obtain ⟨kv, kc, ko, kf⟩ := h.key
  have hmc := h.mapc
  have hB := h.ltB
  have hL := lies_of_own ko
  obtain ⟨-, ka, kq, rfl, hc, hm, -, hr⟩ := hL
  unfold maxLen at hm
  obtain ⟨l, hl⟩ : ∃ l, l = ks.length := ⟨_, rfl⟩
  rw [← hl] at hc hr hk kc
  have HN := hide hl
  have Hs := hide h
  have HSZ := hide hsz
  have hCell : ∀ k ∈ ks, ∃ c, M k = some c := fun k hk' => by have := (h.has k).2 hk'; exact Option.isSome_iff_exists.1 this
  obtain ⟨F, hF⟩ : ∃ F : ByteArray → Row.C, ∀ k ∈ ks, M k = some (F k) := ⟨fun k => (M k).getD (.slice none 0 0, .slice none 0 0), fun k hk' => by obtain ⟨c, e⟩ := hCell k hk'; simp only [e, Option.getD_some]⟩
  have HF := hide hF
  have HND := hide hnd
  clear h hsz hl ko kf hF hCell hnd
  go_enter Try.func47, Try.ntmps47
  go_wp2_with fail
  go_loopw [3, 11] (fun pv i wr => ∃ (k : Nat) (pa : Option Addr) (pc : Nat), k ≤ l ∧ i = .int .i64 k ∧ pv = .slice pa k pc ∧ wr.ownsRow w.heap.size 67 2 pv k (flatOf Row.cl ((ks.take k).map F)) ∧ Below w.heap.size w wr) (fun _ i _ => l - (intOf i).toNat)
  case atStart => exact ⟨0, none, 0, Nat.zero_le _, rfl, rfl, World.ownsRow_nil _ _ _ _, Below.refl _ _⟩
  case round =>
    obtain ⟨k, pa, pc, hk', rfl, rfl, hown, hbel⟩ := hrel
    have hsz := hbel.size
    have hk0 : (0 : Int) ≤ (k : Int) := Int.natCast_nonneg _
    by_cases hlt : k < l
    · obtain ⟨b, off, rfl, hbl, hcells⟩ := hr (by omega)
      have hkl : k < ks.length := by have := unhide HN; omega
      have fa : (Str.flat ks)[k]? = some (.string ks[k]) := by have := flatOf_get Str.flk ks k 0 hkl (by omega); simpa [Str.fl] using this
      have hc0 : wr.cell? ⟨b, off + k, none⟩ = some (.string ks[k]) := (hbel.cell (p := ⟨b, _, none⟩) hbl).trans (hcells k _ fa)
      have hmem : ks[k] ∈ ks := List.getElem_mem _
      have hMk := unhide HF _ hmem
      have hmcr := (hbel.cell (p := ⟨B, 1, none⟩) hB).trans hmc
      have hlk := ((unhide Hs).map.below hbel).look (s := ks[k]) (by have := unhide HSZ _ hmem; unfold maxLen; omega)
      rw [show (M ks[k]).map aggOf = some (aggOf (F ks[k])) by rw [hMk]; rfl] at hlk
      simp only [Option.getD_some, aggOf] at hlk
      have HPS := hide (show flatOf Row.cl ((ks.take (k + 1)).map F) = flatOf Row.cl ((ks.take k).map F) ++ [(F ks[k]).1, (F ks[k]).2] by rw [List.take_succ_eq_append_getElem hkl, List.map_append, flatOf_append]; rfl)
      obtain ⟨⟨p1, p2⟩, -⟩ := (unhide Hs).row _ _ hMk
      obtain ⟨c0, c1, hX⟩ : ∃ c0 c1, (c0, c1) = F ks[k] := ⟨_, _, rfl⟩
      rw [← hX] at hlk HPS p1 p2
      simp only at hlk HPS p1 p2
      obtain ⟨-, a0, q0, e0, -⟩ := lies_of_own p1
      obtain ⟨-, a1, q1, e1, -⟩ := lies_of_own p2
      generalize (R ks[k]).1.length = l0 at e0
      generalize (R ks[k]).2.length = l1 at e1
      clear hX hMk p1 p2
      subst e0 e1
      clear fa hmem
      generalize ks[k] = K at hc0 hlk
      have hk1 : (k : Int) < (l : Int) := by omega
      have hmx : 1 ≤ maxLen := by unfold maxLen; omega
      go_wp2_with (at_builtin; refine app_wp _ rfl _ _ _ rfl w.heap.size 67 i0 _ 2 48 Try.underlying26 hi hz0 hz1 hz2 rfl (by omega) _ k _ rfl (hown.alloc _) _ 1 [.slice a0 l0 q0, .slice a1 l1 q1] rfl (lies_new (by simp) rfl hmx) (by simp [Value.oneCell']) (by unfold maxLen; omega) (by omega) (by simp; omega) ?_; intro vn wn on gn an)
      have R9 : Below w.heap.size w wn := below_grown (hbel.alloc hsz _) (by simp; omega) gn (own_ge hown)
      have R2 := hide (show wn.ownsRow w.heap.size 67 2 vn (k + 1) (flatOf Row.cl ((ks.take (k + 1)).map F)) by rw [unhide HPS]; exact on)
      obtain ⟨an', cn, hvn⟩ : ∃ a c, vn = .slice a (k + 1) c := by obtain ⟨-, a, c, e, -⟩ := lies_of_own on; exact ⟨a, c, e⟩
      have HV := hide hvn
      clear on gn an hown hvn
      go_wp2_with fail
      go_roundw
      case rel => exact ⟨k + 1, an', cn, by omega, by go_num, unhide HV, unhide R2, R9⟩
      case measure => simp [intOf]; omega
    · obtain rfl : k = l := by omega
      rw [List.take_of_length_le (by have := unhide HN; omega)] at hown
      have hs := (unhide Hs).below hbel
      have HO := hide (show Row.Own lo wr.heap.size wr (.slice pa k pc) (ks.map R) from ⟨ks.map F, by simp, by rw [List.length_map, ← unhide HN]; exact own_mono hown hlow, own_block_lt hown, Nat.le_refl _, fun i j hij hj b hb => by
          rw [List.length_map] at hj
          have e1 : Row.cat (ks.map F) i = F (ks[i]'(by omega)) := by simp [Row.cat, List.getD, show i < ks.length by omega]
          have e2 : Row.cat (ks.map F) j = F ks[j] := by simp [Row.cat, List.getD, hj]
          simp only [e1, e2] at hb ⊢
          exact (hs.apart _ _ _ _ (fun e => by have := (List.getElem_inj (unhide HND)).1 e; omega) (unhide HF _ (List.getElem_mem _)) (unhide HF _ (List.getElem_mem _))).1 b hb, fun i j hij hj b hb => by
          rw [List.length_map] at hj
          have e1 : Row.cat (ks.map F) i = F (ks[i]'(by omega)) := by simp [Row.cat, List.getD, show i < ks.length by omega]
          have e2 : Row.cat (ks.map F) j = F ks[j] := by simp [Row.cat, List.getD, hj]
          simp only [e1, e2] at hb ⊢
          exact (hs.apart _ _ _ _ (fun e => by have := (List.getElem_inj (unhide HND)).1 e; omega) (unhide HF _ (List.getElem_mem _)) (unhide HF _ (List.getElem_mem _))).2 b hb, fun i hi' => by
          rw [List.length_map] at hi'
          have e1 : Row.cat (ks.map F) i = F ks[i] := by simp [Row.cat, List.getD, hi']
          have e2 : Row.at' (ks.map R) i = R ks[i] := by rw [Row.at_get _ _ (by rw [List.length_map]; exact hi')]; simp
          rw [e1, e2]
          have := (hs.row _ _ (unhide HF _ (List.getElem_mem hi'))).1
          exact ⟨this, own_block_lt this.1, own_block_lt this.2⟩⟩)
      clear hs hown
      go_wp2
      go_ret
      exact ⟨_, rfl, unhide HO, hbel⟩
end Go.Proofs.Ytomncodkbcngmaa.RSet

/- Rows that are ok, as plain mathematics. No condition. -/
namespace Go.Proofs.Ytomncodkbcngmaa.Row
open Go.RowKit Rw
def rowB (x : E) : Bool := Lab.ok x.1 && (decide (1 ≤ x.2.length) && decide (x.2.length ≤ 1000)) && SampMath.ok x.2
def stepOk (zs : List E) (i : Nat) : Bool := rowB (at' zs i) && (i == 0 || decide (Lab.cmpL (at' zs (i - 1)).1 (at' zs i).1 < 0))
def okTo (zs : List E) (k : Nat) : Bool := (List.range k).all (stepOk zs)
def ok (zs : List E) : Bool := okTo zs zs.length && decide (zs.length ≤ 10)
theorem okTo_succ (zs : List E) (k : Nat) : okTo zs (k + 1) = (okTo zs k && stepOk zs k) := by simp [okTo, List.range_succ]
theorem ok_of_bad {zs : List E} {k : Nat} (hk : k < zs.length) (h : stepOk zs k = false) : ok zs = false := by
  unfold ok okTo
  rw [Bool.and_eq_false_iff]
  left
  rw [List.all_eq_false]
  exact ⟨k, by simpa using hk, by simp [h]⟩
theorem ok_long {zs : List E} (h : 10 < zs.length) : ok zs = false := by unfold ok; rw [decide_eq_false (by omega), Bool.and_false]
theorem step_lab {zs : List E} {k : Nat} (h : Lab.ok (at' zs k).1 = false) : stepOk zs k = false := by unfold stepOk rowB; rw [h]; rfl
theorem step_len {zs : List E} {k : Nat} (h : (at' zs k).2.length < 1 ∨ 1000 < (at' zs k).2.length) : stepOk zs k = false := by
  unfold stepOk rowB
  rcases h with h | h
  · rw [decide_eq_false (show ¬ 1 ≤ (at' zs k).2.length by omega)]; simp
  · rw [decide_eq_false (show ¬ (at' zs k).2.length ≤ 1000 by omega)]; simp
theorem step_sam {zs : List E} {k : Nat} (h : SampMath.ok (at' zs k).2 = false) : stepOk zs k = false := by unfold stepOk rowB; rw [h]; simp
theorem step_cmp {zs : List E} {k : Nat} (h0 : 0 < k) (h : ¬ Lab.cmpL (at' zs (k - 1)).1 (at' zs k).1 < 0) : stepOk zs k = false := by
  unfold stepOk
  rw [decide_eq_false h, show (k == 0) = false from by simp; omega]; simp
theorem step_yes {zs : List E} {k : Nat} (h1 : Lab.ok (at' zs k).1 = true) (h2 : 1 ≤ (at' zs k).2.length) (h3 : (at' zs k).2.length ≤ 1000) (h4 : SampMath.ok (at' zs k).2 = true) (h5 : k = 0 ∨ Lab.cmpL (at' zs (k - 1)).1 (at' zs k).1 < 0) : stepOk zs k = true := by
  unfold stepOk rowB
  rw [h1, h4, decide_eq_true h2, decide_eq_true h3]
  rcases h5 with h | h
  · simp [h]
  · simp [h]
theorem okTo_at {zs : List E} {k : Nat} (h : okTo zs k = true) {i : Nat} (hi : i < k) : stepOk zs i = true := by
  unfold okTo at h
  rw [List.all_eq_true] at h
  exact h i (by simpa using hi)
theorem step_is {zs : List E} {k : Nat} (h : stepOk zs k = true) : Lab.ok (at' zs k).1 = true ∧ 1 ≤ (at' zs k).2.length ∧ (at' zs k).2.length ≤ 1000 ∧ SampMath.ok (at' zs k).2 = true := by
  unfold stepOk rowB at h
  simp only [Bool.and_eq_true, decide_eq_true_eq] at h
  exact ⟨h.1.1.1, h.1.1.2.1, h.1.1.2.2, h.1.2⟩
theorem ok_at {zs : List E} (h : ok zs = true) {i : Nat} (hi : i < zs.length) : stepOk zs i = true := by
  unfold ok at h
  rw [Bool.and_eq_true] at h
  exact okTo_at h.1 hi
theorem ok_len {zs : List E} (h : ok zs = true) : zs.length ≤ 10 := by
  unfold ok at h
  rw [Bool.and_eq_true] at h
  simpa using h.2
end Go.Proofs.Ytomncodkbcngmaa.Row
