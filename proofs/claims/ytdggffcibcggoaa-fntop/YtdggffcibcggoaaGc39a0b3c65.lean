/- My own texts of one claim, laid together by program: FnRowsAskWalk, DropMath, AlCount, DropMath2. -/
import Derived.Test.YtdggffcibcggoaaG126b006543
import Derived.Test.YtdggffcibcggoaaG8d95aad7d3
import Derived.Test.YtdggffcibcggoaaG13e63f4cee
import Derived.Test.YtdggffcibcggoaaGe8a3ed009e
/- FnRowsAsk returns true at every text of bytes. -/
namespace Go.Proofs.Ytdggffcibcggoaa
open Go.RowKit Draw Rw
set_option linter.unusedVariables false
theorem Mat.is_nil (W : World) : Mat.Is W (.slice none 0 0) [] := ⟨rfl, none, 0, rfl, Nat.le_refl _, Nat.zero_le _, fun _ => rfl, fun h => absurd h (Nat.not_lt_zero _)⟩
theorem Row.Is.form {w : World} {v : Value} {zs : List Row.E} (h : Row.Is w v zs) : ∃ a q, v = .slice a zs.length q := by obtain ⟨cs, -, hL, -⟩ := h; obtain ⟨-, a, q, e, -⟩ := hL; exact ⟨a, q, e⟩
theorem Mat.Is.form {w : World} {v : Value} {zs : List Mat.E} (h : Mat.Is w v zs) : ∃ a q, v = .slice a zs.length q := by obtain ⟨-, a, q, e, -⟩ := h; exact ⟨a, q, e⟩
set_option maxRecDepth 100000 in
set_option maxHeartbeats 16000000 in
theorem fnRowsAsk.walk (a0 : Option Addr) (len0 cap0 : Nat) (z0 : List Int) (w : World) (w0 : IsRow .u8 w a0 len0 cap0 z0) :
    Calls Try.prog 8 #[.slice a0 len0 cap0] w fun e w' => e = .returned (.bool true) ∧ Below w.heap.size w w' := by
  have l0 := (row_bytes w0)
  have c0 : len0 ≤ 9223372036854775807 := by have := l0.1; have := l0.2.1; unfold maxLen at this; omega
  have H0 := hide (draw_ask w w w0 (Below.refl _ _))
  clear l0 w0
  by_cases hb0 : 1048576 < len0
  · go_enter Try.func8, Try.ntmps8
    go_wp2
    go_ret
    exact ⟨rfl, Below.refl _ _⟩
  go_enter Try.func8, Try.ntmps8
  go_wp2_with fail
  refine (unhide H0).mono ?_
  rintro e W1 ⟨L, ms, v, u, A, B, rfl, hRG, hv, hMG, hu, hAB, b1⟩
  have HG := hide hRG
  have HM := hide hMG
  have hgL : Hid (∀ x ∈ L, Row.good x) := fun x hx => (hRG.2 x hx).1
  have hlL : Hid (L.length ≤ maxLen) := by have := hRG.1; show L.length ≤ maxLen; unfold maxLen; omega
  have hgM : Hid (∀ x ∈ ms, Mat.good x) := hMG.2
  have hlM : Hid (ms.length ≤ maxLen) := by have := hMG.1; show ms.length ≤ maxLen; unfold maxLen; omega
  obtain ⟨va, vq, rfl⟩ := hv.form
  obtain ⟨ua, uq, rfl⟩ := hu.form
  have HV := hide hv
  have HU := hide hu
  have HI := hide (fun W (hb : Below W1.heap.size W1 W) => Row.impl_ask A B (hv.below hb) (hu.below hb) (unhide hgL) (unhide hlL) (unhide hgM) (unhide hlM))
  have HS := hide (fun W (hb : Below W1.heap.size W1 W) => Row.spec_ask A B (hv.below hb) (hu.below hb) (unhide hgL) (unhide hlL) (unhide hgM) (unhide hlM))
  have HOk := hide (fun W (hb : Below W1.heap.size W1 W) => Row.spec_ok (hv.below hb) (unhide hgL) (unhide hlL))
  have HMk := hide (fun W (hb : Below W1.heap.size W1 W) => Mat.spec_ok (hu.below hb) (unhide hgM) (unhide hlM))
  obtain ⟨vn, hvn⟩ : ∃ n, n = L.length := ⟨_, rfl⟩
  obtain ⟨un, hun⟩ : ∃ n, n = ms.length := ⟨_, rfl⟩
  have HVN := hide hvn
  have HUN := hide hun
  rw [← hvn] at HI HS HOk ⊢
  rw [← hun] at HI HS HMk ⊢
  clear hRG hMG hv hu H0 hvn hun
  go_wp2_with fail
  refine (unhide HI W1 (Below.refl _ _)).mono ?_
  rintro e W2 ⟨x, rfl, ox, b2⟩
  have d2 := b1.trans (b2.mono b1.size)
  have SX2 := hide ox.is
  obtain ⟨xa, xq, hx⟩ := ox.is.form
  obtain ⟨n, hn⟩ : ∃ n, n = (Row.ask ms A B L).length := ⟨_, rfl⟩
  rw [← hn] at hx
  have HNX := hide hn
  subst hx
  clear ox hn
  go_wp2_with fail
  refine (unhide HS W2 b2).mono ?_
  rintro e W3 ⟨y, rfl, oy, b3⟩
  have b13 := b2.trans (b3.mono b2.size)
  have d3 := b1.trans (b13.mono b1.size)
  have HAl := hide (Row.al_rows ((unhide SX2).below b3) oy.is)
  have SX3 := hide ((unhide SX2).below b3)
  obtain ⟨ya, yn, yq, rfl⟩ := oy.form
  clear oy b3 SX2 b2 d2
  go_wp2_with fail
  refine (unhide HAl).mono ?_
  rintro e W4 ⟨rfl, b4⟩
  have b14 := b13.trans (b4.mono b13.size)
  have d4 := b1.trans (b14.mono b1.size)
  have SX4 := hide ((unhide SX3).below b4)
  clear HAl SX3 b4 b13 d3
  go_wp2_with fail
  refine (unhide HOk W4 b14).mono ?_
  rintro e W5 ⟨rfl, b5⟩
  have b15 := b14.trans (b5.mono b14.size)
  have d5 := b1.trans (b15.mono b1.size)
  have SX5 := hide ((unhide SX4).below b5)
  clear SX4 b5 b14 d4 HOk
  cases hok : Row.ok L
  · clear hok
    go_wp2_with fail
    refine (unhide HS W5 b15).mono ?_
    rintro e W6 ⟨y, rfl, oy, b6⟩
    have d6 := d5.trans (b6.mono d5.size)
    have HAl := hide (Row.al_rows ((unhide SX5).below b6) oy.is)
    obtain ⟨ya, yn, yq, rfl⟩ := oy.form
    clear oy b6
    go_wp2_with fail
    refine (unhide HAl).mono ?_
    rintro e W7 ⟨rfl, b7⟩
    have d7 := d6.trans (b7.mono d6.size)
    go_wp2
    go_ret
    exact ⟨rfl, d7⟩
  have HK := hide hok
  clear hok
  go_wp2_with fail
  refine (unhide HMk W5 b15).mono ?_
  rintro e W6 ⟨rfl, b6⟩
  have b16 := b15.trans (b6.mono b15.size)
  have d6 := b1.trans (b16.mono b1.size)
  have SX6 := hide ((unhide SX5).below b6)
  clear SX5 b6 b15 d5 HMk
  cases hmo : Mat.ok ms
  · clear hmo
    go_wp2_with fail
    refine (unhide HS W6 b16).mono ?_
    rintro e W7 ⟨y, rfl, oy, b7⟩
    have d7 := d6.trans (b7.mono d6.size)
    have HAl := hide (Row.al_rows ((unhide SX6).below b7) oy.is)
    obtain ⟨ya, yn, yq, rfl⟩ := oy.form
    clear oy b7
    go_wp2_with fail
    refine (unhide HAl).mono ?_
    rintro e W8 ⟨rfl, b8⟩
    have d8 := d7.trans (b8.mono d7.size)
    go_wp2
    go_ret
    exact ⟨rfl, d8⟩
  clear hmo HS
  have HXok := hide (Row.ask_ok (ms := ms) A B (unhide HK))
  have HXin := hide (fun y (hy : y ∈ Row.ask ms A B L) => Row.ask_in (unhide HK) hy)
  have HXX := hide (Row.ask_ask (ms := ms) A B (unhide HK))
  have HAll := hide (Row.ask_all (unhide HK))
  have HX10 := hide (Row.ok_len (unhide HXok))
  generalize Row.ask ms A B L = X at SX6 HNX HXok HXin HXX HX10
  have hn10 : n ≤ 10 := by rw [unhide HNX]; exact unhide HX10
  have HXF := hide (Row.fine_ok (unhide HXok))
  have HXg := hide (Row.fine_good (unhide HXF))
  have hz6 := d6.size
  obtain ⟨cs, hcs, hLi, hE⟩ := id (unhide SX6)
  have HE := hide hE
  have HC := hide hcs
  obtain ⟨-, a', cap', ee, hc, hmx, -, hr⟩ := hLi
  rw [← unhide HNX] at ee hc hr
  simp only [Value.slice.injEq, true_and] at ee
  obtain ⟨rfl, rfl⟩ := ee
  unfold maxLen at hmx
  clear hE hcs
  have hlen9 : (n : Int) ≤ 10 := by omega
  go_wp2_with fail
  go_loopw [8] (fun i wr => ∃ k : Nat, i = .int .i64 k ∧ k ≤ n ∧ Below W6.heap.size W6 wr) (fun i _ => n - (intOf i).toNat)
  case atStart => exact ⟨0, rfl, Nat.zero_le _, Below.refl _ _⟩
  case round =>
    obtain ⟨k, rfl, hk, hbel⟩ := hrel
    have hsz := hbel.size
    have hk0 : (0 : Int) ≤ (k : Int) := Int.natCast_nonneg _
    by_cases hlt : k < n
    · have hkz : k < X.length := by rw [← unhide HNX]; exact hlt
      obtain ⟨b, off, rfl, hbl, hcells⟩ := hr (by omega)
      have fa := Row.flat_at cs k (by have := unhide HC; omega)
      have hEk := unhide HE k hkz
      have hIn := unhide HXin _ (Row.at_mem X k hkz)
      have hgk := unhide HXg _ (Row.at_mem X k hkz)
      have e0 := Row.cut_ends (f := A) (t := B) hIn.2.2 (i := 0) (List.length_pos_iff.2 hIn.2.1)
      have e1 := Row.cut_ends (f := A) (t := B) hIn.2.2 (i := (Row.at' X k).2.length - 1) (by have := List.length_pos_iff.2 hIn.2.1; omega)
      obtain ⟨c0', c1', hY⟩ : ∃ c0 c1, (c0, c1) = Row.cat cs k := ⟨_, _, rfl⟩
      rw [← hY] at fa hEk
      obtain ⟨⟨ls, xs⟩, hX⟩ : ∃ x, x = Row.at' X k := ⟨_, rfl⟩
      rw [← hX] at hEk hIn hgk e0 e1
      simp only at e0 e1
      have hE1 : Lab.Is W6 c0' ls := hEk.1
      have hE2 : Sam.Is W6 c1' xs := hEk.2
      have HLt := hide (fun x : Cls wr.heap.size wr => Mat.impl_let (((unhide HU).below b16).below (hbel.trans (x.isBelow.mono hsz))) (hE1.below (hbel.trans (x.isBelow.mono hsz))) (unhide hgM) hgk.1.2 (unhide hlM))
      rw [hIn.1, ← unhide HUN] at HLt
      obtain ⟨-, p0, q0, f0, -⟩ := hE1
      obtain ⟨-, p1, q1, f1, g1, g2, -, g3⟩ := id hE2
      have hpos : 0 < xs.length := List.length_pos_iff.2 hIn.2.1
      obtain ⟨b', o', rfl, hb', hxc⟩ := g3 hpos
      obtain ⟨m, hm⟩ : ∃ m, xs.length = m + 1 := ⟨xs.length - 1, by omega⟩
      rw [hm] at f1 g1 e1
      simp only [Nat.add_sub_cancel] at e1
      have hm999 : m ≤ 999 := by
        have h := Row.row_bounds (unhide HXok) (Row.at_mem X k hkz)
        rw [← hX] at h
        simp only at h
        omega
      unfold maxLen at g2
      have s0 := hxc (0 * 2) _ (Sam.flat_at xs 0 hpos).1
      have s1 := hxc (m * 2) _ (Sam.flat_at xs m (by omega)).1
      rw [Nat.zero_mul, Nat.add_zero] at s0
      have s0' : W6.cell? ⟨b', o', none⟩ = some (.int .i64 (SampMath.at' xs 0).1) := s0
      have s1' : W6.cell? ⟨b', o' + m * 2, none⟩ = some (.int .i64 (SampMath.at' xs m).1) := s1
      obtain ⟨T0, hT0⟩ : ∃ T, T = (SampMath.at' xs 0).1 := ⟨_, rfl⟩
      obtain ⟨T1, hT1⟩ : ∃ T, T = (SampMath.at' xs m).1 := ⟨_, rfl⟩
      rw [← hT0] at s0' e0
      rw [← hT1] at s1' e1
      generalize ls.length = l0 at f0
      subst f0 f1
      have r0 := hcells (k * 2) _ fa.1
      have r1 := hcells (k * 2 + 1) _ fa.2
      have k1 : ∀ x : Cls wr.heap.size wr, x.val.cell? ⟨b, off + k * 2, none⟩ = some (.slice p0 l0 q0) := fun x => by rw [x.cell (by omega)]; exact (hbel.cell (p := ⟨b, _, none⟩) hbl).trans r0
      have k2 : ∀ x : Cls wr.heap.size wr, x.val.cell? ⟨b, off + k * 2 + 1, none⟩ = some (.slice (some ⟨b', o', none⟩) (m + 1) q1) := fun x => by rw [x.cell (by omega)]; exact (hbel.cell (p := ⟨b, _, none⟩) hbl).trans r1
      have k3 : ∀ x : Cls wr.heap.size wr, x.val.cell? ⟨b', o', none⟩ = some (.int .i64 T0) := fun x => by rw [x.cell (by omega)]; exact (hbel.cell (p := ⟨b', _, none⟩) hb').trans s0'
      have k4 : ∀ x : Cls wr.heap.size wr, x.val.cell? ⟨b', o' + m * 2, none⟩ = some (.int .i64 T1) := fun x => by rw [x.cell (by omega)]; exact (hbel.cell (p := ⟨b', _, none⟩) hb').trans s1'
      have hd0 : decide (T0 < A) = false := by simp; omega
      have hd1 : decide (B ≤ T1) = false := by simp; omega
      have hk1 : (k : Int) < (n : Int) := by omega
      have hm0 : (0 : Int) ≤ (m : Int) := Int.natCast_nonneg _
      have hm1 : (m : Int) < (m : Int) + 1 := by omega
      have hm2 : (0 : Int) < (m : Int) + 1 := by omega
      have hne := cls_nonempty wr.heap.size wr
      clear fa hEk hIn hgk e0 e1 hY hX hE2 g3 hxc hpos hm s0 s1 s0' s1' hT0 hT1 r0 r1
      go_wp2_with fail
      refine region_cls (by kernel_rfl) (by kernel_rfl) ?_
      repeat (go_big_quiet_step ((go_at_call 40; exact cls_call (Nat.le_refl _) (unhide HLt _))))
      refine wpQuiet_nil ?_
      rintro w7 ⟨⟨_, hq⟩, rfl⟩
      have c7 := hbel.trans (hq.mono hsz)
      clear k1 k2 k3 k4 hne HLt
      go_wp2_with fail
      go_roundw
      case rel => exact ⟨k + 1, by go_num, by omega, c7⟩
      case measure => simp [intOf]; omega
    · obtain rfl : k = n := by omega
      have b17 := b16.trans (hbel.mono b16.size)
      have d7 := b1.trans (b17.mono b1.size)
      have SX7 := hide ((unhide SX6).below hbel)
      have hmlX : X.length ≤ maxLen := by have := unhide HX10; unfold maxLen; omega
      have HOkX := hide (Row.impl_ok (unhide SX7) (unhide HXg) hmlX)
      rw [unhide HXok] at HOkX
      have HIX := hide (fun W (hb : Below wr.heap.size wr W) => Row.impl_ask A B ((unhide SX7).below hb) ((unhide HU).below (b17.trans (hb.mono b17.size))) (unhide HXg) hmlX (unhide hgM) (unhide hlM))
      rw [unhide HXX, ← unhide HUN] at HIX
      have HIA := hide (fun W (hb : Below wr.heap.size wr W) => Row.impl_ask 0 10000 ((unhide HV).below (b17.trans (hb.mono b17.size))) (Mat.is_nil W) (unhide hgL) (unhide hlL) (fun x hx => by cases hx) (by unfold maxLen; simp))
      rw [unhide HAll, ← unhide HVN] at HIA
      clear HI hr hbel
      go_wp2_with fail
      refine (unhide HOkX).mono ?_
      rintro e W8 ⟨rfl, b8⟩
      go_wp2_with fail
      refine (unhide HIX W8 b8).mono ?_
      rintro e W9 ⟨y, rfl, oy, b9⟩
      have b89 := b8.trans (b9.mono b8.size)
      have HAl := hide (Row.al_rows oy.is ((unhide SX7).below b89))
      obtain ⟨ya, yn, yq, rfl⟩ := oy.form
      clear oy b9 HIX HOkX
      go_wp2_with fail
      refine (unhide HAl).mono ?_
      rintro e W10 ⟨rfl, b10⟩
      have b810 := b89.trans (b10.mono b89.size)
      clear HAl b10 b89
      go_wp2_with fail
      refine (unhide HIA W10 b810).mono ?_
      rintro e W11 ⟨y, rfl, oy, b11⟩
      have b811 := b810.trans (b11.mono b810.size)
      have HAl := hide (Row.al_rows oy.is ((unhide HV).below (b17.trans (b811.mono b17.size))))
      obtain ⟨ya', yn', yq', rfl⟩ := oy.form
      rw [← unhide HVN] at HAl
      clear oy b11 HIA b810
      go_wp2_with fail
      refine (unhide HAl).mono ?_
      rintro e W12 ⟨rfl, b12⟩
      have d12 := d7.trans ((b811.trans (b12.mono b811.size)).mono d7.size)
      go_wp2
      go_ret
      exact ⟨rfl, d12⟩
end Go.Proofs.Ytdggffcibcggoaa

/- What is left of a row: the mathematics; samples put to a row whether it is there or not. -/
namespace Go.Proofs.Ytdggffcibcggoaa.Samp
open SampMath
set_option linter.unusedVariables false
theorem merge_cons_lt {x : S} {A B : List S} (h : ∀ y ∈ B, x.1 < y.1) : merge (x :: A) B = (merge A B).map (x :: ·) := by
  cases B with
  | nil => rw [merge_nil_right, merge_nil_right]; rfl
  | cons y B => rw [merge, if_pos (h y (List.mem_cons_self ..))]
theorem merge_lt_cons {x : S} {A B : List S} (h : ∀ y ∈ A, x.1 < y.1) : merge A (x :: B) = (merge A B).map (x :: ·) := by
  cases A with
  | nil => rw [merge_nil, merge_nil]; rfl
  | cons y A =>
    have := h y (List.mem_cons_self ..)
    rw [merge, if_neg (by omega), if_pos this]
/-- parts of samples, whatever they have in common, are together what either has -/
theorem merge_filter : ∀ (xs : List S) (p q : S → Bool), xs.Pairwise (fun a b => a.1 < b.1) → merge (xs.filter p) (xs.filter q) = some (xs.filter fun z => p z || q z)
  | [], p, q, _ => by simp [merge_nil]
  | x :: xs, p, q, h => by
    obtain ⟨h1, h2⟩ := List.pairwise_cons.1 h
    have ih := merge_filter xs p q h2
    have hp : ∀ y ∈ xs.filter p, x.1 < y.1 := fun y hy => h1 y (List.mem_filter.1 hy).1
    have hq : ∀ y ∈ xs.filter q, x.1 < y.1 := fun y hy => h1 y (List.mem_filter.1 hy).1
    cases ep : p x <;> cases eq : q x
    · rw [List.filter_cons_of_neg (by simp [ep]), List.filter_cons_of_neg (by simp [eq]), List.filter_cons_of_neg (by simp [ep, eq])]
      exact ih
    · rw [List.filter_cons_of_neg (by simp [ep]), List.filter_cons_of_pos eq, List.filter_cons_of_pos (by simp [eq]), merge_lt_cons hp, ih]
      rfl
    · rw [List.filter_cons_of_pos ep, List.filter_cons_of_neg (by simp [eq]), List.filter_cons_of_pos (by simp [ep]), merge_cons_lt hq, ih]
      rfl
    · rw [List.filter_cons_of_pos ep, List.filter_cons_of_pos eq, List.filter_cons_of_pos (by simp [ep]), merge, if_neg (by omega), if_neg (by omega), if_pos rfl, ih]
      rfl
/-- what is ahead of a time, or from another one on -/
def sides (xs : List S) (f t : Int) : List S := xs.filter fun z => inT 0 f z || inT t 10000 z
theorem join_cuts {xs : List S} (h : ok xs = true) (f t : Int) : join (cutL xs 0 f) (cutL xs t 10000) = (sides xs f t, true) :=
  join_some (ok_filter h _) (ok_filter h _) (merge_filter xs _ _ ((ok_iff xs).1 h).2)
theorem sides_apart {xs : List S} (h : ok xs = true) {f t : Int} (hft : f < t) : sides xs f t = cutL xs 0 f ++ cutL xs t 10000 := by
  have h1 := merge_filter xs (inT 0 f) (inT t 10000) ((ok_iff xs).1 h).2
  have h2 := merge_apart (cutL xs 0 f) (cutL xs t 10000) (fun x hx y hy => by
    have hx' := (List.mem_filter.1 hx).2
    have hy' := (List.mem_filter.1 hy).2
    unfold inT at hx' hy'
    simp only [Bool.and_eq_true, decide_eq_true_eq] at hx' hy'
    omega)
  unfold cutL at h2 ⊢
  rw [h1] at h2
  exact Option.some.inj h2
theorem sides_all {xs : List S} (h : ok xs = true) {f t : Int} (hft : t ≤ f) : sides xs f t = xs := by
  unfold sides
  rw [List.filter_eq_self]
  intro z hz
  have := ((ok_iff xs).1 h).1 z hz
  rw [inR_iff] at this
  unfold inT
  simp only [Bool.or_eq_true, Bool.and_eq_true, decide_eq_true_eq]
  omega
end Go.Proofs.Ytdggffcibcggoaa.Samp
namespace Go.Proofs.Ytdggffcibcggoaa.Row
open Go.RowKit Rw
def dropG (ms : List Mat.E) (f t : Int) (x : E) : List Sam.E := if Mat.mlet ms x.1 = true then Samp.sides x.2 f t else x.2
def drop (ms : List Mat.E) (f t : Int) (zs : List E) : List E := if ok zs = true ∧ Mat.ok ms = true then outL (dropG ms f t) zs else []
/-- rows, and behind them one, if it has samples -/
def st (L : List E) (ls : List Lab.E) (a : List Sam.E) : List E := if a = [] then L else L ++ [(ls, a)]
end Go.Proofs.Ytdggffcibcggoaa.Row
namespace Go.Proofs.Ytdggffcibcggoaa.RSet
open Go.RowKit Rw
/-- samples put to the last row, whether it is there or not -/
theorem put_st {lo B mb n m sc : Nat} {sa : Option Addr} {w : World} {L : List Row.E} {lv : Value} {ls : List Lab.E} {a D J : List Sam.E}
    (h : Built lo B mb n w (Row.st L ls a)) (hL : L.length ≤ 1000) (hn : n ≤ 1000) (hA : Row.Ahead L ls) (hl : Lab.Is w lv ls) (hlg : ∀ x ∈ ls, Lab.good x) (hlo : Lab.ok ls = true) (hs : Samp.Smp w (.slice sa m sc) D) (hm : D.length = m) (ha : SampMath.ok a = true) (hD : SampMath.ok D = true) (hJ : SampMath.join a D = (J, true)) (h1 : m ≤ 4194304) (h2 : a.length ≤ 4194304) (hlow : lo ≤ w.heap.size) :
    Calls Try.prog 90 #[.pointer (some ⟨B, 0, none⟩), lv, .slice sa m sc] w fun e w' => e = .returned (.bool true) ∧ (∃ n', n' ≤ n + 1 ∧ Built lo B mb n' w' (Row.st L ls J)) ∧ Two B mb w w' := by
  by_cases h0 : m = 0
  · subst h0
    obtain rfl : D = [] := List.eq_nil_of_length_eq_zero hm
    have : J = a := by
      have e : SampMath.join a [] = (a, true) := SampMath.join_some ha rfl (SampMath.merge_nil_right a)
      rw [e] at hJ
      exact (Prod.mk.inj hJ).1.symm
    subst this
    refine (put_none _ _ _ _).mono ?_
    rintro e w' ⟨rfl, rfl⟩
    exact ⟨rfl, ⟨n, by omega, h⟩, Two.refl _ _ _⟩
  · have hDn : D ≠ [] := fun e => h0 (by rw [← hm, e]; rfl)
    by_cases e : a = []
    · subst e
      have : J = D := by rw [join_first hD] at hJ; exact (Prod.mk.inj hJ).1.symm
      subst this
      have hst : Row.st L ls [] = L := if_pos rfl
      rw [hst] at h
      refine (built_new h hL hn hA hl hlg hlo hs hm hD (by omega) h1 hlow).mono ?_
      rintro e w' ⟨rfl, hb, ht⟩
      exact ⟨rfl, ⟨n + 1, by omega, by rw [show Row.st L ls J = L ++ [(ls, J)] from if_neg hDn]; exact hb⟩, ht⟩
    · have hst : Row.st L ls a = L ++ [(ls, a)] := if_neg e
      rw [hst] at h
      have hJn : J ≠ [] := by
        intro e2
        subst e2
        obtain ⟨x, a', rfl⟩ : ∃ x a', a = x :: a' := by cases a with | nil => exact absurd rfl e | cons x a' => exact ⟨x, a', rfl⟩
        obtain ⟨y, D', rfl⟩ : ∃ y D', D = y :: D' := by cases D with | nil => exact absurd rfl hDn | cons y D' => exact ⟨y, D', rfl⟩
        unfold SampMath.join at hJ
        rw [if_pos ⟨ha, hD⟩, SampMath.merge] at hJ
        split at hJ
        · rename_i L' he
          obtain rfl := (Prod.mk.inj hJ).1
          split at he
          · cases hh : SampMath.merge a' (y :: D') <;> rw [hh] at he <;> simp at he
          · split at he
            · cases hh : SampMath.merge (x :: a') D' <;> rw [hh] at he <;> simp at he
            · split at he
              · cases hh : SampMath.merge a' D' <;> rw [hh] at he <;> simp at he
              · cases he
        · simp at hJ
      refine (built_last h hn hA hl hlg hlo hs hm hJ (by omega) h1 h2 hlow).mono ?_
      rintro e w' ⟨rfl, hb, ht⟩
      exact ⟨rfl, ⟨n + 1, by omega, by rw [show Row.st L ls J = L ++ [(ls, J)] from if_neg hJn]; exact hb⟩, ht⟩
end Go.Proofs.Ytdggffcibcggoaa.RSet

/- How many samples there are in rows. -/
namespace Go.Proofs.Ytdggffcibcggoaa.Row
open Go.RowKit Rw
set_option linter.unusedVariables false
attribute [local go_sem ↓] Go.wp_at_zero Go.wp_at_succ
def cntS (zs : List E) : Nat := (zs.map fun x => x.2.length).sum
theorem cntS_cons (x : E) (zs : List E) : cntS (x :: zs) = x.2.length + cntS zs := by simp [cntS]
theorem cntS_snoc (zs : List E) (k : Nat) (h : k < zs.length) : cntS (zs.take (k + 1)) = cntS (zs.take k) + (at' zs k).2.length := by
  unfold cntS
  rw [List.take_succ_eq_append_getElem h, List.map_append, List.sum_append, at_get zs k h]
  simp
theorem cntS_le {zs : List E} (h : ∀ x ∈ zs, x.2.length ≤ 1000) : cntS zs ≤ zs.length * 1000 := by
  induction zs with
  | nil => simp [cntS]
  | cons x zs ih =>
    have h1 := h x (List.mem_cons_self ..)
    have h2 := ih (fun y hy => h y (List.mem_cons_of_mem _ hy))
    rw [cntS_cons, List.length_cons, Nat.succ_mul]
    omega
set_option maxRecDepth 100000 in
set_option maxHeartbeats 4000000 in
theorem al_count {v : Value} {zs : List E} {w : World} (h : Is w v zs) (hl : zs.length ≤ 1000) (hx : ∀ x ∈ zs, x.2.length ≤ 1000) : Calls Try.prog 45 #[v] w fun e w' => e = .returned (.int .i64 (cntS zs : Int)) ∧ Below w.heap.size w w' := by
  obtain ⟨cs, hcs, hL, hE⟩ := h
  have HE := hide hE
  have HX := hide hx
  obtain ⟨-, a, cap, rfl, hc, hm, -, hr⟩ := hL
  unfold maxLen at hm
  obtain ⟨n, hn⟩ : ∃ n, n = zs.length := ⟨_, rfl⟩
  rw [← hn] at hc hr hcs hl ⊢
  have HN := hide hn
  have HC := hide hcs
  clear hn hE hcs hx
  go_enter Try.func45, Try.ntmps45
  go_wp2
  go_loopw [3, 4] (fun cv i wr => ∃ (j c : Nat), j ≤ n ∧ i = .int .i64 j ∧ cv = .int .i64 (c : Int) ∧ Hid (c = cntS (zs.take j)) ∧ Below w.heap.size w wr) (fun _ i _ => n - (intOf i).toNat)
  case atStart => exact ⟨0, 0, Nat.zero_le _, rfl, rfl, rfl, Below.refl _ _⟩
  case round =>
    obtain ⟨j, c, hj, rfl, rfl, HCt, hbel⟩ := hrel
    have hsz := hbel.size
    by_cases hlt : j < n
    · obtain ⟨b, off, rfl, hl', hcells⟩ := hr (by omega)
      have hjz : j < zs.length := by rw [← unhide HN]; exact hlt
      have fa := flat_at cs j (by have := unhide HC; omega)
      have hE1 := (unhide HE j hjz).2
      have hc1 : wr.cell? ⟨b, off + j * 2 + 1, none⟩ = some (cat cs j).2 := (hbel.cell (p := ⟨b, _, none⟩) hl').trans (hcells (j * 2 + 1) _ fa.2)
      obtain ⟨-, p1, q1, f1, -⟩ := hE1
      rw [f1] at hc1
      have hlen := unhide HX _ (at_mem zs j hjz)
      have hsn := cntS_snoc zs j hjz
      have hct := unhide HCt
      have hb := cntS_le (zs := zs.take j) (fun x hx => unhide HX x (List.mem_of_mem_take hx))
      rw [List.length_take] at hb
      have hcb : c ≤ 1000000 := by
        have h1 : min j zs.length ≤ 1000 := by omega
        have h2 : min j zs.length * 1000 ≤ 1000 * 1000 := Nat.mul_le_mul_right _ h1
        omega
      obtain ⟨m, hm'⟩ : ∃ m, m = (at' zs j).2.length := ⟨_, rfl⟩
      rw [← hm'] at hc1 hlen hsn
      have HS := hide (show c + m = cntS (zs.take (j + 1)) by omega)
      have hk0 : (0 : Int) ≤ (j : Int) := Int.natCast_nonneg _
      have hk1 : (j : Int) < (n : Int) := by omega
      clear fa f1 hsn hct hb hm'
      go_wp2_with fail
      go_roundw
      case rel => exact ⟨j + 1, c + m, by omega, by go_num, by go_num, HS, hbel⟩
      case measure => simp [intOf]; omega
    · obtain rfl : j = n := by omega
      have HS := hide (show c = cntS zs by have := unhide HCt; rwa [List.take_of_length_le (by have := unhide HN; omega)] at this)
      clear HCt
      go_wp2
      go_ret
      exact ⟨ret_int (congrArg (fun n : Nat => (n : Int)) (unhide HS)), hbel⟩
end Go.Proofs.Ytdggffcibcggoaa.Row

/- What is dropped, and what is left, are all, and nothing is in both. -/
namespace Go.Proofs.Ytdggffcibcggoaa.Row
open Go.RowKit Rw
set_option linter.unusedVariables false
/-- rows that are put together of two parts of each -/
theorem insAll_ahead : ∀ (b : List E) {x : E} {M : List E}, (∀ y ∈ b, Lab.cmpL x.1 y.1 < 0) → insAll (x :: M) b = (insAll M b).map (x :: ·)
  | [], x, M, _ => rfl
  | y :: b, x, M, h => by
    rw [insAll, insAll, ins_lt M (h y (List.mem_cons_self ..))]
    cases e : ins M y with
    | none => rfl
    | some R => simp only [Option.map_some, Option.bind_some]; exact insAll_ahead b (fun z hz => h z (List.mem_cons_of_mem _ hz))
theorem ins_front {M : List E} {x : E} (h : ∀ y ∈ M, Lab.cmpL x.1 y.1 < 0) : ins M x = some (x :: M) := by
  cases M with
  | nil => rfl
  | cons y M => exact ins_gt M (by have := h y (List.mem_cons_self ..); have := Lab.ordL.anti x.1 y.1; omega)
theorem insAll_parts (d a : E → List Sam.E) : ∀ {L : List E}, Fine L → (∀ x ∈ L, (d x = [] → a x = x.2) ∧ (a x = [] → d x = x.2) ∧ SampMath.join (d x) (a x) = (x.2, true)) → insAll (outL d L) (outL a L) = some L
  | [], _, _ => rfl
  | x :: L, hL, h => by
    have ih := insAll_parts d a (fine_tail hL) (fun y hy => h y (List.mem_cons_of_mem _ hy))
    obtain ⟨h1, h2, h3⟩ := h x (List.mem_cons_self ..)
    have hne := (hL.sam x (List.mem_cons_self ..)).2
    have up := (List.pairwise_cons.1 hL.up).1
    have upD : ∀ (g : E → List Sam.E) (z : List Sam.E), ∀ y ∈ outL g L, Lab.cmpL (x.1, z).1 y.1 < 0 := fun g z y hy => by
      obtain ⟨u, hu, e, -⟩ := outL_in hy
      rw [e]; exact up u hu
    rw [outL_cons, outL_cons]
    by_cases ha : a x = []
    · have hd := h2 ha
      rw [if_pos ha, if_neg (by rw [hd]; exact hne), hd]
      show insAll ((x.1, x.2) :: outL d L) ([] ++ outL a L) = _
      rw [List.nil_append, insAll_ahead _ (upD a x.2), ih]; rfl
    · by_cases hd : d x = []
      · have ha' := h1 hd
        rw [if_pos hd, if_neg ha, ha', List.nil_append]
        show insAll (outL d L) ((x.1, x.2) :: outL a L) = _
        rw [insAll, ins_front (upD d x.2), Option.bind_some, insAll_ahead _ (upD a x.2), ih]; rfl
      · rw [if_neg hd, if_neg ha]
        show insAll ((x.1, d x) :: outL d L) ((x.1, a x) :: outL a L) = _
        have hj : jn (x.1, d x) (a x) = some (x.1, x.2) := by unfold jn; rw [h3]; rfl
        rw [insAll, ins_eq (y := (x.1, d x)) (x := (x.1, a x)) _ (Lab.ordL.self x.1)]
        simp only [hj, Option.map_some, Option.bind_some]
        rw [insAll_ahead _ (upD a x.2), ih]; rfl
theorem cnt_outL (g : E → List Sam.E) : ∀ L : List E, cntS (outL g L) = (L.map fun x => (g x).length).sum
  | [] => rfl
  | x :: L => by
    rw [outL_cons]
    split
    · rename_i h
      rw [List.nil_append, cnt_outL g L, List.map_cons, List.sum_cons, h]; simp
    · rw [List.singleton_append, cntS_cons, cnt_outL g L, List.map_cons, List.sum_cons]
theorem cnt_parts (d a : E → List Sam.E) : ∀ {L : List E}, (∀ x ∈ L, (d x).length + (a x).length = x.2.length) → cntS (outL d L) + cntS (outL a L) = cntS L
  | [], _ => rfl
  | x :: L, h => by
    have ih := cnt_parts d a (fun y hy => h y (List.mem_cons_of_mem _ hy))
    rw [cnt_outL, cnt_outL] at ih ⊢
    rw [List.map_cons, List.map_cons, List.sum_cons, List.sum_cons, cntS_cons]
    have := h x (List.mem_cons_self ..)
    omega
/-- both sides and what is between -/
theorem in_sides {xs : List Sam.E} (h : SampMath.ok xs = true) (f t : Int) {z : Sam.E} (hz : z ∈ xs) : (Samp.inT 0 f z || Samp.inT t 10000 z) = !Samp.inT f t z := by
  have := ((Samp.ok_iff xs).1 h).1 z hz
  rw [SampMath.inR_iff] at this
  unfold Samp.inT
  rw [Bool.eq_iff_iff]
  simp only [Bool.or_eq_true, Bool.and_eq_true, decide_eq_true_eq, Bool.not_eq_true', Bool.and_eq_false_iff, decide_eq_false_iff_not]
  omega
theorem sides_not {xs : List Sam.E} (h : SampMath.ok xs = true) (f t : Int) : Samp.sides xs f t = xs.filter fun z => !Samp.inT f t z := by
  unfold Samp.sides
  exact List.filter_congr fun z hz => in_sides h f t hz
theorem filter_len (xs : List Sam.E) (p : Sam.E → Bool) : (xs.filter fun z => !p z).length + (xs.filter p).length = xs.length := by
  induction xs with
  | nil => rfl
  | cons x xs ih => cases e : p x <;> simp [e] <;> omega
theorem parts_of (ms : List Mat.E) (f t : Int) {x : E} (h : SampMath.ok x.2 = true) (hne : x.2 ≠ []) :
    ((dropG ms f t x = [] → askG ms f t x = x.2) ∧ (askG ms f t x = [] → dropG ms f t x = x.2) ∧ SampMath.join (dropG ms f t x) (askG ms f t x) = (x.2, true)) ∧ (dropG ms f t x).length + (askG ms f t x).length = x.2.length := by
  unfold dropG askG
  cases hm : Mat.mlet ms x.1
  · simp only [Bool.false_eq_true, if_false]
    exact ⟨⟨fun e => absurd e hne, fun _ => (by first | rfl | trivial), by rw [SampMath.join_comm]; exact RSet.join_first h⟩, by simp⟩
  · simp only [if_true]
    rw [sides_not h]
    unfold Samp.cutL
    have hl := filter_len x.2 (Samp.inT f t)
    refine ⟨⟨fun e => ?_, fun e => ?_, ?_⟩, hl⟩
    · rw [e] at hl
      exact List.filter_eq_self.2 (fun z hz => by
        have : z ∉ x.2.filter fun z => !Samp.inT f t z := by rw [e]; simp
        rw [List.mem_filter] at this
        cases hi : Samp.inT f t z
        · exact absurd ⟨hz, by rw [hi]; rfl⟩ this
        · rfl)
    · exact List.filter_eq_self.2 (fun z hz => by
        have : z ∉ x.2.filter (Samp.inT f t) := by rw [e]; simp
        rw [List.mem_filter] at this
        cases hi : Samp.inT f t z
        · rfl
        · exact absurd ⟨hz, hi⟩ this)
    · have hmg := Samp.merge_filter x.2 (fun z => !Samp.inT f t z) (Samp.inT f t) ((Samp.ok_iff _).1 h).2
      have hall : (x.2.filter fun z => (!Samp.inT f t z) || Samp.inT f t z) = x.2 := List.filter_eq_self.2 (fun z _ => by cases Samp.inT f t z <;> rfl)
      rw [hall] at hmg
      exact SampMath.join_some (SampMath.ok_sub h List.filter_sublist) (SampMath.ok_sub h List.filter_sublist) hmg
theorem drop_is {ms : List Mat.E} (f t : Int) {L : List E} (h : ok L = true) (hm : Mat.ok ms = true) : drop ms f t L = outL (dropG ms f t) L := by unfold drop; rw [if_pos ⟨h, hm⟩]
theorem drop_ok {ms : List Mat.E} (f t : Int) {L : List E} (h : ok L = true) (hm : Mat.ok ms = true) : ok (drop ms f t L) = true := by
  rw [drop_is f t h hm]
  refine outL_okay h fun x hx => ?_
  have hx' := (fine_ok h).sam x hx
  have hb := row_bounds h hx
  unfold dropG
  split
  · rw [sides_not hx'.1]; exact ⟨SampMath.ok_sub hx'.1 List.filter_sublist, Nat.le_trans (List.length_filter_le _ _) hb⟩
  · exact ⟨hx'.1, hb⟩
theorem drop_join {ms : List Mat.E} (f t : Int) {L : List E} (h : ok L = true) (hm : Mat.ok ms = true) : join (drop ms f t L) (ask ms f t L) = (L, true) := by
  refine join_yes (drop_ok f t h hm) (ask_ok f t h) ?_ h
  rw [drop_is f t h hm, show ask ms f t L = outL (askG ms f t) L from if_pos h]
  exact insAll_parts _ _ (fine_ok h) (fun x hx => (parts_of ms f t ((fine_ok h).sam x hx).1 ((fine_ok h).sam x hx).2).1)
theorem drop_cnt2 {ms : List Mat.E} (f t : Int) {L : List E} (h : ok L = true) (hm : Mat.ok ms = true) : cntS (drop ms f t L) + cntS (ask ms f t L) = cntS L := by
  rw [drop_is f t h hm, show ask ms f t L = outL (askG ms f t) L from if_pos h]
  exact cnt_parts _ _ (fun x hx => (parts_of ms f t ((fine_ok h).sam x hx).1 ((fine_ok h).sam x hx).2).2)
theorem drop_in {ms : List Mat.E} {f t : Int} {L : List E} (h : ok L = true) (hm : Mat.ok ms = true) {y : E} (hy : y ∈ drop ms f t L) : y.2 ≠ [] ∧ (Mat.mlet ms y.1 = true → ∀ z ∈ y.2, Samp.inT f t z = false) := by
  rw [drop_is f t h hm] at hy
  obtain ⟨x, hx, rfl, hne⟩ := outL_in hy
  refine ⟨hne, fun hl z hz => ?_⟩
  have e : dropG ms f t x = Samp.sides x.2 f t := by unfold dropG; rw [if_pos hl]
  have hz' : z ∈ dropG ms f t x := hz
  rw [e, sides_not ((fine_ok h).sam x hx).1] at hz'
  have := (List.mem_filter.1 hz').2
  simpa using this
theorem drop_asked {ms : List Mat.E} (f t : Int) {L : List E} (h : ok L = true) (hm : Mat.ok ms = true) : ask ms f t (drop ms f t L) = [] := by
  have e : ask ms f t (drop ms f t L) = outL (askG ms f t) (drop ms f t L) := if_pos (drop_ok f t h hm)
  rw [e]
  have : ∀ x ∈ drop ms f t L, askG ms f t x = [] := fun x hx => by
    unfold askG
    split
    · rename_i hl
      unfold Samp.cutL
      rw [List.filter_eq_nil_iff]
      intro z hz
      rw [(drop_in h hm hx).2 hl z hz]; simp
    · rfl
  generalize drop ms f t L = M at this
  clear e
  induction M with
  | nil => rfl
  | cons x M ih => rw [outL_cons, if_pos (this x (List.mem_cons_self ..)), List.nil_append]; exact ih (fun y hy => this y (List.mem_cons_of_mem _ hy))
theorem drop_drop {ms : List Mat.E} (f t : Int) {L : List E} (h : ok L = true) (hm : Mat.ok ms = true) : drop ms f t (drop ms f t L) = drop ms f t L := by
  have hd := drop_ok f t h hm
  have e : drop ms f t (drop ms f t L) = outL (dropG ms f t) (drop ms f t L) := drop_is f t hd hm
  rw [e]
  refine outL_id fun x hx => ?_
  have hi := drop_in h hm hx
  refine ⟨?_, hi.1⟩
  unfold dropG
  split
  · rename_i hl
    rw [sides_not ((fine_ok hd).sam x hx).1]
    exact List.filter_eq_self.2 (fun z hz => by rw [hi.2 hl z hz]; rfl)
  · rfl
end Go.Proofs.Ytdggffcibcggoaa.Row
