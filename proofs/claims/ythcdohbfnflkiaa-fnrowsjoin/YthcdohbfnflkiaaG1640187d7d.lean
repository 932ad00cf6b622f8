/- My own texts of one claim, laid together by program: AlAt, FnRowsJoinWalk. -/
import Derived.Test.YthcdohbfnflkiaaG0ef107225d
import Derived.Test.YthcdohbfnflkiaaG391a04a185
import Derived.Test.YthcdohbfnflkiaaGb156b5d5b8
import Derived.Test.YthcdohbfnflkiaaGb0c59fe5e6
import Derived.Test.YthcdohbfnflkiaaGbd69af134c
import Derived.Test.YthcdohbfnflkiaaG3e782ae9f2
/- The number at a time and labels, as the laws look for it among rows that are ok. -/
namespace Go.Proofs.Ythcdohbfnflkiaa.Row
open Go.RowKit Rw
set_option linter.unusedVariables false
attribute [local go_sem ↓] Go.wp_at_zero Go.wp_at_succ
/-- a row of some that are ok, and its cells -/
structure View (w : World) (b off k : Nat) (x : E) (a0 : Option Addr) (ll q0 b1 o1 m q1 : Nat) : Prop where
  bl : b < w.heap.size
  c0 : w.cell? ⟨b, off + k * 2, none⟩ = some (.slice a0 ll q0)
  c1 : w.cell? ⟨b, off + k * 2 + 1, none⟩ = some (.slice (some ⟨b1, o1, none⟩) m q1)
  b1l : b1 < w.heap.size
  le : m ≤ q1
  mx : q1 ≤ 9223372036854775807
  ml : m = x.2.length
  m1 : 1 ≤ m
  m9 : m ≤ 1000
  sam : ∀ j, j < m → w.cell? ⟨b1, o1 + j * 2, none⟩ = some (.int .i64 (SampMath.at' x.2 j).1) ∧ w.cell? ⟨b1, o1 + j * 2 + 1, none⟩ = some (.int .i64 (SampMath.at' x.2 j).2)
  lab : Lab.Is w (.slice a0 ll q0) x.1
theorem View.below {w w' : World} {b off k : Nat} {x : E} {a0 : Option Addr} {ll q0 b1 o1 m q1 : Nat} (h : View w b off k x a0 ll q0 b1 o1 m q1) (hb : Below w.heap.size w w') : View w' b off k x a0 ll q0 b1 o1 m q1 :=
  ⟨Nat.lt_of_lt_of_le h.bl hb.size, (hb.cell (p := ⟨b, _, none⟩) h.bl).trans h.c0, (hb.cell (p := ⟨b, _, none⟩) h.bl).trans h.c1, Nat.lt_of_lt_of_le h.b1l hb.size, h.le, h.mx, h.ml, h.m1, h.m9, fun j hj => ⟨(hb.cell (p := ⟨b1, _, none⟩) h.b1l).trans (h.sam j hj).1, (hb.cell (p := ⟨b1, _, none⟩) h.b1l).trans (h.sam j hj).2⟩, h.lab.below hb⟩
theorem view_at {w : World} {a : Option Addr} {n cap : Nat} {zs : List E} (h : Is w (.slice a n cap) zs) (hok : ok zs = true) {k : Nat} (hk : k < zs.length) :
    ∃ b off, a = some ⟨b, off, none⟩ ∧ ∃ a0 ll q0 b1 o1 m q1, View w b off k (at' zs k) a0 ll q0 b1 o1 m q1 := by
  obtain ⟨cs, hcs, hL, hE⟩ := h
  obtain ⟨-, a', cap', e, hc, hmx, -, hr⟩ := hL
  simp only [Value.slice.injEq] at e
  obtain ⟨rfl, -, rfl⟩ := e
  obtain ⟨b, off, rfl, hbl, hcells⟩ := hr (by omega)
  have fa := flat_at cs k (by omega)
  have hc0 := hcells (k * 2) _ fa.1
  have hc1 := hcells (k * 2 + 1) _ fa.2
  have hEk := hE k hk
  have hst := step_is (ok_at hok hk)
  obtain ⟨c0, c1, hY⟩ : ∃ c0 c1, (c0, c1) = cat cs k := ⟨_, _, rfl⟩
  rw [← hY] at hc0 hc1 hEk
  have hE1 : Lab.Is w c0 (at' zs k).1 := hEk.1
  have hE2 : Sam.Is w c1 (at' zs k).2 := hEk.2
  obtain ⟨-, a0, q0, e0, -⟩ := id hE1
  obtain ⟨-, a1, q1, e1, h1, h2, -, h3⟩ := id hE2
  obtain ⟨b1, o1, ea, hb1, hx⟩ := h3 (by omega)
  subst ea
  subst e0 e1
  unfold maxLen at h2
  refine ⟨b, off, rfl, a0, (at' zs k).1.length, q0, b1, o1, _, q1, hbl, hc0, hc1, hb1, h1, by omega, rfl, by omega, by omega, fun j hj => ?_, hE1⟩
  have f := Sam.flat_at (at' zs k).2 j hj
  exact ⟨hx (j * 2) _ f.1, hx (j * 2 + 1) _ f.2⟩
def AtSays (zs : List E) (ls : List Lab.E) (T V : Int) (B : Bool) : Prop := (B = true ∧ ∃ y ∈ zs, y.1 = ls ∧ (T, V) ∈ y.2) ∨ (B = false ∧ ∀ y ∈ zs, y.1 = ls → ∀ s ∈ y.2, s.1 ≠ T)
theorem sat_mem {zs : List SampMath.S} {j : Nat} (h : j < zs.length) : SampMath.at' zs j ∈ zs := by
  unfold SampMath.at'; rw [List.getD_eq_getElem?_getD, List.getElem?_eq_getElem h, Option.getD_some]; exact List.getElem_mem h
theorem mem_sat {zs : List SampMath.S} {s : SampMath.S} (h : s ∈ zs) : ∃ j, j < zs.length ∧ SampMath.at' zs j = s := by
  obtain ⟨j, hj, rfl⟩ := List.getElem_of_mem h
  exact ⟨j, hj, by unfold SampMath.at'; rw [List.getD_eq_getElem?_getD, List.getElem?_eq_getElem hj, Option.getD_some]⟩
set_option maxRecDepth 100000 in
set_option maxHeartbeats 8000000 in
theorem al_at {w : World} {v u : Value} {zs : List E} {ls : List Lab.E} (T : Int) (h : Is w v zs) (hok : ok zs = true) (hl : Lab.Is w u ls) :
    Calls Try.prog 12 #[v, u, .int .i64 T] w fun e w' => ∃ (V : Int) (B : Bool), e = .returned (.tuple #[.int .i64 V, .bool B]) ∧ AtSays zs ls T V B ∧ Below w.heap.size w w' := by
  obtain ⟨va, vq, rfl, hcap, hcm⟩ : ∃ a q, v = .slice a zs.length q ∧ zs.length ≤ q ∧ q ≤ maxLen := by obtain ⟨cs, -, hL, -⟩ := id h; obtain ⟨-, a, q, e, h1, h2, -⟩ := hL; exact ⟨a, q, e, h1, h2⟩
  unfold maxLen at hcm
  obtain ⟨ua, uq, rfl⟩ : ∃ a q, u = .slice a ls.length q := by obtain ⟨-, a, q, e, -⟩ := id hl; exact ⟨a, q, e⟩
  have hn10 := ok_len hok
  have HV := hide (fun k (hk : k < zs.length) => view_at h hok hk)
  obtain ⟨n, hn⟩ : ∃ n, n = zs.length := ⟨_, rfl⟩
  obtain ⟨l, hll⟩ : ∃ l, l = ls.length := ⟨_, rfl⟩
  have HN := hide hn
  have HLL := hide hll
  have HLb := hide (fun (W : World) (hb : Below w.heap.size w W) => show Lab.Is W (.slice ua l uq) ls by rw [hll]; exact hl.below hb)
  rw [← hn] at hcap hn10 HV ⊢
  rw [← hll]
  clear hn hll h hl
  go_enter Try.func12, Try.ntmps12
  go_wp2_with fail
  go_loopw [8] (fun i wr => ∃ k : Nat, k ≤ n ∧ i = .int .i64 k ∧ Hid (∀ j, j < k → (at' zs j).1 = ls → ∀ s ∈ (at' zs j).2, s.1 ≠ T) ∧ Below w.heap.size w wr) (fun i _ => n - (intOf i).toNat)
  case atStart => exact ⟨0, Nat.zero_le _, rfl, fun j hj => absurd hj (Nat.not_lt_zero _), Below.refl _ _⟩
  case round =>
    obtain ⟨k, hk, rfl, HNo, hbel⟩ := hrel
    have hk0 : (0 : Int) ≤ (k : Int) := Int.natCast_nonneg _
    by_cases hlt : k < n
    · obtain ⟨b, off, rfl, a0, ll, q0, b1, o1, m, q1, hA⟩ := unhide HV k hlt
      have hkz : k < zs.length := by rw [← unhide HN]; exact hlt
      have hk1 : (k : Int) < (n : Int) := by omega
      have HA := hide hA
      have g1 := hA.le
      have g2 := hA.mx
      have g3 := hA.m9
      have g4 := hA.m1
      obtain ⟨x, hx⟩ : ∃ x, x = at' zs k := ⟨_, rfl⟩
      rw [← hx] at HA
      have HX := hide hx
      have HXm := hide (show x ∈ zs by rw [hx]; exact at_mem zs k hkz)
      have hml := hA.ml
      rw [← hx] at hml
      have HML := hide hml
      obtain ⟨wo, hwo⟩ : ∃ wo, wo = wr := ⟨_, rfl⟩
      subst hwo
      clear hx hA hml
      by_cases heq : x.1 = ls
      · have HEq := hide heq
        clear heq
        go_wp2_with fail
        go_loopw [9] (fun jv wr => ∃ j : Nat, j ≤ m ∧ jv = .int .i64 j ∧ Hid (∀ p, p < j → (SampMath.at' x.2 p).1 ≠ T) ∧ Below w.heap.size w wr) (fun jv _ => m - (intOf jv).toNat)
        case atStart => exact ⟨0, Nat.zero_le _, rfl, fun p hp => absurd hp (Nat.not_lt_zero _), hbel⟩
        case round =>
          obtain ⟨j, hj, rfl, HJ, hbj⟩ := hrel
          have hC := (unhide HA).below hbj
          have k0 := hC.c0
          have k1 := hC.c1
          have hj0 : (0 : Int) ≤ (j : Int) := Int.natCast_nonneg _
          have hzj := hbj.size
          by_cases hjl : j < m
          · have hj1 : (j : Int) < (m : Int) := by omega
            have HAl := hide (al_lab (zs := ls) (by rw [← unhide HEq]; exact hC.lab) (unhide HLb wr hbj))
            have HC := hide hC
            clear hC
            go_wp2_with fail
            refine (unhide HAl).mono ?_
            rintro e w5 ⟨rfl, b5⟩
            have hD := (unhide HC).below b5
            have c5 := hbj.trans (b5.mono hzj)
            have d1 := hD.c1
            have d2 := (hD.sam j hjl).1
            have d3 := (hD.sam j hjl).2
            obtain ⟨T', hT'⟩ : ∃ T', T' = (SampMath.at' x.2 j).1 := ⟨_, rfl⟩
            obtain ⟨V, hV⟩ : ∃ V, V = (SampMath.at' x.2 j).2 := ⟨_, rfl⟩
            rw [← hT'] at d2
            rw [← hV] at d3
            have HT' := hide hT'
            have HV' := hide hV
            clear hT' hV k0 k1 HAl hD HC b5
            by_cases hT : T' = T
            · have hTt : (T' == T) = true := by simp [hT]
              have HS := hide (show AtSays zs ls T V true from .inl ⟨rfl, x, unhide HXm, unhide HEq, by
                have := sat_mem (zs := x.2) (j := j) (by rw [← unhide HML]; exact hjl)
                rwa [show SampMath.at' x.2 j = (T, V) from Prod.ext (by rw [← unhide HT', hT]) (unhide HV').symm] at this⟩)
              clear hT
              go_wp2_with fail
              go_ret2
              exact ⟨V, true, rfl, unhide HS, c5⟩
            · have hTf : (T' == T) = false := by simp [hT]
              have HJ2 := hide (show ∀ p, p < j + 1 → (SampMath.at' x.2 p).1 ≠ T from fun p hp => by
                rcases Nat.lt_or_eq_of_le (Nat.le_of_lt_succ hp) with h | h
                · exact unhide HJ p h
                · subst h; rw [← unhide HT']; exact hT)
              clear hT
              go_wp2_with fail
              go_roundw
              case rel => exact ⟨j + 1, by omega, by go_num, HJ2, c5⟩
              case measure => first | (simp [intOf]; done) | (simp [intOf]; omega)
          · have hjf : decide ((j : Int) < (m : Int)) = false := by simp; omega
            have HNo2 := hide (show ∀ i, i < k + 1 → (at' zs i).1 = ls → ∀ s ∈ (at' zs i).2, s.1 ≠ T from fun i hi => by
              rcases Nat.lt_or_eq_of_le (Nat.le_of_lt_succ hi) with h | h
              · exact unhide HNo i h
              · subst h
                intro _ s hs
                rw [← unhide HX] at hs
                obtain ⟨p, hp, rfl⟩ := mem_sat hs
                exact unhide HJ p (by rw [← unhide HML] at hp; omega))
            clear hC
            go_wp2_with fail
            go_roundw
            case rel => exact ⟨k + 1, by omega, by go_num, HNo2, hbj⟩
            case measure => first | (simp [intOf]; done) | (simp [intOf]; omega)
      · have HNo2 := hide (show ∀ i, i < k + 1 → (at' zs i).1 = ls → ∀ s ∈ (at' zs i).2, s.1 ≠ T from fun i hi => by
          rcases Nat.lt_or_eq_of_le (Nat.le_of_lt_succ hi) with h | h
          · exact unhide HNo i h
          · subst h
            intro e
            rw [← unhide HX] at e
            exact absurd e heq)
        have HNe := hide heq
        clear heq
        go_wp2_with fail
        go_loopw [9] (fun jv wr => jv = .int .i64 0 ∧ Below w.heap.size w wr) (fun jv _ => 0)
        case atStart => exact ⟨rfl, hbel⟩
        case round =>
          obtain ⟨rfl, hbj⟩ := hrel
          have hC := (unhide HA).below hbj
          have k0 := hC.c0
          have k1 := hC.c1
          have hzj := hbj.size
          have hm1 : (0 : Int) < (m : Int) := by omega
          have HAl := hide ((Lab.al_any hC.lab (unhide HLb wr hbj)).mono fun e w' ⟨R, h1, h2, h3⟩ => show e = Ending.returned (.bool false) ∧ Below wr.heap.size wr w' from ⟨by rw [h1]; cases R; rfl; exact absurd (h2.1 rfl) (unhide HNe), h3⟩)
          clear hC
          go_wp2_with fail
          refine (unhide HAl).mono ?_
          rintro e w5 ⟨rfl, b5⟩
          have c5 := hbj.trans (b5.mono hzj)
          clear k0 k1 HAl b5
          go_wp2_with fail
          go_roundw
          case rel => exact ⟨k + 1, by omega, by go_num, HNo2, c5⟩
          case measure => first | (simp [intOf]; done) | (simp [intOf]; omega)
    · have HS := hide (show AtSays zs ls T 0 false from .inr ⟨rfl, fun y hy => by
        obtain ⟨j, hj, rfl⟩ := List.getElem_of_mem hy
        rw [← at_get zs j hj]
        exact unhide HNo j (by rw [← unhide HN] at hj; omega)⟩)
      have hkf : decide ((k : Int) < (n : Int)) = false := by simp; omega
      go_wp2_with fail
      go_ret2
      exact ⟨0, false, rfl, unhide HS, hbel⟩
end Go.Proofs.Ythcdohbfnflkiaa.Row

/- FnRowsJoin returns true at every text of bytes. -/
namespace Go.Proofs.Ythcdohbfnflkiaa
open Go.RowKit Draw Rw
set_option linter.unusedVariables false
theorem Row.Is.form {w : World} {v : Value} {zs : List Row.E} (h : Row.Is w v zs) : ∃ a q, v = .slice a zs.length q := by obtain ⟨cs, -, hL, -⟩ := h; obtain ⟨-, a, q, e, -⟩ := hL; exact ⟨a, q, e⟩
theorem Row.bounds {L : List Row.E} (h : Row.ok L = true) : L.length ≤ 1000 ∧ ∀ x ∈ L, x.2.length ≤ 1000 := ⟨by have := Row.ok_len h; omega, fun x hx => Row.row_bounds h hx⟩
set_option maxRecDepth 100000 in
set_option maxHeartbeats 8000000 in
theorem fnRowsJoin.walk (a0 : Option Addr) (len0 cap0 : Nat) (z0 : List Int) (w : World) (w0 : IsRow .u8 w a0 len0 cap0 z0) :
    Calls Try.prog 4 #[.slice a0 len0 cap0] w fun e w' => e = .returned (.bool true) ∧ Below w.heap.size w w' := by
  have l0 := (row_bytes w0)
  have c0 : len0 ≤ 9223372036854775807 := by have := l0.1; have := l0.2.1; unfold maxLen at this; omega
  have H0 := hide (draw_rowsjoin w w w0 (Below.refl _ _))
  clear l0 w0
  by_cases hb0 : 1048576 < len0
  · go_enter Try.func4, Try.ntmps4
    go_wp2
    go_ret
    exact ⟨rfl, Below.refl _ _⟩
  go_enter Try.func4, Try.ntmps4
  go_wp2_with fail
  refine (unhide H0).mono ?_
  rintro e W1 ⟨L, M, v, u, rfl, hRL, hRM, hv, hu, b1⟩
  have hgL : ∀ x ∈ L, Row.good x := fun x hx => (hRL.2 x hx).1
  have hlL : L.length ≤ maxLen := by have := hRL.1; unfold maxLen; omega
  have hgM : ∀ x ∈ M, Row.good x := fun x hx => (hRM.2 x hx).1
  have hlM : M.length ≤ maxLen := by have := hRM.1; unfold maxLen; omega
  obtain ⟨va, vq, rfl⟩ := hv.form
  obtain ⟨ua, uq, rfl⟩ := hu.form
  have HI := hide (fun W (hb : Below W1.heap.size W1 W) => Row.impl_join (hv.below hb) (hu.below hb) hgL hlL hgM hlM)
  have HS := hide (fun W (hb : Below W1.heap.size W1 W) => Row.spec_join (hv.below hb) (hu.below hb) hgL hlL hgM hlM)
  have HJ := hide (fun W (hb : Below W1.heap.size W1 W) => Row.impl_join (hu.below hb) (hv.below hb) hgM hlM hgL hlL)
  have HSelf := hide (fun W (hb : Below W1.heap.size W1 W) => Row.impl_join (hv.below hb) (hv.below hb) hgL hlL hgL hlL)
  rw [Row.join_comm M L] at HJ
  obtain ⟨vn, hvn⟩ : ∃ n, n = L.length := ⟨_, rfl⟩
  obtain ⟨un, hun⟩ : ∃ n, n = M.length := ⟨_, rfl⟩
  have HVN := hide hvn
  have HUN := hide hun
  have HV := hide (show Row.Is W1 (.slice va vn vq) L by rw [hvn]; exact hv)
  have HU := hide (show Row.Is W1 (.slice ua un uq) M by rw [hun]; exact hu)
  have hvn11 : vn ≤ 11 := by rw [hvn]; exact hRL.1
  have hun11 : un ≤ 11 := by rw [hun]; exact hRM.1
  rw [← hvn] at HI HS HJ HSelf ⊢
  rw [← hun] at HI HS HJ ⊢
  clear hRL hRM hv hu H0 hvn hun hgL hlL hgM hlM
  have HJn := hide (fun h => Row.join_ins (a := L) (b := M) h)
  have HHas := hide (fun h => Row.join_has (a := L) (b := M) h)
  have HCnt := hide (fun h => Row.join_cntS (a := L) (b := M) h)
  generalize Row.join L M = RB at HI HS HJ HJn HHas HCnt
  obtain ⟨R, B⟩ := RB
  go_wp2_with fail
  refine (unhide HI W1 (Below.refl _ _)).mono ?_
  rintro e W2 ⟨x, rfl, ox, b2⟩
  have SX2 := hide ox.is
  obtain ⟨xa, xq, hx⟩ := ox.is.form
  obtain ⟨n, hn⟩ : ∃ n, n = R.length := ⟨_, rfl⟩
  try simp only at hx
  rw [← hn] at hx
  have HNX := hide hn
  subst hx
  clear ox hn
  go_wp2_with fail
  refine (unhide HS W2 b2).mono ?_
  rintro e W3 ⟨y, rfl, oy, b3⟩
  have b13 := b2.trans (b3.mono b2.size)
  have SX3 := hide ((unhide SX2).below b3)
  have SY3 := hide oy.is
  obtain ⟨ya, yn, yq, rfl⟩ := oy.form
  clear oy b3 SX2 b2
  go_wp2_with fail
  refine (unhide HJ W3 b13).mono ?_
  rintro e W4 ⟨z, rfl, oz, b4⟩
  have b14 := b13.trans (b4.mono b13.size)
  have SX4 := hide ((unhide SX3).below b4)
  have SY4 := hide ((unhide SY3).below b4)
  have SZ4 := hide oz.is
  obtain ⟨za, zn, zq, rfl⟩ := oz.form
  clear oz b4 SX3 SY3 b13
  have HA1 := hide (Row.al_rows (unhide SX4) (unhide SY4))
  have d4 := b1.trans (b14.mono b1.size)
  go_wp2_with fail
  refine (unhide HA1).mono ?_
  rintro e W5 ⟨rfl, b5⟩
  have b15 := b14.trans (b5.mono b14.size)
  have SX5 := hide ((unhide SX4).below b5)
  have SY5 := hide ((unhide SY4).below b5)
  have SZ5 := hide ((unhide SZ4).below b5)
  have HA2 := hide (Row.al_rows (unhide SZ5) (unhide SX5))
  have d5 := d4.trans (b5.mono d4.size)
  clear b5 SX4 SY4 SZ4 HA1 b14 d4
  go_wp2_with fail
  refine (unhide HA2).mono ?_
  rintro e W6 ⟨rfl, b6⟩
  have b16 := b15.trans (b6.mono b15.size)
  have SX6 := hide ((unhide SX5).below b6)
  have SY6 := hide ((unhide SY5).below b6)
  have SZ6 := hide ((unhide SZ5).below b6)
  have d6 := d5.trans (b6.mono d5.size)
  have hz6 := d6.size
  clear b6 SX5 SY5 SZ5 HA2 b15 d5 HI HS HJ
  cases B
  · have HA1 := hide (Row.al_rows (unhide SX6) (unhide SY6))
    go_wp2_with fail
    refine (unhide HA1).mono ?_
    rintro e W7 ⟨rfl, b7⟩
    have d7 := d6.trans (b7.mono d6.size)
    have HA2 := hide (Row.al_rows ((unhide SZ6).below b7) ((unhide SX6).below b7))
    clear b7
    go_wp2_with fail
    refine (unhide HA2).mono ?_
    rintro e W8 ⟨rfl, b8⟩
    have d8 := d7.trans (b8.mono d7.size)
    go_wp2
    go_ret
    exact ⟨rfl, d8⟩
  obtain ⟨hokL, hokM, -, hokR⟩ := unhide HJn rfl
  have HKL := hide hokL
  have HKM := hide hokM
  have HKR := hide hokR
  have HSub := hide (unhide HHas rfl)
  have HC3 := hide (unhide HCnt rfl)
  have hn10 : n ≤ 10 := by rw [unhide HNX]; exact Row.ok_len hokR
  have hm10 : un ≤ 10 := by rw [unhide HUN]; exact Row.ok_len hokM
  have HMv := hide (fun k (hk : k < M.length) => Row.view_at ((unhide HU).below b16) hokM hk)
  rw [← unhide HUN] at HMv
  have hcapu : un ≤ uq ∧ uq ≤ 9223372036854775807 := by
    obtain ⟨cs, -, hL, -⟩ := unhide HU
    obtain ⟨-, a', q', e, h1, h2, -⟩ := hL
    rw [← unhide HUN] at e h1
    simp only [Value.slice.injEq, true_and] at e
    unfold maxLen at h2
    omega
  clear hokL hokM hokR HJn HHas HCnt
  go_wp2_with fail
  go_loopw [11] (fun i wr => ∃ k : Nat, k ≤ un ∧ i = .int .i64 k ∧ Below W6.heap.size W6 wr) (fun i _ => un - (intOf i).toNat)
  case atStart => exact ⟨0, Nat.zero_le _, rfl, Below.refl _ _⟩
  case round =>
    obtain ⟨k, hk, rfl, hbel⟩ := hrel
    have hk0 : (0 : Int) ≤ (k : Int) := Int.natCast_nonneg _
    by_cases hlt : k < un
    · obtain ⟨b, off, rfl, p0, ll, q0, b1', o1, m, q1, hA⟩ := unhide HMv k hlt
      have hkz : k < M.length := by rw [← unhide HUN]; exact hlt
      have hk1 : (k : Int) < (un : Int) := by omega
      have HA := hide hA
      have g1 := hA.le
      have g2 := hA.mx
      have g3 := hA.m9
      have HHs := hide (unhide HSub _ (Row.at_mem M k hkz))
      have HML := hide hA.ml
      obtain ⟨X, hX⟩ : ∃ X, X = Row.at' M k := ⟨_, rfl⟩
      rw [← hX] at HA HHs HML
      obtain ⟨wo, hwo⟩ : ∃ wo, wo = wr := ⟨_, rfl⟩
      subst hwo
      clear hA hX
      go_wp2_with fail
      go_loopw [12] (fun jv wr => ∃ j : Nat, j ≤ m ∧ jv = .int .i64 j ∧ Below W6.heap.size W6 wr) (fun jv _ => m - (intOf jv).toNat)
      case atStart => exact ⟨0, Nat.zero_le _, rfl, hbel⟩
      case round =>
        clear hbel
        obtain ⟨j, hj, rfl, hbel⟩ := hrel
        have hj0 : (0 : Int) ≤ (j : Int) := Int.natCast_nonneg _
        have hzj := hbel.size
        have hC := (unhide HA).below hbel
        have x1 := hC.c1
        by_cases hjl : j < m
        · have hj1 : (j : Int) < (m : Int) := by omega
          obtain ⟨T, hT⟩ : ∃ T, T = (SampMath.at' X.2 j).1 := ⟨_, rfl⟩
          obtain ⟨V, hV⟩ : ∃ V, V = (SampMath.at' X.2 j).2 := ⟨_, rfl⟩
          have x2 := (hC.sam j hjl).1
          have x3 := (hC.sam j hjl).2
          rw [← hT] at x2
          rw [← hV] at x3
          have HAt := hide (fun (c : Cls wr.heap.size wr) => (Row.al_at T ((unhide SX6).below (hbel.trans (c.isBelow.mono hzj))) (unhide HKR) (hC.lab.below c.isBelow)).mono fun e w' ⟨V', B', h1, h2, h3⟩ => show e = Ending.returned (.tuple #[.int .i64 V, .bool true]) ∧ Below c.val.heap.size c.val w' from by
            obtain ⟨z, hz, ez, hs⟩ := unhide HHs
            have hin : (T, V) ∈ z.2 := by
              have := hs _ (Row.sat_mem (zs := X.2) (j := j) (by rw [← unhide HML]; exact hjl))
              rwa [show SampMath.at' X.2 j = (T, V) from Prod.ext hT.symm hV.symm] at this
            rcases h2 with ⟨rfl, h4⟩ | ⟨rfl, h4⟩
            · have := Row.at_uniq (Row.fine_ok (unhide HKR)) h4 ⟨z, hz, ez, hin⟩
              exact ⟨by rw [h1, this], h3⟩
            · exact absurd rfl (h4 z hz ez _ hin))
          have hbl := hC.bl
          have hbl1 := hC.b1l
          have k0 : ∀ c : Cls wr.heap.size wr, c.val.cell? ⟨b, off + k * 2, none⟩ = some (.slice p0 ll q0) := fun c => by rw [c.cell hbl]; exact hC.c0
          have k1 : ∀ c : Cls wr.heap.size wr, c.val.cell? ⟨b, off + k * 2 + 1, none⟩ = some (.slice (some ⟨b1', o1, none⟩) m q1) := fun c => by rw [c.cell hbl]; exact x1
          have k2 : ∀ c : Cls wr.heap.size wr, c.val.cell? ⟨b1', o1 + j * 2, none⟩ = some (.int .i64 T) := fun c => by rw [c.cell hbl1]; exact x2
          have HC := hide hC
          have HX3 := hide x3
          have hne := cls_nonempty wr.heap.size wr
          clear hT hV x2 x3 hC
          go_wp2_with fail
          refine region_cls (by kernel_rfl) (by kernel_rfl) ?_
          repeat (go_big_quiet_step ((go_at_call 12; exact cls_call (Nat.le_refl _) (unhide HAt _))))
          refine wpQuiet_nil ?_
          rintro w7 ⟨⟨_, hq⟩, rfl⟩
          have c7 := hbel.trans (hq.mono hzj)
          have y1 := ((unhide HC).below hq).c1
          have y3 := (hq.cell (p := ⟨b1', _, none⟩) hbl1).trans (unhide HX3)
          clear k0 k1 k2 hne HAt x1 HX3 HC
          go_wp2_with fail
          go_roundw
          case rel => exact ⟨j + 1, by omega, by go_num, c7⟩
          case measure => first | (simp [intOf]; done) | (simp [intOf]; omega)
        · have hjf : decide ((j : Int) < (m : Int)) = false := by simp; omega
          clear hC
          go_wp2_with fail
          go_roundw
          case rel => exact ⟨k + 1, by omega, by go_num, hbel⟩
          case measure => first | (simp [intOf]; done) | (simp [intOf]; omega)
    · have hkf : decide ((k : Int) < (un : Int)) = false := by simp; omega
      have e1 := b16.trans (hbel.mono b16.size)
      have dw := d6.trans (hbel.mono hz6)
      have HSf := hide (unhide HSelf wr e1)
      rw [Row.join_self (unhide HKL)] at HSf
      dsimp only at HSf
      have SXw := hide ((unhide SX6).below hbel)
      clear hbel
      go_wp2_with fail
      refine (unhide HSf).mono ?_
      rintro e W7 ⟨z, rfl, oz, b7⟩
      have e7 := e1.trans (b7.mono e1.size)
      have d7 := dw.trans (b7.mono dw.size)
      have SX7 := hide ((unhide SXw).below b7)
      have SZ7 := hide oz.is
      obtain ⟨za', zn', zq', hz'⟩ := oz.form
      subst hz'
      have hgR := Row.fine_good (Row.fine_ok (unhide HKR))
      have hlR : R.length ≤ maxLen := by rw [← unhide HNX]; unfold maxLen; omega
      have HOk := hide (Row.impl_ok (unhide SX7) hgR hlR)
      rw [unhide HKR] at HOk
      clear oz b7 e1 dw HSf SXw hgR hlR
      go_wp2_with fail
      refine (unhide HOk).mono ?_
      rintro e W8 ⟨rfl, b8⟩
      have e8 := e7.trans (b8.mono e7.size)
      have d8 := d7.trans (b8.mono d7.size)
      have SX8 := hide ((unhide SX7).below b8)
      have HAl := hide (Row.al_rows ((unhide SZ7).below b8) ((unhide HV).below e8))
      clear b8 e7 d7 SX7 SZ7 HOk
      go_wp2_with fail
      refine (unhide HAl).mono ?_
      rintro e W9 ⟨rfl, b9⟩
      have e9 := e8.trans (b9.mono e8.size)
      have d9 := d8.trans (b9.mono d8.size)
      have SX9 := hide ((unhide SX8).below b9)
      have HC1 := hide (Row.al_count (unhide SX9) (Row.bounds (unhide HKR)).1 (Row.bounds (unhide HKR)).2)
      have HC2 := hide (fun W (hb : Below W1.heap.size W1 W) => Row.al_count ((unhide HV).below hb) (Row.bounds (unhide HKL)).1 (Row.bounds (unhide HKL)).2)
      have HC4 := hide (fun W (hb : Below W1.heap.size W1 W) => Row.al_count ((unhide HU).below hb) (Row.bounds (unhide HKM)).1 (Row.bounds (unhide HKM)).2)
      have hB2 := Row.cntS_le (Row.bounds (unhide HKL)).2
      have hB3 := Row.cntS_le (Row.bounds (unhide HKM)).2
      have hB1 := unhide HC3
      rw [← unhide HVN] at hB2
      rw [← unhide HUN] at hB3
      generalize Row.cntS R = N1 at HC1 hB1
      generalize Row.cntS L = N2 at HC2 hB1 hB2
      generalize Row.cntS M = N3 at HC4 hB1 hB3
      have t1 : decide ((N1 : Int) ≤ (N2 : Int) + (N3 : Int)) = true := by simp; omega
      have t2 : (N1 : Int) ≤ (N2 : Int) + (N3 : Int) := by omega
      clear b9 e8 d8 SX8 HAl hB1 HC3
      go_wp2_with fail
      refine (unhide HC1).mono ?_
      rintro e W10 ⟨rfl, b10⟩
      have e10 := e9.trans (b10.mono e9.size)
      have d10 := d9.trans (b10.mono d9.size)
      clear b10 e9 d9 SX9 HC1
      go_wp2_with fail
      refine (unhide HC2 W10 e10).mono ?_
      rintro e W11 ⟨rfl, b11⟩
      have e11 := e10.trans (b11.mono e10.size)
      have d11 := d10.trans (b11.mono d10.size)
      clear b11 e10 d10 HC2
      go_wp2_with fail
      refine (unhide HC4 W11 e11).mono ?_
      rintro e W12 ⟨rfl, b12⟩
      have d12 := d11.trans (b12.mono d11.size)
      clear b12 e11 d11 HC4
      go_wp2_with fail
      go_ret
      exact ⟨by first | rfl | rw [t1], d12⟩
end Go.Proofs.Ythcdohbfnflkiaa
