/- My own texts of one claim, laid together by program: RowFill, Many2, DrawRadd, WinMath2. -/
import Derived.Test.YtncjagdnebpaaaaG421a04129d
import Derived.Test.YtncjagdnebpaaaaGffb30f2161
import Derived.Test.YtncjagdnebpaaaaGba66025d16
import Derived.Test.YtncjagdnebpaaaaG5e89bfada3
import Derived.Test.YtncjagdnebpaaaaGad602209f6
import Derived.Test.YtncjagdnebpaaaaGe693881e78
import Derived.Test.YtncjagdnebpaaaaG4464f45ed3
/- A row more, whose labels and samples are new blocks of one each. No condition. -/
namespace Go.Proofs.Ytncjagdnebpaaaa.Row
open Go.RowKit Rw
set_option linter.unusedVariables false
theorem own3 {lo n s : Nat} {t : TypeId} {v : Value} {xs : List Value} {w : World} (a b c : Obj) (h : w.ownsRow lo t s v n xs) : (((w.alloc a).alloc b).alloc c).drew.ownsRow lo t s v n xs := World.ownsRow.drew (World.ownsRow.alloc (World.ownsRow.alloc (World.ownsRow.alloc h _) _) _)
theorem below3 {lo : Nat} {u w : World} (a b c : Obj) (h : Below lo u w) (hl : lo ≤ w.heap.size) : Below lo u (((w.alloc a).alloc b).alloc c).drew :=
  (((h.alloc hl _).alloc (by simp; omega) _).alloc (by simp; omega) _).drew
theorem new1 {lo : Nat} {t : TypeId} {x y : Value} {w : World} (b c : Obj) (hl : lo ≤ w.heap.size) : (((w.alloc (.cells #[x, y] t)).alloc b).alloc c).drew.ownsRow lo t 2 (.slice (some ⟨w.heap.size, 0, none⟩) 1 1) 1 [x, y] := by
  have h : (w.alloc (.cells #[x, y] t)).ownsRow lo t 2 (.slice (some ⟨w.heap.size, 0, none⟩) 1 1) 1 [x, y] := Draw.own_new (cs := #[x, y]) rfl rfl (by unfold maxLen; omega) hl
  exact World.ownsRow.drew (World.ownsRow.alloc (World.ownsRow.alloc h _) _)
theorem new2 {lo : Nat} {t : TypeId} {x y : Value} {w : World} (a c : Obj) (hl : lo ≤ w.heap.size) : (((w.alloc a).alloc (.cells #[x, y] t)).alloc c).drew.ownsRow lo t 2 (.slice (some ⟨w.heap.size + 1, 0, none⟩) 1 1) 1 [x, y] := by
  have hz : (w.alloc a).heap.size = w.heap.size + 1 := by simp
  have h : ((w.alloc a).alloc (.cells #[x, y] t)).ownsRow lo t 2 (.slice (some ⟨w.heap.size + 1, 0, none⟩) 1 1) 1 [x, y] := Draw.own_new (cs := #[x, y]) hz.symm rfl (by unfold maxLen; omega) (by omega)
  exact World.ownsRow.drew (World.ownsRow.alloc h _)
theorem fill_sl {lo k q g : Nat} {wr wn : World} {vn : Value} {L : List E} {cs : List C} {A B : ByteArray} {T V : Int} (c : Obj) (h1 : cs.length = L.length) (hk : L.length = k) (hl : lo ≤ wr.heap.size)
    (h2 : wr.ownsRow lo 44 2 (.slice (some ⟨g, 0, none⟩) k q) k (flatOf cl cs))
    (h7 : ∀ i, i < L.length → wr.ownsRow lo 47 2 (cat cs i).1 (at' L i).1.length (Lab.flat (at' L i).1) ∧ wr.ownsRow lo 26 2 (cat cs i).2 (at' L i).2.length (Sam.flat (at' L i).2))
    (gn : (((wr.alloc (.cells #[.int .i64 T, .int .i64 V] 26)).alloc (.cells #[.string A, .string B] 47)).alloc c).drew.grownBy wn (some g))
    (on : wn.ownsRow lo 44 2 vn (k + 1) (flatOf cl cs ++ [.slice (some ⟨wr.heap.size + 1, 0, none⟩) 1 1, .slice (some ⟨wr.heap.size, 0, none⟩) 1 1])) : Dn lo wn vn (L ++ [([(A, B)], [(T, V)])]) := by
  subst hk
  exact Dn.snoc (x := ([(A, B)], [(T, V)])) h1 (own3 _ _ _ h2) (fun i hi => ⟨own3 _ _ _ (h7 i hi).1, own3 _ _ _ (h7 i hi).2⟩) gn on (new2 _ _ hl) (new1 _ _ hl)
theorem fill_ls {lo k q g : Nat} {wr wn : World} {vn : Value} {L : List E} {cs : List C} {A B : ByteArray} {T V : Int} (c : Obj) (h1 : cs.length = L.length) (hk : L.length = k) (hl : lo ≤ wr.heap.size)
    (h2 : wr.ownsRow lo 44 2 (.slice (some ⟨g, 0, none⟩) k q) k (flatOf cl cs))
    (h7 : ∀ i, i < L.length → wr.ownsRow lo 47 2 (cat cs i).1 (at' L i).1.length (Lab.flat (at' L i).1) ∧ wr.ownsRow lo 26 2 (cat cs i).2 (at' L i).2.length (Sam.flat (at' L i).2))
    (gn : (((wr.alloc (.cells #[.string A, .string B] 47)).alloc (.cells #[.int .i64 T, .int .i64 V] 26)).alloc c).drew.grownBy wn (some g))
    (on : wn.ownsRow lo 44 2 vn (k + 1) (flatOf cl cs ++ [.slice (some ⟨wr.heap.size, 0, none⟩) 1 1, .slice (some ⟨wr.heap.size + 1, 0, none⟩) 1 1])) : Dn lo wn vn (L ++ [([(A, B)], [(T, V)])]) := by
  subst hk
  exact Dn.snoc (x := ([(A, B)], [(T, V)])) h1 (own3 _ _ _ h2) (fun i hi => ⟨own3 _ _ _ (h7 i hi).1, own3 _ _ _ (h7 i hi).2⟩) gn on (new1 _ _ hl) (new2 _ _ hl)
end Go.Proofs.Ytncjagdnebpaaaa.Row

/- A letter, some times over: whatever letter, five times at most. -/
namespace Go.Proofs.Ytncjagdnebpaaaa.Draw
open Go.RowKit Rw
set_option linter.unusedVariables false
attribute [local go_sem ↓] Go.wp_at_zero Go.wp_at_succ
set_option maxRecDepth 100000 in
set_option maxHeartbeats 1000000 in
theorem many_gen (s0 : ByteArray) (h0 : s0.size ≤ 1) (n : Nat) (w : World) (hn : n ≤ 5) : Calls Try.prog 16 #[.string s0, .int .i64 (n : Int)] w fun e w' => ∃ B : ByteArray, e = .returned (.string B) ∧ B.size ≤ 50 ∧ w' = w := by
  go_enter Try.func16, Try.ntmps16
  go_wp2
  go_loop [0, 1, 5] (fun sv nv ov => ∃ (s o : ByteArray) (k : Nat), sv = .string s ∧ ov = .string o ∧ nv = .int .i64 (k : Int) ∧ k ≤ 5 ∧ (4 ≤ k → s.size ≤ 2 ∧ o.size ≤ 2) ∧ (2 ≤ k → s.size ≤ 4 ∧ o.size ≤ 4) ∧ (1 ≤ k → s.size ≤ 8 ∧ o.size ≤ 8) ∧ s.size ≤ 16 ∧ o.size ≤ 16) (fun _ nv _ => (intOf nv).toNat)
  case atStart => exact ⟨s0, ⟨#[]⟩, n, rfl, rfl, rfl, hn, fun _ => ⟨by omega, by decide⟩, fun _ => ⟨by omega, by decide⟩, fun _ => ⟨by omega, by decide⟩, by omega, by decide⟩
  case round =>
    obtain ⟨s, o, k, rfl, rfl, rfl, hk, h4, h2, h1, hs, ho⟩ := hrel
    rcases (show k = 0 ∨ k = 1 ∨ k = 2 ∨ k = 3 ∨ k = 4 ∨ k = 5 from by omega) with rfl | rfl | rfl | rfl | rfl | rfl
    · clear h4 h2 h1
      go_wp2
      go_ret
      exact ⟨o, rfl, by omega, rfl⟩
    · have e1 := ByteArray.size_append (a := s) (b := s)
      have e2 := ByteArray.size_append (a := o) (b := s)
      have E := hide (And.intro e1 (And.intro e2 (And.intro h4 (And.intro h2 h1))))
      clear e1 e2 h4 h2 h1
      go_wp2
      obtain ⟨e1, e2, h4, h2, h1⟩ := unhide E
      exact ⟨⟨s ++ s, o ++ s, 0, rfl, rfl, rfl, by omega, fun _ => by omega, fun _ => by omega, fun _ => by omega, by omega, by omega⟩, by simp [intOf]⟩
    · have e1 := ByteArray.size_append (a := s) (b := s)
      have e2 := ByteArray.size_append (a := o) (b := s)
      have E := hide (And.intro e1 (And.intro e2 (And.intro h4 (And.intro h2 h1))))
      clear e1 e2 h4 h2 h1
      go_wp2
      obtain ⟨e1, e2, h4, h2, h1⟩ := unhide E
      exact ⟨⟨s ++ s, o, 1, rfl, rfl, rfl, by omega, fun _ => by omega, fun _ => by omega, fun _ => by omega, by omega, by omega⟩, by simp [intOf]⟩
    · have e1 := ByteArray.size_append (a := s) (b := s)
      have e2 := ByteArray.size_append (a := o) (b := s)
      have E := hide (And.intro e1 (And.intro e2 (And.intro h4 (And.intro h2 h1))))
      clear e1 e2 h4 h2 h1
      go_wp2
      obtain ⟨e1, e2, h4, h2, h1⟩ := unhide E
      exact ⟨⟨s ++ s, o ++ s, 1, rfl, rfl, rfl, by omega, fun _ => by omega, fun _ => by omega, fun _ => by omega, by omega, by omega⟩, by simp [intOf]⟩
    · have e1 := ByteArray.size_append (a := s) (b := s)
      have e2 := ByteArray.size_append (a := o) (b := s)
      have E := hide (And.intro e1 (And.intro e2 (And.intro h4 (And.intro h2 h1))))
      clear e1 e2 h4 h2 h1
      go_wp2
      obtain ⟨e1, e2, h4, h2, h1⟩ := unhide E
      exact ⟨⟨s ++ s, o, 2, rfl, rfl, rfl, by omega, fun _ => by omega, fun _ => by omega, fun _ => by omega, by omega, by omega⟩, by simp [intOf]⟩
    · have e1 := ByteArray.size_append (a := s) (b := s)
      have e2 := ByteArray.size_append (a := o) (b := s)
      have E := hide (And.intro e1 (And.intro e2 (And.intro h4 (And.intro h2 h1))))
      clear e1 e2 h4 h2 h1
      go_wp2
      obtain ⟨e1, e2, h4, h2, h1⟩ := unhide E
      exact ⟨⟨s ++ s, o ++ s, 2, rfl, rfl, rfl, by omega, fun _ => by omega, fun _ => by omega, fun _ => by omega, by omega, by omega⟩, by simp [intOf]⟩
end Go.Proofs.Ytncjagdnebpaaaa.Draw

/- Rows, labels and a sample are drawn, for RowsAdd. -/
namespace Go.Proofs.Ytncjagdnebpaaaa.Draw
open Go.RowKit Rw
set_option linter.unusedVariables false
set_option linter.unusedSimpArgs false
attribute [local go_sem ↓] Go.wp_at_zero Go.wp_at_succ
def lenV : Value → Nat
  | .slice _ n _ => n
  | _ => 0
theorem sam_first {w : World} {a : Option Addr} {n q : Nat} {zs : List Sam.E} (h : Sam.Is w (.slice a n q) zs) (hn : n = zs.length) (hp : 0 < n) : ∃ (b o : Nat) (T V : Int), a = some ⟨b, o, none⟩ ∧ b < w.heap.size ∧ w.cell? ⟨b, o, none⟩ = some (.int .i64 T) ∧ w.cell? ⟨b, o + 1, none⟩ = some (.int .i64 V) ∧ (T, V) ∈ zs := by
  rcases zs with _ | ⟨⟨T, V⟩, zs⟩
  · simp at hn; omega
  · obtain ⟨-, a', cap, e, hc, hm, -, hr⟩ := h
    simp only [Value.slice.injEq] at e
    obtain ⟨rfl, -, -⟩ := e
    obtain ⟨b, off, rfl, hb, hcells⟩ := hr (by simp)
    exact ⟨b, off, T, V, rfl, hb, hcells 0 _ rfl, hcells 1 _ rfl, by simp⟩
theorem lies_newD {w : World} {cs : Array Value} {t : TypeId} {n size B : Nat} (hB : B = w.heap.size) (h : cs.size = n * size) (hn : n ≤ maxLen) : Lies (w.alloc (.cells cs t)).drew (.slice (some ⟨B, 0, none⟩) n n) n size cs.toList := lies_new (w := w) hB h hn
/-- what DrawRowsAdd answers -/
def RA (w : World) (e : Ending) (w' : World) : Prop :=
  ∃ (zs : List Row.E) (ls : List Lab.E) (T V : Int) (v u : Value), e = .returned (.tuple #[v, u, .agg #[.int .i64 T, .int .i64 V]]) ∧ (zs.length ≤ 11 ∧ ∀ x ∈ zs, Row.good x) ∧ (ls.length ≤ 20 ∧ ∀ y ∈ ls, Lab.good y) ∧ Sam.good (T, V) ∧ Row.Is w' v zs ∧ Lab.Is w' u ls ∧ Below w.heap.size w w'
set_option maxRecDepth 100000 in
set_option maxHeartbeats 32000000 in
theorem draw_radd {a : Option Addr} {len cap : Nat} {zs : List Int} (w0 w : World) (h : IsRow .u8 w0 a len cap zs) (hB : Below w0.heap.size w0 w) :
    Calls Try.prog 4 #[.slice a len cap] w (RA w) := by
  obtain ⟨W, hW⟩ : ∃ W, W = w.alloc (.cells #[.int .i64 0, .int .i64 0] 26) := ⟨_, rfl⟩
  have bW : Below w.heap.size w W := by rw [hW]; exact (Below.refl _ _).alloc (Nat.le_refl _) _
  have zW : W.heap.size = w.heap.size + 1 := by rw [hW]; simp
  have RZ : SB w.heap.size W w.heap.size (.int .i64 0) (.int .i64 0) := by rw [hW]; exact sbox_new _ _ (Nat.le_refl _)
  have hne : w.heap.size ≠ W.heap.size := by omega
  have HO := hide (open_any w0 W h (hB.trans (bW.mono hB.size)))
  clear h hB
  go_enter Try.func4, Try.ntmps4
  go_wp2_with fail
  rw [← hW]
  clear hW
  refine (unhide HO).mono ?_
  rintro e w1 ⟨rfl, r1, b1⟩
  have z1 := r1.lt
  have RZ1 := hide (own_below RZ b1)
  obtain ⟨rb, hrb⟩ : ∃ k, k = W.heap.size := ⟨_, rfl⟩
  have c1 := bW.trans (b1.mono bW.size)
  clear b1 bW
  rw [← hrb] at r1 z1 hne zW ⊢
  have hwb : w.heap.size < rb := by omega
  clear RZ HO hrb zW
  go_wp2_with fail
  refine (anyrows_any rb 0 0 _ r1 (by omega) (by omega) (by omega)).mono ?_
  rintro e w2 ⟨L, v, rfl, hRG, hF, ⟨p2, hp2, r2⟩, g2⟩
  have HRG := hide hRG
  have HGG := hide (show L.length ≤ 11 ∧ ∀ x ∈ L, Row.good x from ⟨hRG.1, fun x hx => (hRG.2 x hx).1⟩)
  have hl11 := hRG.1
  obtain ⟨av, qv, rfl⟩ : ∃ a q, v = .slice a L.length q := by obtain ⟨cs, -, hL, -⟩ := hF; obtain ⟨-, a, q, e, -⟩ := hL; exact ⟨a, q, e⟩
  have HF2 := hide hF
  clear hRG hF r1
  go_wp2_with fail
  refine (pick_any rb p2 _ _ r2 (by omega) (by omega)).mono ?_
  rintro e w3 ⟨T, rfl, t0, t1, -, r3, g3⟩
  have t2 : T < 200 := t1 (by omega)
  go_wp2_with fail
  refine (value_any rb (p2 + 1) _ r3 (by omega)).mono ?_
  rintro e w4 ⟨V, rfl, v0, v1, r4, g4⟩
  have g14 := grown_trans g2 (grown_trans g3 g4)
  have HF4 := hide (((unhide HF2).grown g3 z1).grown g4 z1)
  have RZ4 := hide (sbox_kept (unhide RZ1) g14 hne)
  have c4 := c1.trans (below_of_grown g14 (show w.heap.size ≤ rb by omega) (by omega))
  have z4 := g14.size
  have HTV := hide (show Sam.good (T, V) from ⟨Row.wf_i64 (by omega) (by omega), Row.wf_i64 (by omega) (by omega)⟩)
  clear t1 r2 r3 g2 g3 g4 g14 HF2 RZ1
  obtain ⟨i0, hi, hz0, hz1, hz2⟩ := info_parts Row.info_e
  obtain ⟨xb, hxb⟩ : ∃ k, k = w4.heap.size := ⟨_, rfl⟩
  have hxr : rb < xb := by omega
  have hx4 : w4.heap.size ≤ xb := by omega
  obtain ⟨w5, hw5⟩ : ∃ X, w4.alloc (.cells #[.int .i64 T, .int .i64 V] 26) = X := ⟨_, rfl⟩
  have b45 : Below w4.heap.size w4 w5 := by rw [← hw5]; exact (Below.refl _ _).alloc (Nat.le_refl _) _
  have HX := hide (show SB (rb + 1) w5 xb (.int .i64 T) (.int .i64 V) by rw [← hw5, hxb]; exact sbox_new _ _ (by omega))
  have HR := hide (r4.below b45)
  have HZ := hide (own_below (unhide RZ4) b45)
  have HI := hide ((unhide HF4).below b45)
  have b0 := c4.trans (b45.mono c4.size)
  have hw5l : rb < w5.heap.size := (unhide HR).lt
  have hBr : rb < w1.heap.size := z1
  have G5 := grown_below (r := some rb) b45
  clear r4 b45 RZ4 c4
  obtain ⟨n, hn⟩ : ∃ n, n = L.length := ⟨_, rfl⟩
  rw [← hn] at HI hl11 HF4
  rw [← hn]
  have HN := hide hn
  clear hn
  rcases n with _ | n
  · skip
    go_wp2_with fail
    rw [← hxb]
    clear hw5 hxb
    refine (pick_any rb (p2 + 1 + 6) _ _ (unhide HR) (by omega) (by omega)).mono ?_
    rintro e wU ⟨d, rfl, d0, d1, -, rU, gU⟩
    have HR' := hide rU
    have HZ' := hide (sbox_kept (unhide HZ) gU hne)
    have HX' := hide (own_kept (unhide HX) gU (Nat.lt_succ_self rb))
    have HI' := hide ((unhide HI).grown gU hBr)
    have bU := b0.trans (below_of_grown gU (show w.heap.size ≤ rb by omega) b0.size)
    have hwU : rb < wU.heap.size := rU.lt
    clear HR HZ HX HI b0 gU rU
    have HR := HR'
    have HZ := HZ'
    have HX := HX'
    have HI := HI'
    have b0 := bU
    clear HR' HZ' HX' HI' bU
    by_cases hd : d = 0
    · subst hd
      clear HI
      have hmx1 : 1 ≤ maxLen := by unfold maxLen; omega
      have HNil := hide (own_nil' wU.heap.size wU (Nat.le_refl _)).dn
      go_wp2_with fail
      go_loopw [6] (fun v6 wr => ∃ (k : Nat) (L' : List Row.E) (g q : Nat), k ≤ 10 ∧ v6 = .slice (some ⟨g, 0, none⟩) k q ∧ Hid (L'.length = k) ∧ Hid (RG L') ∧ Hid (Row.Dn wU.heap.size wr (.slice (some ⟨g, 0, none⟩) k q) L') ∧ Below wU.heap.size wU wr) (fun v6 _ => 10 - lenV v6)
      case atStart => exact ⟨0, [], wU.heap.size, 0, Nat.zero_le _, rfl, rfl, ⟨by simp, fun x hx => absurd hx (List.not_mem_nil)⟩, unhide HNil, (Below.refl _ _).alloc (Nat.le_refl _) _⟩
      case round =>
        obtain ⟨k, L', g, q, hk, rfl, HL, HG, HD, hb⟩ := hrel
        clear HNil
        have zr := hb.size
        by_cases hlt : k < 10
        · have hki : (k : Int) < 10 := by omega
          obtain ⟨cs, d1, d2, d7⟩ := unhide HD
          rw [unhide HL] at d2
          have D2 := hide d2
          have D7 := hide d7
          have D1 := hide d1
          have hgl : wU.heap.size ≤ g := own_ge d2 g rfl
          clear d1 d2 d7
          obtain ⟨m, hm⟩ : ∃ m, m = k % 6 := ⟨_, rfl⟩
          obtain ⟨jj, hjj⟩ : ∃ m, m = k / 6 := ⟨_, rfl⟩
          have hm5 : m ≤ 5 := by omega
          have hj5 : jj ≤ 5 := by omega
          have hm1 : (k : Int).tmod 6 = (m : Int) := by subst hm; rfl
          have hm2 : (k : Int) % 6 = (m : Int) := by omega
          have hj1 : (k : Int).tdiv 6 = (jj : Int) := by subst hjj; rfl
          have hj2 : (k : Int) / 6 = (jj : Int) := by omega
          have hwm : IntKind.i64.wrap (m : Int) = (m : Int) := Grl.wrap_ok (by omega) (by omega)
          have hwj : IntKind.i64.wrap (jj : Int) = (jj : Int) := Grl.wrap_ok (by omega) (by omega)
          have hxl : xb < wU.heap.size := own_block_lt (unhide HX) xb rfl
          have HSX := hide (fun (X : World) (gx : Below wU.heap.size wU X) => show (X.cell? ⟨xb, 0, none⟩ = some (.int .i64 T) ∧ X.cell? ⟨xb, 1, none⟩ = some (.int .i64 V)) from ⟨(gx.cell (p := ⟨xb, _, none⟩) hxl).trans (sbox_two (unhide HX)).1, (gx.cell (p := ⟨xb, _, none⟩) hxl).trans (sbox_two (unhide HX)).2.1⟩)
          clear hm hjj
          go_wp2_with fail
          refine Grl.start (S := fun X => X.cell? ⟨xb, 0, none⟩ = some (.int .i64 T) ∧ X.cell? ⟨xb, 1, none⟩ = some (.int .i64 V)) (by kernel_rfl) (by exact unhide HSX _ (by repeat (first | exact hb | apply Below.drew | refine Below.alloc ?_ (by first | omega | (simp; omega) | simp) _))) (fun hHeld => ?_)
          refine Grl.yes 0 (v := ?_) rfl (by kernel_rfl) (by kernel_rfl) (by kernel_rfl) (fun _ _ _ h => h) (by kernel_rfl) ?_ (by assumption) ?_
          rotate_left
          · (intro w hSw; (try dsimp only at hSw); go_simp; try with_reducible rfl)
          simp only [Act.put, List.setIfInBounds_toArray, List.set_cons_zero, List.set_cons_succ]
          refine Grl.yes 1 (v := ?_) rfl (by kernel_rfl) (by kernel_rfl) (by kernel_rfl) (fun _ _ _ h => h) (by kernel_rfl) ?_ (by assumption) ?_
          rotate_left
          · (intro w hSw; (try dsimp only at hSw); go_simp; try with_reducible rfl)
          simp only [Act.put, List.setIfInBounds_toArray, List.set_cons_zero, List.set_cons_succ]
          refine Grl.yes 2 (v := ?_) rfl (by kernel_rfl) (by kernel_rfl) (by kernel_rfl) (fun _ _ _ h => h) (by kernel_rfl) ?_ (by assumption) ?_
          rotate_left
          · (intro w hSw; (try dsimp only at hSw); go_simp; try with_reducible rfl)
          simp only [Act.put, List.setIfInBounds_toArray, List.set_cons_zero, List.set_cons_succ]
          refine Grl.yes 3 (v := ?_) rfl (by kernel_rfl) (by kernel_rfl) (by kernel_rfl) (fun _ _ _ h => h) (by kernel_rfl) ?_ (by assumption) ?_
          rotate_left
          · (intro w hSw; (try dsimp only at hSw); go_simp; try with_reducible rfl)
          simp only [Act.put, List.setIfInBounds_toArray, List.set_cons_zero, List.set_cons_succ]
          refine Grl.yes 6 (v := ?_) rfl (by kernel_rfl) (by kernel_rfl) (by kernel_rfl) (fun _ _ _ h => h) (by kernel_rfl) ?_ (by assumption) ?_
          rotate_left
          · (intro w hSw; (try dsimp only at hSw); go_simp; try with_reducible rfl)
          simp only [Act.put, List.setIfInBounds_toArray, List.set_cons_zero, List.set_cons_succ]
          refine Grl.yes 7 (v := ?_) rfl (by kernel_rfl) (by kernel_rfl) (by kernel_rfl) (fun _ _ _ h => h) (by kernel_rfl) ?_ (by assumption) ?_
          rotate_left
          · (intro w hSw; (try dsimp only at hSw); go_simp; try with_reducible rfl)
          simp only [Act.put, List.setIfInBounds_toArray, List.set_cons_zero, List.set_cons_succ]
          refine Grl.yes 8 (v := ?_) rfl (by kernel_rfl) (by kernel_rfl) (by kernel_rfl) (fun _ _ _ h => h) (by kernel_rfl) ?_ (by assumption) ?_
          rotate_left
          · (intro w hSw; (try dsimp only at hSw); go_simp; try with_reducible rfl)
          simp only [Act.put, List.setIfInBounds_toArray, List.set_cons_zero, List.set_cons_succ]
          refine Grl.yes 13 (v := ?_) rfl (by kernel_rfl) (by kernel_rfl) (by kernel_rfl) (fun _ _ _ h => h) (by kernel_rfl) ?_ (by assumption) ?_
          rotate_left
          · (intro w hSw; (try dsimp only at hSw); go_simp; try with_reducible rfl)
          simp only [Act.put, List.setIfInBounds_toArray, List.set_cons_zero, List.set_cons_succ]
          refine Grl.two 4 14 rfl rfl (by kernel_rfl) (fun K hK => ?_) (fun K hK => ?_)
          · go_simp
            go_wp2_with (refine (many_gen ⟨#[110]⟩ (by decide) m _ hm5).mono ?_; rintro e w' ⟨B1, rfl, hB1, rfl⟩; have hB1' : ¬ (9223372036854775807 < 1 + B1.size) := (by omega))
            refine hK.out _ _ (by exact unhide HSX _ (by repeat (first | exact hb | apply Below.drew | refine Below.alloc ?_ (by first | omega | (simp; omega) | simp) _))) (fun hHeld => ?_)
            clear hK K
            refine Grl.yes 5 (v := ?_) rfl (by kernel_rfl) (by kernel_rfl) (by kernel_rfl) (fun _ _ _ h => h) (by kernel_rfl) ?_ (by assumption) ?_
            rotate_left
            · (intro w hSw; (try dsimp only at hSw); go_simp; try with_reducible rfl)
            simp only [Act.put, List.setIfInBounds_toArray, List.set_cons_zero, List.set_cons_succ]
            refine Grl.two 9 14 rfl rfl (by kernel_rfl) (fun K hK => ?_) (fun K hK => ?_)
            · go_simp
              go_wp2_with (refine (many_gen ⟨#[118]⟩ (by decide) jj _ hj5).mono ?_; rintro e w' ⟨B2, rfl, hB2, rfl⟩; have hB2' : ¬ (9223372036854775807 < 1 + B2.size) := (by omega))
              refine hK.out _ _ (by exact unhide HSX _ (by repeat (first | exact hb | apply Below.drew | refine Below.alloc ?_ (by first | omega | (simp; omega) | simp) _))) (fun hHeld => ?_)
              clear hK K
              refine Grl.yes 10 (v := ?_) rfl (by kernel_rfl) (by kernel_rfl) (by kernel_rfl) (fun _ _ _ h => h) (by kernel_rfl) ?_ (by assumption) ?_
              rotate_left
              · (intro w hSw; (try dsimp only at hSw); go_simp; try with_reducible rfl)
              simp only [Act.put, List.setIfInBounds_toArray, List.set_cons_zero, List.set_cons_succ]
              refine Grl.yes 11 (v := ?_) rfl (by kernel_rfl) (by kernel_rfl) (by kernel_rfl) (fun _ _ _ h => h) (by kernel_rfl) ?_ (by assumption) ?_
              rotate_left
              · (intro w hSw; (try dsimp only at hSw); go_simp; try with_reducible rfl)
              simp only [Act.put, List.setIfInBounds_toArray, List.set_cons_zero, List.set_cons_succ]
              refine Grl.two 12 14 rfl rfl (by kernel_rfl) (fun K hK => ?_) (fun K hK => ?_)
              · go_simp
                skip
                refine hK.out _ _ (by exact unhide HSX _ (by repeat (first | exact hb | apply Below.drew | refine Below.alloc ?_ (by first | omega | (simp; omega) | simp) _))) (fun hHeld => ?_)
                clear hK K
                refine Grl.one 14 rfl (by kernel_rfl) (fun K hK => ?_)
                go_simp
                skip
                refine hK.out _ _ (by exact unhide HSX _ (by repeat (first | exact hb | apply Below.drew | refine Below.alloc ?_ (by first | omega | (simp; omega) | simp) _))) (fun hHeld => ?_)
                clear hK K
                refine Grl.yes 15 (v := ?_) rfl (by kernel_rfl) (by kernel_rfl) (by kernel_rfl) (fun _ _ _ h => h) (by kernel_rfl) ?_ (by assumption) ?_
                rotate_left
                · (intro w hSw; (try dsimp only at hSw); go_simp; try with_reducible rfl)
                simp only [Act.put, List.setIfInBounds_toArray, List.set_cons_zero, List.set_cons_succ]
                refine Grl.one 16 rfl (by kernel_rfl) (fun K hK => ?_)
                go_simp
                skip
                refine hK.out _ _ (by exact unhide HSX _ (by repeat (first | exact hb | apply Below.drew | refine Below.alloc ?_ (by first | omega | (simp; omega) | simp) _))) (fun hHeld => ?_)
                clear hK K
                refine Grl.one 17 rfl (by kernel_rfl) (fun K hK => ?_)
                (refine app_step _ (by rfl) (.tmp 63) (.tmp 79) _ (by rfl) wU.heap.size 44 i0 _ 2 48 Try.underlying23 hi hz0 hz1 hz2 rfl (by omega) _ k _ (by rfl) (World.ownsRow.drew (World.ownsRow.alloc (World.ownsRow.alloc (World.ownsRow.alloc (unhide D2) _) _) _)) _ 1 _ (by rfl) (by first | exact lies_new (by simp) rfl hmx1 | exact lies_newD (by simp) rfl hmx1) (by simp [Value.oneCell']) (by unfold maxLen; omega) (by omega) (by first | omega | (simp; omega) | simp) ?_; intro vn wn on gn an; have bN : Below wU.heap.size wU wn := below_grown (Row.below3 _ _ _ hb zr) (Row.below3 _ _ _ hb zr).size gn (own_ge (unhide D2)); have on2 : wn.ownsRow wU.heap.size 44 2 vn (k + 1) (flatOf Row.cl cs ++ [.slice (some ⟨wr.heap.size, 0, none⟩) 1 1, .slice (some ⟨wr.heap.size + 1, 0, none⟩) 1 1]) := on; have HDn := hide (Row.fill_ls _ (unhide D1) (unhide HL) zr (unhide D2) (unhide D7) gn on2); have hsN := unhide HSX wn bN)
                refine hK.out _ _ (by exact hsN) (fun hHeld => ?_)
                clear hK K
                refine Grl.yes 18 (v := ?_) rfl (by kernel_rfl) (by kernel_rfl) (by kernel_rfl) (fun _ _ _ h => h) (by kernel_rfl) ?_ (by assumption) ?_
                rotate_left
                · (intro w hSw; (try dsimp only at hSw); go_simp; try with_reducible rfl)
                simp only [Act.put, List.setIfInBounds_toArray, List.set_cons_zero, List.set_cons_succ]
                refine wpAnyH_done (by kernel_rfl) ?_ _
                obtain ⟨av2, qn, rfl⟩ : ∃ a q, vn = .slice a (k + 1) q := by obtain ⟨-, a, q, e, -⟩ := lies_of_own on; exact ⟨a, q, e⟩
                obtain ⟨gg, rfl⟩ : ∃ g, av2 = some ⟨g, 0, none⟩ := by
                  rcases on.2 with ⟨e, -⟩ | ⟨g, cap, cur, e, -⟩
                  · cases e
                  · simp only [Value.slice.injEq] at e; exact ⟨g, e.1⟩
                have hgg : wU.heap.size ≤ gg := own_ge on gg rfl
                have HG2 := hide (show ∀ x ∈ L' ++ [([(⟨#[110]⟩ ++ B1, ⟨#[119]⟩ ++ B2)], [(T, V)])], Row.good x ∧ x.1.length ≤ 20 ∧ x.2.length ≤ 1000 from fun x hx => by
                  rw [List.mem_append, List.mem_singleton] at hx
                  rcases hx with hx | hx
                  · exact (unhide HG).2 x hx
                  · subst hx
                    refine ⟨⟨⟨by unfold maxLen; simp, fun y hy => ?_⟩, by unfold maxLen; simp, fun y hy => ?_⟩, by simp, by simp⟩
                    · rw [List.mem_singleton] at hy
                      subst hy
                      have s1 := ByteArray.size_append (a := ⟨#[110]⟩) (b := B1)
                      have s2 := ByteArray.size_append (a := ⟨#[119]⟩) (b := B2)
                      have s3 : (ByteArray.mk #[110]).size = 1 := rfl
                      have s4 : (ByteArray.mk #[119]).size = 1 := rfl
                      exact ⟨by unfold maxLen; simp only; omega, by unfold maxLen; simp only; omega⟩
                    · rw [List.mem_singleton] at hy
                      rw [hy]
                      exact unhide HTV)
                have HLn := hide (show (L' ++ [(([(⟨#[110]⟩ ++ B1, ⟨#[119]⟩ ++ B2)], [(T, V)]) : Row.E)]).length = k + 1 by rw [List.length_append, unhide HL]; rfl)
                have HSort := hide (Row.sort_any (unhide HDn) (unhide HLn) (by omega))
                have HBN := hide bN
                clear on gn an bN hsN HDn D1 D2 D7 HD HSX
                go_wp2_with fail
                refine (unhide HSort).mono ?_
                rintro e wq ⟨L2, rfl, hl2, hm2, hd2, gq⟩
                have HL2 := hide hl2
                have HD2 := hide hd2
                have HRG2 := hide (show RG L2 from ⟨by omega, fun x hx => unhide HG2 x (hm2 x hx)⟩)
                have HB2 := hide (below_grown (unhide HBN) (unhide HBN).size gq (fun j hj => by cases hj; exact hgg))
                clear HSort HG2 HLn hl2 hm2 hd2 gq
                go_wp2_with fail
                go_roundw
                case rel => exact ⟨k + 1, L2, gg, qn, by omega, rfl, HL2, HRG2, HD2, unhide HB2⟩
                case measure => simp [lenV]; omega
              · go_simp
                skip
                refine hK.out _ _ (by exact unhide HSX _ (by repeat (first | exact hb | apply Below.drew | refine Below.alloc ?_ (by first | omega | (simp; omega) | simp) _))) (fun hHeld => ?_)
                clear hK K
                refine Grl.one 12 rfl (by kernel_rfl) (fun K hK => ?_)
                go_simp
                skip
                refine hK.out _ _ (by exact unhide HSX _ (by repeat (first | exact hb | apply Below.drew | refine Below.alloc ?_ (by first | omega | (simp; omega) | simp) _))) (fun hHeld => ?_)
                clear hK K
                refine Grl.yes 15 (v := ?_) rfl (by kernel_rfl) (by kernel_rfl) (by kernel_rfl) (fun _ _ _ h => h) (by kernel_rfl) ?_ (by assumption) ?_
                rotate_left
                · (intro w hSw; (try dsimp only at hSw); go_simp; try with_reducible rfl)
                simp only [Act.put, List.setIfInBounds_toArray, List.set_cons_zero, List.set_cons_succ]
                refine Grl.one 16 rfl (by kernel_rfl) (fun K hK => ?_)
                go_simp
                skip
                refine hK.out _ _ (by exact unhide HSX _ (by repeat (first | exact hb | apply Below.drew | refine Below.alloc ?_ (by first | omega | (simp; omega) | simp) _))) (fun hHeld => ?_)
                clear hK K
                refine Grl.one 17 rfl (by kernel_rfl) (fun K hK => ?_)
                (refine app_step _ (by rfl) (.tmp 63) (.tmp 79) _ (by rfl) wU.heap.size 44 i0 _ 2 48 Try.underlying23 hi hz0 hz1 hz2 rfl (by omega) _ k _ (by rfl) (World.ownsRow.drew (World.ownsRow.alloc (World.ownsRow.alloc (World.ownsRow.alloc (unhide D2) _) _) _)) _ 1 _ (by rfl) (by first | exact lies_new (by simp) rfl hmx1 | exact lies_newD (by simp) rfl hmx1) (by simp [Value.oneCell']) (by unfold maxLen; omega) (by omega) (by first | omega | (simp; omega) | simp) ?_; intro vn wn on gn an; have bN : Below wU.heap.size wU wn := below_grown (Row.below3 _ _ _ hb zr) (Row.below3 _ _ _ hb zr).size gn (own_ge (unhide D2)); have on2 : wn.ownsRow wU.heap.size 44 2 vn (k + 1) (flatOf Row.cl cs ++ [.slice (some ⟨wr.heap.size + 1, 0, none⟩) 1 1, .slice (some ⟨wr.heap.size, 0, none⟩) 1 1]) := on; have HDn := hide (Row.fill_sl _ (unhide D1) (unhide HL) zr (unhide D2) (unhide D7) gn on2); have hsN := unhide HSX wn bN)
                refine hK.out _ _ (by exact hsN) (fun hHeld => ?_)
                clear hK K
                refine Grl.yes 18 (v := ?_) rfl (by kernel_rfl) (by kernel_rfl) (by kernel_rfl) (fun _ _ _ h => h) (by kernel_rfl) ?_ (by assumption) ?_
                rotate_left
                · (intro w hSw; (try dsimp only at hSw); go_simp; try with_reducible rfl)
                simp only [Act.put, List.setIfInBounds_toArray, List.set_cons_zero, List.set_cons_succ]
                refine wpAnyH_done (by kernel_rfl) ?_ _
                obtain ⟨av2, qn, rfl⟩ : ∃ a q, vn = .slice a (k + 1) q := by obtain ⟨-, a, q, e, -⟩ := lies_of_own on; exact ⟨a, q, e⟩
                obtain ⟨gg, rfl⟩ : ∃ g, av2 = some ⟨g, 0, none⟩ := by
                  rcases on.2 with ⟨e, -⟩ | ⟨g, cap, cur, e, -⟩
                  · cases e
                  · simp only [Value.slice.injEq] at e; exact ⟨g, e.1⟩
                have hgg : wU.heap.size ≤ gg := own_ge on gg rfl
                have HG2 := hide (show ∀ x ∈ L' ++ [([(⟨#[110]⟩ ++ B1, ⟨#[119]⟩ ++ B2)], [(T, V)])], Row.good x ∧ x.1.length ≤ 20 ∧ x.2.length ≤ 1000 from fun x hx => by
                  rw [List.mem_append, List.mem_singleton] at hx
                  rcases hx with hx | hx
                  · exact (unhide HG).2 x hx
                  · subst hx
                    refine ⟨⟨⟨by unfold maxLen; simp, fun y hy => ?_⟩, by unfold maxLen; simp, fun y hy => ?_⟩, by simp, by simp⟩
                    · rw [List.mem_singleton] at hy
                      subst hy
                      have s1 := ByteArray.size_append (a := ⟨#[110]⟩) (b := B1)
                      have s2 := ByteArray.size_append (a := ⟨#[119]⟩) (b := B2)
                      have s3 : (ByteArray.mk #[110]).size = 1 := rfl
                      have s4 : (ByteArray.mk #[119]).size = 1 := rfl
                      exact ⟨by unfold maxLen; simp only; omega, by unfold maxLen; simp only; omega⟩
                    · rw [List.mem_singleton] at hy
                      rw [hy]
                      exact unhide HTV)
                have HLn := hide (show (L' ++ [(([(⟨#[110]⟩ ++ B1, ⟨#[119]⟩ ++ B2)], [(T, V)]) : Row.E)]).length = k + 1 by rw [List.length_append, unhide HL]; rfl)
                have HSort := hide (Row.sort_any (unhide HDn) (unhide HLn) (by omega))
                have HBN := hide bN
                clear on gn an bN hsN HDn D1 D2 D7 HD HSX
                go_wp2_with fail
                refine (unhide HSort).mono ?_
                rintro e wq ⟨L2, rfl, hl2, hm2, hd2, gq⟩
                have HL2 := hide hl2
                have HD2 := hide hd2
                have HRG2 := hide (show RG L2 from ⟨by omega, fun x hx => unhide HG2 x (hm2 x hx)⟩)
                have HB2 := hide (below_grown (unhide HBN) (unhide HBN).size gq (fun j hj => by cases hj; exact hgg))
                clear HSort HG2 HLn hl2 hm2 hd2 gq
                go_wp2_with fail
                go_roundw
                case rel => exact ⟨k + 1, L2, gg, qn, by omega, rfl, HL2, HRG2, HD2, unhide HB2⟩
                case measure => simp [lenV]; omega
            · go_simp
              skip
              refine hK.out _ _ (by exact unhide HSX _ (by repeat (first | exact hb | apply Below.drew | refine Below.alloc ?_ (by first | omega | (simp; omega) | simp) _))) (fun hHeld => ?_)
              clear hK K
              refine Grl.one 9 rfl (by kernel_rfl) (fun K hK => ?_)
              go_simp
              go_wp2_with (refine (many_gen ⟨#[118]⟩ (by decide) jj _ hj5).mono ?_; rintro e w' ⟨B2, rfl, hB2, rfl⟩; have hB2' : ¬ (9223372036854775807 < 1 + B2.size) := (by omega))
              refine hK.out _ _ (by exact unhide HSX _ (by repeat (first | exact hb | apply Below.drew | refine Below.alloc ?_ (by first | omega | (simp; omega) | simp) _))) (fun hHeld => ?_)
              clear hK K
              refine Grl.yes 10 (v := ?_) rfl (by kernel_rfl) (by kernel_rfl) (by kernel_rfl) (fun _ _ _ h => h) (by kernel_rfl) ?_ (by assumption) ?_
              rotate_left
              · (intro w hSw; (try dsimp only at hSw); go_simp; try with_reducible rfl)
              simp only [Act.put, List.setIfInBounds_toArray, List.set_cons_zero, List.set_cons_succ]
              refine Grl.yes 11 (v := ?_) rfl (by kernel_rfl) (by kernel_rfl) (by kernel_rfl) (fun _ _ _ h => h) (by kernel_rfl) ?_ (by assumption) ?_
              rotate_left
              · (intro w hSw; (try dsimp only at hSw); go_simp; try with_reducible rfl)
              simp only [Act.put, List.setIfInBounds_toArray, List.set_cons_zero, List.set_cons_succ]
              refine Grl.one 12 rfl (by kernel_rfl) (fun K hK => ?_)
              go_simp
              skip
              refine hK.out _ _ (by exact unhide HSX _ (by repeat (first | exact hb | apply Below.drew | refine Below.alloc ?_ (by first | omega | (simp; omega) | simp) _))) (fun hHeld => ?_)
              clear hK K
              refine Grl.yes 15 (v := ?_) rfl (by kernel_rfl) (by kernel_rfl) (by kernel_rfl) (fun _ _ _ h => h) (by kernel_rfl) ?_ (by assumption) ?_
              rotate_left
              · (intro w hSw; (try dsimp only at hSw); go_simp; try with_reducible rfl)
              simp only [Act.put, List.setIfInBounds_toArray, List.set_cons_zero, List.set_cons_succ]
              refine Grl.one 16 rfl (by kernel_rfl) (fun K hK => ?_)
              go_simp
              skip
              refine hK.out _ _ (by exact unhide HSX _ (by repeat (first | exact hb | apply Below.drew | refine Below.alloc ?_ (by first | omega | (simp; omega) | simp) _))) (fun hHeld => ?_)
              clear hK K
              refine Grl.one 17 rfl (by kernel_rfl) (fun K hK => ?_)
              (refine app_step _ (by rfl) (.tmp 63) (.tmp 79) _ (by rfl) wU.heap.size 44 i0 _ 2 48 Try.underlying23 hi hz0 hz1 hz2 rfl (by omega) _ k _ (by rfl) (World.ownsRow.drew (World.ownsRow.alloc (World.ownsRow.alloc (World.ownsRow.alloc (unhide D2) _) _) _)) _ 1 _ (by rfl) (by first | exact lies_new (by simp) rfl hmx1 | exact lies_newD (by simp) rfl hmx1) (by simp [Value.oneCell']) (by unfold maxLen; omega) (by omega) (by first | omega | (simp; omega) | simp) ?_; intro vn wn on gn an; have bN : Below wU.heap.size wU wn := below_grown (Row.below3 _ _ _ hb zr) (Row.below3 _ _ _ hb zr).size gn (own_ge (unhide D2)); have on2 : wn.ownsRow wU.heap.size 44 2 vn (k + 1) (flatOf Row.cl cs ++ [.slice (some ⟨wr.heap.size + 1, 0, none⟩) 1 1, .slice (some ⟨wr.heap.size, 0, none⟩) 1 1]) := on; have HDn := hide (Row.fill_sl _ (unhide D1) (unhide HL) zr (unhide D2) (unhide D7) gn on2); have hsN := unhide HSX wn bN)
              refine hK.out _ _ (by exact hsN) (fun hHeld => ?_)
              clear hK K
              refine Grl.yes 18 (v := ?_) rfl (by kernel_rfl) (by kernel_rfl) (by kernel_rfl) (fun _ _ _ h => h) (by kernel_rfl) ?_ (by assumption) ?_
              rotate_left
              · (intro w hSw; (try dsimp only at hSw); go_simp; try with_reducible rfl)
              simp only [Act.put, List.setIfInBounds_toArray, List.set_cons_zero, List.set_cons_succ]
              refine wpAnyH_done (by kernel_rfl) ?_ _
              obtain ⟨av2, qn, rfl⟩ : ∃ a q, vn = .slice a (k + 1) q := by obtain ⟨-, a, q, e, -⟩ := lies_of_own on; exact ⟨a, q, e⟩
              obtain ⟨gg, rfl⟩ : ∃ g, av2 = some ⟨g, 0, none⟩ := by
                rcases on.2 with ⟨e, -⟩ | ⟨g, cap, cur, e, -⟩
                · cases e
                · simp only [Value.slice.injEq] at e; exact ⟨g, e.1⟩
              have hgg : wU.heap.size ≤ gg := own_ge on gg rfl
              have HG2 := hide (show ∀ x ∈ L' ++ [([(⟨#[110]⟩ ++ B1, ⟨#[119]⟩ ++ B2)], [(T, V)])], Row.good x ∧ x.1.length ≤ 20 ∧ x.2.length ≤ 1000 from fun x hx => by
                rw [List.mem_append, List.mem_singleton] at hx
                rcases hx with hx | hx
                · exact (unhide HG).2 x hx
                · subst hx
                  refine ⟨⟨⟨by unfold maxLen; simp, fun y hy => ?_⟩, by unfold maxLen; simp, fun y hy => ?_⟩, by simp, by simp⟩
                  · rw [List.mem_singleton] at hy
                    subst hy
                    have s1 := ByteArray.size_append (a := ⟨#[110]⟩) (b := B1)
                    have s2 := ByteArray.size_append (a := ⟨#[119]⟩) (b := B2)
                    have s3 : (ByteArray.mk #[110]).size = 1 := rfl
                    have s4 : (ByteArray.mk #[119]).size = 1 := rfl
                    exact ⟨by unfold maxLen; simp only; omega, by unfold maxLen; simp only; omega⟩
                  · rw [List.mem_singleton] at hy
                    rw [hy]
                    exact unhide HTV)
              have HLn := hide (show (L' ++ [(([(⟨#[110]⟩ ++ B1, ⟨#[119]⟩ ++ B2)], [(T, V)]) : Row.E)]).length = k + 1 by rw [List.length_append, unhide HL]; rfl)
              have HSort := hide (Row.sort_any (unhide HDn) (unhide HLn) (by omega))
              have HBN := hide bN
              clear on gn an bN hsN HDn D1 D2 D7 HD HSX
              go_wp2_with fail
              refine (unhide HSort).mono ?_
              rintro e wq ⟨L2, rfl, hl2, hm2, hd2, gq⟩
              have HL2 := hide hl2
              have HD2 := hide hd2
              have HRG2 := hide (show RG L2 from ⟨by omega, fun x hx => unhide HG2 x (hm2 x hx)⟩)
              have HB2 := hide (below_grown (unhide HBN) (unhide HBN).size gq (fun j hj => by cases hj; exact hgg))
              clear HSort HG2 HLn hl2 hm2 hd2 gq
              go_wp2_with fail
              go_roundw
              case rel => exact ⟨k + 1, L2, gg, qn, by omega, rfl, HL2, HRG2, HD2, unhide HB2⟩
              case measure => simp [lenV]; omega
          · go_simp
            skip
            refine hK.out _ _ (by exact unhide HSX _ (by repeat (first | exact hb | apply Below.drew | refine Below.alloc ?_ (by first | omega | (simp; omega) | simp) _))) (fun hHeld => ?_)
            clear hK K
            refine Grl.one 4 rfl (by kernel_rfl) (fun K hK => ?_)
            go_simp
            go_wp2_with (refine (many_gen ⟨#[110]⟩ (by decide) m _ hm5).mono ?_; rintro e w' ⟨B1, rfl, hB1, rfl⟩; have hB1' : ¬ (9223372036854775807 < 1 + B1.size) := (by omega))
            refine hK.out _ _ (by exact unhide HSX _ (by repeat (first | exact hb | apply Below.drew | refine Below.alloc ?_ (by first | omega | (simp; omega) | simp) _))) (fun hHeld => ?_)
            clear hK K
            refine Grl.yes 5 (v := ?_) rfl (by kernel_rfl) (by kernel_rfl) (by kernel_rfl) (fun _ _ _ h => h) (by kernel_rfl) ?_ (by assumption) ?_
            rotate_left
            · (intro w hSw; (try dsimp only at hSw); go_simp; try with_reducible rfl)
            simp only [Act.put, List.setIfInBounds_toArray, List.set_cons_zero, List.set_cons_succ]
            refine Grl.one 9 rfl (by kernel_rfl) (fun K hK => ?_)
            go_simp
            go_wp2_with (refine (many_gen ⟨#[118]⟩ (by decide) jj _ hj5).mono ?_; rintro e w' ⟨B2, rfl, hB2, rfl⟩; have hB2' : ¬ (9223372036854775807 < 1 + B2.size) := (by omega))
            refine hK.out _ _ (by exact unhide HSX _ (by repeat (first | exact hb | apply Below.drew | refine Below.alloc ?_ (by first | omega | (simp; omega) | simp) _))) (fun hHeld => ?_)
            clear hK K
            refine Grl.yes 10 (v := ?_) rfl (by kernel_rfl) (by kernel_rfl) (by kernel_rfl) (fun _ _ _ h => h) (by kernel_rfl) ?_ (by assumption) ?_
            rotate_left
            · (intro w hSw; (try dsimp only at hSw); go_simp; try with_reducible rfl)
            simp only [Act.put, List.setIfInBounds_toArray, List.set_cons_zero, List.set_cons_succ]
            refine Grl.yes 11 (v := ?_) rfl (by kernel_rfl) (by kernel_rfl) (by kernel_rfl) (fun _ _ _ h => h) (by kernel_rfl) ?_ (by assumption) ?_
            rotate_left
            · (intro w hSw; (try dsimp only at hSw); go_simp; try with_reducible rfl)
            simp only [Act.put, List.setIfInBounds_toArray, List.set_cons_zero, List.set_cons_succ]
            refine Grl.one 12 rfl (by kernel_rfl) (fun K hK => ?_)
            go_simp
            skip
            refine hK.out _ _ (by exact unhide HSX _ (by repeat (first | exact hb | apply Below.drew | refine Below.alloc ?_ (by first | omega | (simp; omega) | simp) _))) (fun hHeld => ?_)
            clear hK K
            refine Grl.yes 15 (v := ?_) rfl (by kernel_rfl) (by kernel_rfl) (by kernel_rfl) (fun _ _ _ h => h) (by kernel_rfl) ?_ (by assumption) ?_
            rotate_left
            · (intro w hSw; (try dsimp only at hSw); go_simp; try with_reducible rfl)
            simp only [Act.put, List.setIfInBounds_toArray, List.set_cons_zero, List.set_cons_succ]
            refine Grl.one 16 rfl (by kernel_rfl) (fun K hK => ?_)
            go_simp
            skip
            refine hK.out _ _ (by exact unhide HSX _ (by repeat (first | exact hb | apply Below.drew | refine Below.alloc ?_ (by first | omega | (simp; omega) | simp) _))) (fun hHeld => ?_)
            clear hK K
            refine Grl.one 17 rfl (by kernel_rfl) (fun K hK => ?_)
            (refine app_step _ (by rfl) (.tmp 63) (.tmp 79) _ (by rfl) wU.heap.size 44 i0 _ 2 48 Try.underlying23 hi hz0 hz1 hz2 rfl (by omega) _ k _ (by rfl) (World.ownsRow.drew (World.ownsRow.alloc (World.ownsRow.alloc (World.ownsRow.alloc (unhide D2) _) _) _)) _ 1 _ (by rfl) (by first | exact lies_new (by simp) rfl hmx1 | exact lies_newD (by simp) rfl hmx1) (by simp [Value.oneCell']) (by unfold maxLen; omega) (by omega) (by first | omega | (simp; omega) | simp) ?_; intro vn wn on gn an; have bN : Below wU.heap.size wU wn := below_grown (Row.below3 _ _ _ hb zr) (Row.below3 _ _ _ hb zr).size gn (own_ge (unhide D2)); have on2 : wn.ownsRow wU.heap.size 44 2 vn (k + 1) (flatOf Row.cl cs ++ [.slice (some ⟨wr.heap.size + 1, 0, none⟩) 1 1, .slice (some ⟨wr.heap.size, 0, none⟩) 1 1]) := on; have HDn := hide (Row.fill_sl _ (unhide D1) (unhide HL) zr (unhide D2) (unhide D7) gn on2); have hsN := unhide HSX wn bN)
            refine hK.out _ _ (by exact hsN) (fun hHeld => ?_)
            clear hK K
            refine Grl.yes 18 (v := ?_) rfl (by kernel_rfl) (by kernel_rfl) (by kernel_rfl) (fun _ _ _ h => h) (by kernel_rfl) ?_ (by assumption) ?_
            rotate_left
            · (intro w hSw; (try dsimp only at hSw); go_simp; try with_reducible rfl)
            simp only [Act.put, List.setIfInBounds_toArray, List.set_cons_zero, List.set_cons_succ]
            refine wpAnyH_done (by kernel_rfl) ?_ _
            obtain ⟨av2, qn, rfl⟩ : ∃ a q, vn = .slice a (k + 1) q := by obtain ⟨-, a, q, e, -⟩ := lies_of_own on; exact ⟨a, q, e⟩
            obtain ⟨gg, rfl⟩ : ∃ g, av2 = some ⟨g, 0, none⟩ := by
              rcases on.2 with ⟨e, -⟩ | ⟨g, cap, cur, e, -⟩
              · cases e
              · simp only [Value.slice.injEq] at e; exact ⟨g, e.1⟩
            have hgg : wU.heap.size ≤ gg := own_ge on gg rfl
            have HG2 := hide (show ∀ x ∈ L' ++ [([(⟨#[110]⟩ ++ B1, ⟨#[119]⟩ ++ B2)], [(T, V)])], Row.good x ∧ x.1.length ≤ 20 ∧ x.2.length ≤ 1000 from fun x hx => by
              rw [List.mem_append, List.mem_singleton] at hx
              rcases hx with hx | hx
              · exact (unhide HG).2 x hx
              · subst hx
                refine ⟨⟨⟨by unfold maxLen; simp, fun y hy => ?_⟩, by unfold maxLen; simp, fun y hy => ?_⟩, by simp, by simp⟩
                · rw [List.mem_singleton] at hy
                  subst hy
                  have s1 := ByteArray.size_append (a := ⟨#[110]⟩) (b := B1)
                  have s2 := ByteArray.size_append (a := ⟨#[119]⟩) (b := B2)
                  have s3 : (ByteArray.mk #[110]).size = 1 := rfl
                  have s4 : (ByteArray.mk #[119]).size = 1 := rfl
                  exact ⟨by unfold maxLen; simp only; omega, by unfold maxLen; simp only; omega⟩
                · rw [List.mem_singleton] at hy
                  rw [hy]
                  exact unhide HTV)
            have HLn := hide (show (L' ++ [(([(⟨#[110]⟩ ++ B1, ⟨#[119]⟩ ++ B2)], [(T, V)]) : Row.E)]).length = k + 1 by rw [List.length_append, unhide HL]; rfl)
            have HSort := hide (Row.sort_any (unhide HDn) (unhide HLn) (by omega))
            have HBN := hide bN
            clear on gn an bN hsN HDn D1 D2 D7 HD HSX
            go_wp2_with fail
            refine (unhide HSort).mono ?_
            rintro e wq ⟨L2, rfl, hl2, hm2, hd2, gq⟩
            have HL2 := hide hl2
            have HD2 := hide hd2
            have HRG2 := hide (show RG L2 from ⟨by omega, fun x hx => unhide HG2 x (hm2 x hx)⟩)
            have HB2 := hide (below_grown (unhide HBN) (unhide HBN).size gq (fun j hj => by cases hj; exact hgg))
            clear HSort HG2 HLn hl2 hm2 hd2 gq
            go_wp2_with fail
            go_roundw
            case rel => exact ⟨k + 1, L2, gg, qn, by omega, rfl, HL2, HRG2, HD2, unhide HB2⟩
            case measure => simp [lenV]; omega
        · obtain rfl : k = 10 := by omega
          have HR2 := hide ((unhide HR).below hb)
          have HZ2 := hide (own_below (unhide HZ) hb)
          have HX2 := hide (own_below (unhide HX) hb)
          have HI := hide (Row.Dn.isF (unhide HD))
          have b2 := b0.trans (hb.mono b0.size)
          have hwr : rb < wr.heap.size := by omega
          have hBr2 : rb < wU.heap.size := hwU
          have HGG2 := hide (show L'.length ≤ 11 ∧ ∀ x ∈ L', Row.good x from ⟨(unhide HG).1, fun x hx => ((unhide HG).2 x hx).1⟩)
          clear HR HZ HX b0 HGG hBr
          have HR := HR2
          have HZ := HZ2
          have HX := HX2
          have b0 := b2
          have HGG := HGG2
          have hBr := hBr2
          clear HR2 HZ2 HX2 b2 HGG2 hBr2
          have gD : wr.grownBy wr.drew (some rb) := grown_below ((Below.refl _ _).drew)
          have zD : wr.drew.heap.size = wr.heap.size := by simp
          have HAL := hide (anylabels_any rb (p2 + 1 + 6 + 1) wr.drew (rd_drew (unhide HR)) (by omega))
          have HSX := hide (fun (X : World) (gx : wr.grownBy X (some rb)) => sbox_two (own_kept (unhide HX) gx (Nat.lt_succ_self rb)))
          have hsD : wr.drew.cell? ⟨xb, 0, none⟩ = some (.int .i64 T) ∧ wr.drew.cell? ⟨xb, 1, none⟩ = some (.int .i64 V) := ⟨(unhide HSX _ gD).1, (unhide HSX _ gD).2.1⟩
          have hxw : xb ≠ w.heap.size := by omega
          have hxl : xb < wr.heap.size := own_block_lt (unhide HX) xb rfl
          go_wp2_with fail
          refine Grl.start (S := fun X => X.cell? ⟨xb, 0, none⟩ = some (.int .i64 T) ∧ X.cell? ⟨xb, 1, none⟩ = some (.int .i64 V)) (by kernel_rfl) (by exact hsD) (fun hHeld => ?_)
          refine Grl.yes 0 (v := ?_) rfl (by kernel_rfl) (by kernel_rfl) (by kernel_rfl) (fun _ _ _ h => h) (by kernel_rfl) ?_ (by assumption) ?_
          rotate_left
          · (intro w hSw; (try dsimp only at hSw); go_simp; try with_reducible rfl)
          simp only [Act.put, List.setIfInBounds_toArray, List.set_cons_zero, List.set_cons_succ]
          refine Grl.yes 1 (v := ?_) rfl (by kernel_rfl) (by kernel_rfl) (by kernel_rfl) (fun _ _ _ h => h) (by kernel_rfl) ?_ (by assumption) ?_
          rotate_left
          · (intro w hSw; (try dsimp only at hSw); go_simp; try with_reducible rfl)
          simp only [Act.put, List.setIfInBounds_toArray, List.set_cons_zero, List.set_cons_succ]
          refine Grl.yes 3 (v := ?_) rfl (by kernel_rfl) (by kernel_rfl) (by kernel_rfl) (fun _ _ _ h => h) (by kernel_rfl) ?_ (by assumption) ?_
          rotate_left
          · (intro w hSw; (try dsimp only at hSw); go_simp; try with_reducible rfl)
          simp only [Act.put, List.setIfInBounds_toArray, List.set_cons_zero, List.set_cons_succ]
          refine Grl.one 2 rfl (by kernel_rfl) (fun K hK => ?_)
          go_simp
          go_wp2_with (refine (unhide HAL).mono ?_; rintro e w8 ⟨ls, lv, rfl, hl20, hsm, ol, ⟨p8, hp8, r8⟩, g8⟩; have q8 := grown_trans gD g8; obtain ⟨x0, x1, -, -⟩ := unhide HSX w8 q8; have hs8 : w8.cell? ⟨xb, 0, none⟩ = some (.int .i64 T) ∧ w8.cell? ⟨xb, 1, none⟩ = some (.int .i64 V) := ⟨x0, x1⟩; have oZ := sbox_kept (unhide HZ) q8 hne; obtain ⟨z0, z1, zf0, zf1⟩ := sbox_two oZ; obtain ⟨y1, yf1, oS, onS⟩ := sbox_put (.int .i64 T) (.int .i64 V) oZ; have hsS : ((w8.setCell ⟨w.heap.size, 0, none⟩ (.int .i64 T)).setCell ⟨w.heap.size, 1, none⟩ (.int .i64 V)).cell? ⟨xb, 0, none⟩ = some (.int .i64 T) ∧ ((w8.setCell ⟨w.heap.size, 0, none⟩ (.int .i64 T)).setCell ⟨w.heap.size, 1, none⟩ (.int .i64 V)).cell? ⟨xb, 1, none⟩ = some (.int .i64 V) := ⟨((World.cell?_of_block (a := ⟨xb, 0, none⟩) (onS.block xb hxw)).trans x0), ((World.cell?_of_block (a := ⟨xb, 1, none⟩) (onS.block xb hxw)).trans x1)⟩; obtain ⟨la, lq, rfl⟩ : ∃ a q, lv = .slice a ls.length q := (by obtain ⟨-, a, q, e, -⟩ := lies_of_own ol; exact ⟨a, q, e⟩))
          refine hK.out _ _ (by exact hs8) (fun hHeld => ?_)
          clear hK K
          refine Grl.yes 4 (v := ?_) rfl (by kernel_rfl) (by kernel_rfl) (by kernel_rfl) (fun _ _ _ h => h) (by kernel_rfl) ?_ (by assumption) ?_
          rotate_left
          · (intro w hSw; (try dsimp only at hSw); go_simp; try with_reducible rfl)
          simp only [Act.put, List.setIfInBounds_toArray, List.set_cons_zero, List.set_cons_succ]
          refine Grl.yes 5 (v := ?_) rfl (by kernel_rfl) (by kernel_rfl) (by kernel_rfl) (fun _ _ _ h => h) (by kernel_rfl) ?_ (by assumption) ?_
          rotate_left
          · (intro w hSw; (try dsimp only at hSw); go_simp; try with_reducible rfl)
          simp only [Act.put, List.setIfInBounds_toArray, List.set_cons_zero, List.set_cons_succ]
          refine Grl.one 6 rfl (by kernel_rfl) (fun K hK => ?_)
          go_simp
          skip
          refine hK.out _ _ (by exact hsS) (fun hHeld => ?_)
          clear hK K
          refine wpAnyH_done (by kernel_rfl) ?_ _
          obtain ⟨e0, e1, -, -⟩ := sbox_two oS
          have HRy := hide ((((unhide HI).grown q8 hBr).only onS (by omega)).is)
          have HLb := hide (Lab.is_of_own (onS.own ol (fun j hj => by have := own_ge ol j hj; omega)))
          have by9 := hide ((b0.trans (below_of_grown q8 (show w.heap.size ≤ rb by omega) b0.size)).trans (onS.below (Nat.le_refl _)))
          clear HI HAL HSX HX HZ HR oS onS ol
          go_wp2_with fail
          refine bodyPost_ret (v := .tuple #[.slice (some ⟨g, 0, none⟩) 10 q, .slice la ls.length lq, .agg #[.int .i64 T, .int .i64 V]]) (by simp [results, Try.results4, go_sem, e0, e1]) rfl ?_
          exact ⟨L', ls, T, V, _, _, rfl, unhide HGG, ⟨hl20, fun y hy => good_smallL (hsm y hy)⟩, unhide HTV, unhide HRy, unhide HLb, unhide by9⟩
    · have hd' : decide (d = 0) = false := by simpa using hd
      have gD : wU.grownBy wU.drew (some rb) := grown_below ((Below.refl _ _).drew)
      have zD : wU.drew.heap.size = wU.heap.size := by simp
      have HAL := hide (anylabels_any rb (p2 + 1 + 6 + 1) wU.drew (rd_drew (unhide HR)) (by omega))
      have HSX := hide (fun (X : World) (gx : wU.grownBy X (some rb)) => sbox_two (own_kept (unhide HX) gx (Nat.lt_succ_self rb)))
      have hsD : wU.drew.cell? ⟨xb, 0, none⟩ = some (.int .i64 T) ∧ wU.drew.cell? ⟨xb, 1, none⟩ = some (.int .i64 V) := ⟨(unhide HSX _ gD).1, (unhide HSX _ gD).2.1⟩
      have hxw : xb ≠ w.heap.size := by omega
      have hxl : xb < wU.heap.size := own_block_lt (unhide HX) xb rfl
      go_wp2_with fail
      refine Grl.start (S := fun X => X.cell? ⟨xb, 0, none⟩ = some (.int .i64 T) ∧ X.cell? ⟨xb, 1, none⟩ = some (.int .i64 V)) (by kernel_rfl) (by exact hsD) (fun hHeld => ?_)
      refine Grl.yes 0 (v := ?_) rfl (by kernel_rfl) (by kernel_rfl) (by kernel_rfl) (fun _ _ _ h => h) (by kernel_rfl) ?_ (by assumption) ?_
      rotate_left
      · (intro w hSw; (try dsimp only at hSw); go_simp; try with_reducible rfl)
      simp only [Act.put, List.setIfInBounds_toArray, List.set_cons_zero, List.set_cons_succ]
      refine Grl.yes 1 (v := ?_) rfl (by kernel_rfl) (by kernel_rfl) (by kernel_rfl) (fun _ _ _ h => h) (by kernel_rfl) ?_ (by assumption) ?_
      rotate_left
      · (intro w hSw; (try dsimp only at hSw); go_simp; try with_reducible rfl)
      simp only [Act.put, List.setIfInBounds_toArray, List.set_cons_zero, List.set_cons_succ]
      refine Grl.yes 3 (v := ?_) rfl (by kernel_rfl) (by kernel_rfl) (by kernel_rfl) (fun _ _ _ h => h) (by kernel_rfl) ?_ (by assumption) ?_
      rotate_left
      · (intro w hSw; (try dsimp only at hSw); go_simp; try with_reducible rfl)
      simp only [Act.put, List.setIfInBounds_toArray, List.set_cons_zero, List.set_cons_succ]
      refine Grl.one 2 rfl (by kernel_rfl) (fun K hK => ?_)
      go_simp
      go_wp2_with (refine (unhide HAL).mono ?_; rintro e w8 ⟨ls, lv, rfl, hl20, hsm, ol, ⟨p8, hp8, r8⟩, g8⟩; have q8 := grown_trans gD g8; obtain ⟨x0, x1, -, -⟩ := unhide HSX w8 q8; have hs8 : w8.cell? ⟨xb, 0, none⟩ = some (.int .i64 T) ∧ w8.cell? ⟨xb, 1, none⟩ = some (.int .i64 V) := ⟨x0, x1⟩; have oZ := sbox_kept (unhide HZ) q8 hne; obtain ⟨z0, z1, zf0, zf1⟩ := sbox_two oZ; obtain ⟨y1, yf1, oS, onS⟩ := sbox_put (.int .i64 T) (.int .i64 V) oZ; have hsS : ((w8.setCell ⟨w.heap.size, 0, none⟩ (.int .i64 T)).setCell ⟨w.heap.size, 1, none⟩ (.int .i64 V)).cell? ⟨xb, 0, none⟩ = some (.int .i64 T) ∧ ((w8.setCell ⟨w.heap.size, 0, none⟩ (.int .i64 T)).setCell ⟨w.heap.size, 1, none⟩ (.int .i64 V)).cell? ⟨xb, 1, none⟩ = some (.int .i64 V) := ⟨((World.cell?_of_block (a := ⟨xb, 0, none⟩) (onS.block xb hxw)).trans x0), ((World.cell?_of_block (a := ⟨xb, 1, none⟩) (onS.block xb hxw)).trans x1)⟩; obtain ⟨la, lq, rfl⟩ : ∃ a q, lv = .slice a ls.length q := (by obtain ⟨-, a, q, e, -⟩ := lies_of_own ol; exact ⟨a, q, e⟩))
      refine hK.out _ _ (by exact hs8) (fun hHeld => ?_)
      clear hK K
      refine Grl.yes 4 (v := ?_) rfl (by kernel_rfl) (by kernel_rfl) (by kernel_rfl) (fun _ _ _ h => h) (by kernel_rfl) ?_ (by assumption) ?_
      rotate_left
      · (intro w hSw; (try dsimp only at hSw); go_simp; try with_reducible rfl)
      simp only [Act.put, List.setIfInBounds_toArray, List.set_cons_zero, List.set_cons_succ]
      refine Grl.yes 5 (v := ?_) rfl (by kernel_rfl) (by kernel_rfl) (by kernel_rfl) (fun _ _ _ h => h) (by kernel_rfl) ?_ (by assumption) ?_
      rotate_left
      · (intro w hSw; (try dsimp only at hSw); go_simp; try with_reducible rfl)
      simp only [Act.put, List.setIfInBounds_toArray, List.set_cons_zero, List.set_cons_succ]
      refine Grl.one 6 rfl (by kernel_rfl) (fun K hK => ?_)
      go_simp
      skip
      refine hK.out _ _ (by exact hsS) (fun hHeld => ?_)
      clear hK K
      refine wpAnyH_done (by kernel_rfl) ?_ _
      obtain ⟨e0, e1, -, -⟩ := sbox_two oS
      have HRy := hide ((((unhide HI).grown q8 hBr).only onS (by omega)).is)
      have HLb := hide (Lab.is_of_own (onS.own ol (fun j hj => by have := own_ge ol j hj; omega)))
      have by9 := hide ((b0.trans (below_of_grown q8 (show w.heap.size ≤ rb by omega) b0.size)).trans (onS.below (Nat.le_refl _)))
      clear HI HAL HSX HX HZ HR oS onS ol
      go_wp2_with fail
      refine bodyPost_ret (v := .tuple #[.slice av 0 qv, .slice la ls.length lq, .agg #[.int .i64 T, .int .i64 V]]) (by simp [results, Try.results4, go_sem, e0, e1]) rfl ?_
      exact ⟨L, ls, T, V, _, _, rfl, unhide HGG, ⟨hl20, fun y hy => good_smallL (hsm y hy)⟩, unhide HTV, unhide HRy, unhide HLb, unhide by9⟩
  · have hnp : 0 < n + 1 := by omega
    have hnp' : (0 : Int) < (n : Int) + 1 := by omega
    go_wp2_with fail

    rw [← hxb]
    clear hw5 hxb
    refine (pick_any rb (p2 + 1 + 6) _ _ (unhide HR) (by omega) (by omega)).mono ?_
    rintro e w6 ⟨c, rfl, c0, c1', -, r6, g6⟩
    have HR6 := hide r6
    have HZ6 := hide (sbox_kept (unhide HZ) g6 hne)
    have HX6 := hide (own_kept (unhide HX) g6 (Nat.lt_succ_self rb))
    have HI6 := hide ((unhide HI).grown g6 hBr)
    have b6 := b0.trans (below_of_grown g6 (show w.heap.size ≤ rb by omega) b0.size)
    have hw6 : rb < w6.heap.size := r6.lt
    have G6 := grown_trans G5 g6
    clear HR HZ HX HI b0 g6 r6
    have HR := HR6
    have HZ := HZ6
    have HX := HX6
    have HI := HI6
    have b0 := b6
    clear HR6 HZ6 HX6 HI6 b6
    by_cases hc : c = 0
    · subst hc
      go_wp2_with fail
      refine (pick_any rb (p2 + 1 + 6 + 1) _ _ (unhide HR) (by omega) (by omega)).mono ?_
      rintro e w7 ⟨kk, rfl, k0, k1, -, r7, g7⟩
      have k2 : kk < ((n + 1 : Nat) : Int) := k1 (by omega)
      obtain ⟨k, rfl⟩ := Int.eq_ofNat_of_zero_le k0
      have hk : k < n + 1 := by omega
      have hki : (k : Int) < (n : Int) + 1 := by omega
      have hk0 : (0 : Int) ≤ (k : Int) := Int.natCast_nonneg _
      have HZ7 := hide (sbox_kept (unhide HZ) g7 hne)
      have HX7 := hide (own_kept (unhide HX) g7 (Nat.lt_succ_self rb))
      have HI7 := hide ((unhide HI).grown g7 hBr)
      have b7 := b0.trans (below_of_grown g7 (show w.heap.size ≤ rb by omega) b0.size)
      have HR7 := hide r7
      have G7 := grown_trans G6 g7
      clear HR HZ HX HI b0 g7 r7 k1 k2
      have HZ := HZ7
      have HX := HX7
      have HI := HI7
      have b0 := b7
      have HR := HR7
      clear HZ7 HX7 HI7 b7 HR7
      obtain ⟨b, off, a0, l0, q0, a1, l1, q1, rfl, hb4, hbB, hnq, ub4, ub5, HLn, HE4, HF⟩ := (unhide HF4).at (unhide HN) (k := k) (by have := unhide HN; omega)
      have hbr : b ≠ rb := by omega
      have nf : ∀ {u : Value}, (∀ j, u.ownBlock = some j → w1.heap.size ≤ j) → ∀ j, u.ownBlock = some j → some rb ≠ some j := fun hu j hj e => by have := hu j hj; have := Option.some.inj e; omega
      have ub0 := (grown_cell (o := off + k * 2) G7 hb4 hbr).trans ub4
      have ub1 := (grown_cell (o := off + k * 2 + 1) G7 hb4 hbr).trans ub5
      have HE := hide (And.intro ((unhide HE4).1.grown G7 (nf (unhide HF).1)) ((unhide HE4).2.grown G7 (nf (unhide HF).2)))
      have HLk := hide (show (Row.at' L k).1.length ≤ 20 ∧ ∀ y ∈ (Row.at' L k).1, Lab.good y from ⟨(rg_at (unhide HRG) (by have := unhide HN; omega)).2.1, (rg_at (unhide HRG) (k := k) (by have := unhide HN; omega)).1.1.2⟩)
      rcases l1 with _ | l1
      · skip
        have gD : w7.grownBy w7.drew (some rb) := grown_below ((Below.refl _ _).drew)
        have hxw : xb ≠ w.heap.size := by omega
        have hbw : b ≠ w.heap.size := by omega
        obtain ⟨x0, x1, -, -⟩ := sbox_two (own_kept (unhide HX) gD (Nat.lt_succ_self rb))
        have hsD : w7.drew.cell? ⟨b, off + k * 2, none⟩ = some (.slice a0 l0 q0) ∧ w7.drew.cell? ⟨xb, 0, none⟩ = some (.int .i64 T) ∧ w7.drew.cell? ⟨xb, 1, none⟩ = some (.int .i64 V) := ⟨ub0, x0, x1⟩
        have oZ := sbox_kept (unhide HZ) gD hne
        obtain ⟨z0, z1, zf0, zf1⟩ := sbox_two (unhide HZ)
        obtain ⟨y1, yf1, oS, onS⟩ := sbox_put (.int .i64 T) (.int .i64 V) oZ
        have hsS : ((w7.drew.setCell ⟨w.heap.size, 0, none⟩ (.int .i64 T)).setCell ⟨w.heap.size, 1, none⟩ (.int .i64 V)).cell? ⟨b, off + k * 2, none⟩ = some (.slice a0 l0 q0) ∧ ((w7.drew.setCell ⟨w.heap.size, 0, none⟩ (.int .i64 T)).setCell ⟨w.heap.size, 1, none⟩ (.int .i64 V)).cell? ⟨xb, 0, none⟩ = some (.int .i64 T) ∧ ((w7.drew.setCell ⟨w.heap.size, 0, none⟩ (.int .i64 T)).setCell ⟨w.heap.size, 1, none⟩ (.int .i64 V)).cell? ⟨xb, 1, none⟩ = some (.int .i64 V) := ⟨(World.cell?_of_block (a := ⟨b, off + k * 2, none⟩) (onS.block b hbw)).trans ub0, (World.cell?_of_block (a := ⟨xb, 0, none⟩) (onS.block xb hxw)).trans x0, (World.cell?_of_block (a := ⟨xb, 1, none⟩) (onS.block xb hxw)).trans x1⟩
        go_wp2_with fail
        refine Grl.start (S := fun X => X.cell? ⟨b, off + k * 2, none⟩ = some (.slice a0 l0 q0) ∧ X.cell? ⟨xb, 0, none⟩ = some (.int .i64 T) ∧ X.cell? ⟨xb, 1, none⟩ = some (.int .i64 V)) (by kernel_rfl) (by exact hsD) (fun hHeld => ?_)
        refine Grl.yes 0 (v := ?_) rfl (by kernel_rfl) (by kernel_rfl) (by kernel_rfl) (fun _ _ _ h => h) (by kernel_rfl) ?_ (by assumption) ?_
        rotate_left
        · (intro w hSw; (try dsimp only at hSw); go_simp; try with_reducible rfl)
        simp only [Act.put, List.setIfInBounds_toArray, List.set_cons_zero, List.set_cons_succ]
        refine Grl.yes 1 (v := ?_) rfl (by kernel_rfl) (by kernel_rfl) (by kernel_rfl) (fun _ _ _ h => h) (by kernel_rfl) ?_ (by assumption) ?_
        rotate_left
        · (intro w hSw; (try dsimp only at hSw); go_simp; try with_reducible rfl)
        simp only [Act.put, List.setIfInBounds_toArray, List.set_cons_zero, List.set_cons_succ]
        refine Grl.yes 2 (v := ?_) rfl (by kernel_rfl) (by kernel_rfl) (by kernel_rfl) (fun _ _ _ h => h) (by kernel_rfl) ?_ (by assumption) ?_
        rotate_left
        · (intro w hSw; (try dsimp only at hSw); go_simp; try with_reducible rfl)
        simp only [Act.put, List.setIfInBounds_toArray, List.set_cons_zero, List.set_cons_succ]
        refine Grl.yes 3 (v := ?_) rfl (by kernel_rfl) (by kernel_rfl) (by kernel_rfl) (fun _ _ _ h => h) (by kernel_rfl) ?_ (by assumption) ?_
        rotate_left
        · (intro w hSw; (try dsimp only at hSw); go_simp; try with_reducible rfl)
        simp only [Act.put, List.setIfInBounds_toArray, List.set_cons_zero, List.set_cons_succ]
        refine Grl.yes 4 (v := ?_) rfl (by kernel_rfl) (by kernel_rfl) (by kernel_rfl) (fun _ _ _ h => h) (by kernel_rfl) ?_ (by assumption) ?_
        rotate_left
        · (intro w hSw; (try dsimp only at hSw); go_simp; try with_reducible rfl)
        simp only [Act.put, List.setIfInBounds_toArray, List.set_cons_zero, List.set_cons_succ]
        refine Grl.yes 5 (v := ?_) rfl (by kernel_rfl) (by kernel_rfl) (by kernel_rfl) (fun _ _ _ h => h) (by kernel_rfl) ?_ (by assumption) ?_
        rotate_left
        · (intro w hSw; (try dsimp only at hSw); go_simp; try with_reducible rfl)
        simp only [Act.put, List.setIfInBounds_toArray, List.set_cons_zero, List.set_cons_succ]
        refine Grl.yes 6 (v := ?_) rfl (by kernel_rfl) (by kernel_rfl) (by kernel_rfl) (fun _ _ _ h => h) (by kernel_rfl) ?_ (by assumption) ?_
        rotate_left
        · (intro w hSw; (try dsimp only at hSw); go_simp; try with_reducible rfl)
        simp only [Act.put, List.setIfInBounds_toArray, List.set_cons_zero, List.set_cons_succ]
        refine Grl.yes 7 (v := ?_) rfl (by kernel_rfl) (by kernel_rfl) (by kernel_rfl) (fun _ _ _ h => h) (by kernel_rfl) ?_ (by assumption) ?_
        rotate_left
        · (intro w hSw; (try dsimp only at hSw); go_simp; try with_reducible rfl)
        simp only [Act.put, List.setIfInBounds_toArray, List.set_cons_zero, List.set_cons_succ]
        refine Grl.yes 8 (v := ?_) rfl (by kernel_rfl) (by kernel_rfl) (by kernel_rfl) (fun _ _ _ h => h) (by kernel_rfl) ?_ (by assumption) ?_
        rotate_left
        · (intro w hSw; (try dsimp only at hSw); go_simp; try with_reducible rfl)
        simp only [Act.put, List.setIfInBounds_toArray, List.set_cons_zero, List.set_cons_succ]
        refine Grl.one 9 rfl (by kernel_rfl) (fun K hK => ?_)
        go_simp
        skip
        refine hK.out _ _ (by exact hsS) (fun hHeld => ?_)
        clear hK K
        refine wpAnyH_done (by kernel_rfl) ?_ _
        obtain ⟨-, -, oS', -⟩ := sbox_put (.int .i64 T) (.int .i64 V) (unhide HZ)
        obtain ⟨e0, e1, -, -⟩ := sbox_two oS'
        have f0 : (w7.setCell ⟨w.heap.size, 0, none⟩ (.int .i64 T)).cell? ⟨w.heap.size, 0, none⟩ = some (.int .i64 T) := (sbox_two (show SB w.heap.size (w7.setCell ⟨w.heap.size, 0, none⟩ (.int .i64 T)) w.heap.size (.int .i64 T) (.int .i64 0) from ((unhide HZ).stored 0 (.int .i64 T)).1)).1
        clear oS'
        have HRy := hide ((((unhide HI).grown gD hBr).only onS (by omega)).is)
        have HLb := hide (onS.lies (((unhide HE).1).grown gD (fun j hj e => by have := (unhide HF).1 j hj; have := Option.some.inj e; omega)) (fun j hj => by have := (unhide HF).1 j hj; omega))
        have by9 := hide ((b0.trans (below_of_grown gD (show w.heap.size ≤ rb by omega) b0.size)).trans (onS.below (Nat.le_refl _)))
        clear HI HX HZ oS onS
        go_wp2_with fail
        refine bodyPost_ret (v := .tuple #[.slice (some ⟨b, off, none⟩) (n + 1) qv, .slice a0 l0 q0, .agg #[.int .i64 T, .int .i64 V]]) (by simp [results, Try.results4, go_sem, e0, e1, f0]) rfl ?_
        exact ⟨L, _, T, V, _, _, rfl, unhide HGG, unhide HLk, unhide HTV, unhide HRy, unhide HLb, unhide by9⟩
      · have hl0 : 0 < l1 + 1 := by omega
        have hl0' : (0 : Int) < (l1 : Int) + 1 := by omega
        go_wp2_with fail
        refine (pick_any rb (p2 + 1 + 6 + 1 + 1) _ _ (unhide HR) (by omega) (by omega)).mono ?_
        rintro e w8 ⟨d, rfl, d0, d1, -, r8, g8⟩
        have HZ8 := hide (sbox_kept (unhide HZ) g8 hne)
        have HX8 := hide (own_kept (unhide HX) g8 (Nat.lt_succ_self rb))
        have HI8 := hide ((unhide HI).grown g8 hBr)
        have G8 := grown_trans G7 g8
        have vb0 := (grown_cell (o := off + k * 2) G8 hb4 hbr).trans ub4
        have vb1 := (grown_cell (o := off + k * 2 + 1) G8 hb4 hbr).trans ub5
        have HE8 := hide (And.intro ((unhide HE4).1.grown G8 (nf (unhide HF).1)) ((unhide HE4).2.grown G8 (nf (unhide HF).2)))
        have b8 := b0.trans (below_of_grown g8 (show w.heap.size ≤ rb by omega) b0.size)
        have zw8 := g8.size
        clear HR HZ HX HI b0 g8 r8 ub0 ub1 HE d1
        have HZ := HZ8
        have HX := HX8
        have HI := HI8
        have b0 := b8
        have HE := HE8
        have ub0 := vb0
        clear HZ8 HX8 HI8 b8 HE8
        by_cases hd : d = 0
        · subst hd
          obtain ⟨b1, o1, T', V', rfl, hs1, s0, s1, hmem⟩ := sam_first (unhide HE).2 (unhide HLn).2 (Nat.succ_pos _)
          obtain ⟨x0, x1, xf0, xf1⟩ := sbox_two (unhide HX)
          obtain ⟨y1, yf1, oX, onX⟩ := sbox_put (.int .i64 T') (.int .i64 V') (unhide HX)
          obtain ⟨w9, hw9⟩ : ∃ X, ((w8.setCell ⟨xb, 0, none⟩ (.int .i64 T')).setCell ⟨xb, 1, none⟩ (.int .i64 V')) = X := ⟨_, rfl⟩
          rw [hw9] at oX onX
          have G9 := grown_other G8 (grown_only onX) (fun j hj => by cases hj; omega)
          have tb0 := (grown_cell (o := off + k * 2) G9 hb4 hbr).trans ub4
          have HE9 := hide (And.intro ((unhide HE4).1.grown G9 (nf (unhide HF).1)) ((unhide HE4).2.grown G9 (nf (unhide HF).2)))
          have HI9 := hide ((unhide HF4).grown G9 hBr)
          have HZ9 := hide (sbox_only (unhide HZ) onX (by omega))
          have b9 := b0.trans (onX.below (show w.heap.size ≤ xb by omega))
          have HTV9 := hide ((rg_at (unhide HRG) (k := k) (by have := unhide HN; omega)).1.2.2 _ hmem)
          have hx9 := hide oX
          have hub1 := vb1
          go_wp2_with fail
          clear HZ HX HI HE b0 HTV ub0 s0 s1 x0 x1 xf0 xf1 y1 yf1 oX onX vb1 hub1
          have HZ := HZ9
          have HX := hx9
          have HI := HI9
          have HE := HE9
          have b0 := b9
          have HTV := HTV9
          have ub0 := tb0
          clear HZ9 hx9 HI9 HE9 b9 HTV9 tb0
          have gD : w9.grownBy w9.drew (some rb) := grown_below ((Below.refl _ _).drew)
          have hxw : xb ≠ w.heap.size := by omega
          have hbw : b ≠ w.heap.size := by omega
          obtain ⟨x0, x1, -, -⟩ := sbox_two (own_kept (unhide HX) gD (Nat.lt_succ_self rb))
          have hsD : w9.drew.cell? ⟨b, off + k * 2, none⟩ = some (.slice a0 l0 q0) ∧ w9.drew.cell? ⟨xb, 0, none⟩ = some (.int .i64 T') ∧ w9.drew.cell? ⟨xb, 1, none⟩ = some (.int .i64 V') := ⟨ub0, x0, x1⟩
          have oZ := sbox_kept (unhide HZ) gD hne
          obtain ⟨z0, z1, zf0, zf1⟩ := sbox_two (unhide HZ)
          obtain ⟨y1, yf1, oS, onS⟩ := sbox_put (.int .i64 T') (.int .i64 V') oZ
          have hsS : ((w9.drew.setCell ⟨w.heap.size, 0, none⟩ (.int .i64 T')).setCell ⟨w.heap.size, 1, none⟩ (.int .i64 V')).cell? ⟨b, off + k * 2, none⟩ = some (.slice a0 l0 q0) ∧ ((w9.drew.setCell ⟨w.heap.size, 0, none⟩ (.int .i64 T')).setCell ⟨w.heap.size, 1, none⟩ (.int .i64 V')).cell? ⟨xb, 0, none⟩ = some (.int .i64 T') ∧ ((w9.drew.setCell ⟨w.heap.size, 0, none⟩ (.int .i64 T')).setCell ⟨w.heap.size, 1, none⟩ (.int .i64 V')).cell? ⟨xb, 1, none⟩ = some (.int .i64 V') := ⟨(World.cell?_of_block (a := ⟨b, off + k * 2, none⟩) (onS.block b hbw)).trans ub0, (World.cell?_of_block (a := ⟨xb, 0, none⟩) (onS.block xb hxw)).trans x0, (World.cell?_of_block (a := ⟨xb, 1, none⟩) (onS.block xb hxw)).trans x1⟩
          go_wp2_with fail
          refine Grl.start (S := fun X => X.cell? ⟨b, off + k * 2, none⟩ = some (.slice a0 l0 q0) ∧ X.cell? ⟨xb, 0, none⟩ = some (.int .i64 T') ∧ X.cell? ⟨xb, 1, none⟩ = some (.int .i64 V')) (by kernel_rfl) (by exact hsD) (fun hHeld => ?_)
          refine Grl.yes 0 (v := ?_) rfl (by kernel_rfl) (by kernel_rfl) (by kernel_rfl) (fun _ _ _ h => h) (by kernel_rfl) ?_ (by assumption) ?_
          rotate_left
          · (intro w hSw; (try dsimp only at hSw); go_simp; try with_reducible rfl)
          simp only [Act.put, List.setIfInBounds_toArray, List.set_cons_zero, List.set_cons_succ]
          refine Grl.yes 1 (v := ?_) rfl (by kernel_rfl) (by kernel_rfl) (by kernel_rfl) (fun _ _ _ h => h) (by kernel_rfl) ?_ (by assumption) ?_
          rotate_left
          · (intro w hSw; (try dsimp only at hSw); go_simp; try with_reducible rfl)
          simp only [Act.put, List.setIfInBounds_toArray, List.set_cons_zero, List.set_cons_succ]
          refine Grl.yes 2 (v := ?_) rfl (by kernel_rfl) (by kernel_rfl) (by kernel_rfl) (fun _ _ _ h => h) (by kernel_rfl) ?_ (by assumption) ?_
          rotate_left
          · (intro w hSw; (try dsimp only at hSw); go_simp; try with_reducible rfl)
          simp only [Act.put, List.setIfInBounds_toArray, List.set_cons_zero, List.set_cons_succ]
          refine Grl.yes 3 (v := ?_) rfl (by kernel_rfl) (by kernel_rfl) (by kernel_rfl) (fun _ _ _ h => h) (by kernel_rfl) ?_ (by assumption) ?_
          rotate_left
          · (intro w hSw; (try dsimp only at hSw); go_simp; try with_reducible rfl)
          simp only [Act.put, List.setIfInBounds_toArray, List.set_cons_zero, List.set_cons_succ]
          refine Grl.yes 4 (v := ?_) rfl (by kernel_rfl) (by kernel_rfl) (by kernel_rfl) (fun _ _ _ h => h) (by kernel_rfl) ?_ (by assumption) ?_
          rotate_left
          · (intro w hSw; (try dsimp only at hSw); go_simp; try with_reducible rfl)
          simp only [Act.put, List.setIfInBounds_toArray, List.set_cons_zero, List.set_cons_succ]
          refine Grl.yes 5 (v := ?_) rfl (by kernel_rfl) (by kernel_rfl) (by kernel_rfl) (fun _ _ _ h => h) (by kernel_rfl) ?_ (by assumption) ?_
          rotate_left
          · (intro w hSw; (try dsimp only at hSw); go_simp; try with_reducible rfl)
          simp only [Act.put, List.setIfInBounds_toArray, List.set_cons_zero, List.set_cons_succ]
          refine Grl.yes 6 (v := ?_) rfl (by kernel_rfl) (by kernel_rfl) (by kernel_rfl) (fun _ _ _ h => h) (by kernel_rfl) ?_ (by assumption) ?_
          rotate_left
          · (intro w hSw; (try dsimp only at hSw); go_simp; try with_reducible rfl)
          simp only [Act.put, List.setIfInBounds_toArray, List.set_cons_zero, List.set_cons_succ]
          refine Grl.yes 7 (v := ?_) rfl (by kernel_rfl) (by kernel_rfl) (by kernel_rfl) (fun _ _ _ h => h) (by kernel_rfl) ?_ (by assumption) ?_
          rotate_left
          · (intro w hSw; (try dsimp only at hSw); go_simp; try with_reducible rfl)
          simp only [Act.put, List.setIfInBounds_toArray, List.set_cons_zero, List.set_cons_succ]
          refine Grl.yes 8 (v := ?_) rfl (by kernel_rfl) (by kernel_rfl) (by kernel_rfl) (fun _ _ _ h => h) (by kernel_rfl) ?_ (by assumption) ?_
          rotate_left
          · (intro w hSw; (try dsimp only at hSw); go_simp; try with_reducible rfl)
          simp only [Act.put, List.setIfInBounds_toArray, List.set_cons_zero, List.set_cons_succ]
          refine Grl.one 9 rfl (by kernel_rfl) (fun K hK => ?_)
          go_simp
          skip
          refine hK.out _ _ (by exact hsS) (fun hHeld => ?_)
          clear hK K
          refine wpAnyH_done (by kernel_rfl) ?_ _
          obtain ⟨-, -, oS', -⟩ := sbox_put (.int .i64 T') (.int .i64 V') (unhide HZ)
          obtain ⟨e0, e1, -, -⟩ := sbox_two oS'
          have f0 : (w9.setCell ⟨w.heap.size, 0, none⟩ (.int .i64 T')).cell? ⟨w.heap.size, 0, none⟩ = some (.int .i64 T') := (sbox_two (show SB w.heap.size (w9.setCell ⟨w.heap.size, 0, none⟩ (.int .i64 T')) w.heap.size (.int .i64 T') (.int .i64 0) from ((unhide HZ).stored 0 (.int .i64 T')).1)).1
          clear oS'
          have HRy := hide ((((unhide HI).grown gD hBr).only onS (by omega)).is)
          have HLb := hide (onS.lies (((unhide HE).1).grown gD (fun j hj e => by have := (unhide HF).1 j hj; have := Option.some.inj e; omega)) (fun j hj => by have := (unhide HF).1 j hj; omega))
          have by9 := hide ((b0.trans (below_of_grown gD (show w.heap.size ≤ rb by omega) b0.size)).trans (onS.below (Nat.le_refl _)))
          clear HI HX HZ oS onS
          go_wp2_with fail
          refine bodyPost_ret (v := .tuple #[.slice (some ⟨b, off, none⟩) (n + 1) qv, .slice a0 l0 q0, .agg #[.int .i64 T', .int .i64 V']]) (by simp [results, Try.results4, go_sem, e0, e1, f0]) rfl ?_
          exact ⟨L, _, T', V', _, _, rfl, unhide HGG, unhide HLk, unhide HTV, unhide HRy, unhide HLb, unhide by9⟩
        · have hd' : decide (d = 0) = false := by simpa using hd
          have gD : w8.grownBy w8.drew (some rb) := grown_below ((Below.refl _ _).drew)
          have hxw : xb ≠ w.heap.size := by omega
          have hbw : b ≠ w.heap.size := by omega
          obtain ⟨x0, x1, -, -⟩ := sbox_two (own_kept (unhide HX) gD (Nat.lt_succ_self rb))
          have hsD : w8.drew.cell? ⟨b, off + k * 2, none⟩ = some (.slice a0 l0 q0) ∧ w8.drew.cell? ⟨xb, 0, none⟩ = some (.int .i64 T) ∧ w8.drew.cell? ⟨xb, 1, none⟩ = some (.int .i64 V) := ⟨ub0, x0, x1⟩
          have oZ := sbox_kept (unhide HZ) gD hne
          obtain ⟨z0, z1, zf0, zf1⟩ := sbox_two (unhide HZ)
          obtain ⟨y1, yf1, oS, onS⟩ := sbox_put (.int .i64 T) (.int .i64 V) oZ
          have hsS : ((w8.drew.setCell ⟨w.heap.size, 0, none⟩ (.int .i64 T)).setCell ⟨w.heap.size, 1, none⟩ (.int .i64 V)).cell? ⟨b, off + k * 2, none⟩ = some (.slice a0 l0 q0) ∧ ((w8.drew.setCell ⟨w.heap.size, 0, none⟩ (.int .i64 T)).setCell ⟨w.heap.size, 1, none⟩ (.int .i64 V)).cell? ⟨xb, 0, none⟩ = some (.int .i64 T) ∧ ((w8.drew.setCell ⟨w.heap.size, 0, none⟩ (.int .i64 T)).setCell ⟨w.heap.size, 1, none⟩ (.int .i64 V)).cell? ⟨xb, 1, none⟩ = some (.int .i64 V) := ⟨(World.cell?_of_block (a := ⟨b, off + k * 2, none⟩) (onS.block b hbw)).trans ub0, (World.cell?_of_block (a := ⟨xb, 0, none⟩) (onS.block xb hxw)).trans x0, (World.cell?_of_block (a := ⟨xb, 1, none⟩) (onS.block xb hxw)).trans x1⟩
          go_wp2_with fail
          refine Grl.start (S := fun X => X.cell? ⟨b, off + k * 2, none⟩ = some (.slice a0 l0 q0) ∧ X.cell? ⟨xb, 0, none⟩ = some (.int .i64 T) ∧ X.cell? ⟨xb, 1, none⟩ = some (.int .i64 V)) (by kernel_rfl) (by exact hsD) (fun hHeld => ?_)
          refine Grl.yes 0 (v := ?_) rfl (by kernel_rfl) (by kernel_rfl) (by kernel_rfl) (fun _ _ _ h => h) (by kernel_rfl) ?_ (by assumption) ?_
          rotate_left
          · (intro w hSw; (try dsimp only at hSw); go_simp; try with_reducible rfl)
          simp only [Act.put, List.setIfInBounds_toArray, List.set_cons_zero, List.set_cons_succ]
          refine Grl.yes 1 (v := ?_) rfl (by kernel_rfl) (by kernel_rfl) (by kernel_rfl) (fun _ _ _ h => h) (by kernel_rfl) ?_ (by assumption) ?_
          rotate_left
          · (intro w hSw; (try dsimp only at hSw); go_simp; try with_reducible rfl)
          simp only [Act.put, List.setIfInBounds_toArray, List.set_cons_zero, List.set_cons_succ]
          refine Grl.yes 2 (v := ?_) rfl (by kernel_rfl) (by kernel_rfl) (by kernel_rfl) (fun _ _ _ h => h) (by kernel_rfl) ?_ (by assumption) ?_
          rotate_left
          · (intro w hSw; (try dsimp only at hSw); go_simp; try with_reducible rfl)
          simp only [Act.put, List.setIfInBounds_toArray, List.set_cons_zero, List.set_cons_succ]
          refine Grl.yes 3 (v := ?_) rfl (by kernel_rfl) (by kernel_rfl) (by kernel_rfl) (fun _ _ _ h => h) (by kernel_rfl) ?_ (by assumption) ?_
          rotate_left
          · (intro w hSw; (try dsimp only at hSw); go_simp; try with_reducible rfl)
          simp only [Act.put, List.setIfInBounds_toArray, List.set_cons_zero, List.set_cons_succ]
          refine Grl.yes 4 (v := ?_) rfl (by kernel_rfl) (by kernel_rfl) (by kernel_rfl) (fun _ _ _ h => h) (by kernel_rfl) ?_ (by assumption) ?_
          rotate_left
          · (intro w hSw; (try dsimp only at hSw); go_simp; try with_reducible rfl)
          simp only [Act.put, List.setIfInBounds_toArray, List.set_cons_zero, List.set_cons_succ]
          refine Grl.yes 5 (v := ?_) rfl (by kernel_rfl) (by kernel_rfl) (by kernel_rfl) (fun _ _ _ h => h) (by kernel_rfl) ?_ (by assumption) ?_
          rotate_left
          · (intro w hSw; (try dsimp only at hSw); go_simp; try with_reducible rfl)
          simp only [Act.put, List.setIfInBounds_toArray, List.set_cons_zero, List.set_cons_succ]
          refine Grl.yes 6 (v := ?_) rfl (by kernel_rfl) (by kernel_rfl) (by kernel_rfl) (fun _ _ _ h => h) (by kernel_rfl) ?_ (by assumption) ?_
          rotate_left
          · (intro w hSw; (try dsimp only at hSw); go_simp; try with_reducible rfl)
          simp only [Act.put, List.setIfInBounds_toArray, List.set_cons_zero, List.set_cons_succ]
          refine Grl.yes 7 (v := ?_) rfl (by kernel_rfl) (by kernel_rfl) (by kernel_rfl) (fun _ _ _ h => h) (by kernel_rfl) ?_ (by assumption) ?_
          rotate_left
          · (intro w hSw; (try dsimp only at hSw); go_simp; try with_reducible rfl)
          simp only [Act.put, List.setIfInBounds_toArray, List.set_cons_zero, List.set_cons_succ]
          refine Grl.yes 8 (v := ?_) rfl (by kernel_rfl) (by kernel_rfl) (by kernel_rfl) (fun _ _ _ h => h) (by kernel_rfl) ?_ (by assumption) ?_
          rotate_left
          · (intro w hSw; (try dsimp only at hSw); go_simp; try with_reducible rfl)
          simp only [Act.put, List.setIfInBounds_toArray, List.set_cons_zero, List.set_cons_succ]
          refine Grl.one 9 rfl (by kernel_rfl) (fun K hK => ?_)
          go_simp
          skip
          refine hK.out _ _ (by exact hsS) (fun hHeld => ?_)
          clear hK K
          refine wpAnyH_done (by kernel_rfl) ?_ _
          obtain ⟨-, -, oS', -⟩ := sbox_put (.int .i64 T) (.int .i64 V) (unhide HZ)
          obtain ⟨e0, e1, -, -⟩ := sbox_two oS'
          have f0 : (w8.setCell ⟨w.heap.size, 0, none⟩ (.int .i64 T)).cell? ⟨w.heap.size, 0, none⟩ = some (.int .i64 T) := (sbox_two (show SB w.heap.size (w8.setCell ⟨w.heap.size, 0, none⟩ (.int .i64 T)) w.heap.size (.int .i64 T) (.int .i64 0) from ((unhide HZ).stored 0 (.int .i64 T)).1)).1
          clear oS'
          have HRy := hide ((((unhide HI).grown gD hBr).only onS (by omega)).is)
          have HLb := hide (onS.lies (((unhide HE).1).grown gD (fun j hj e => by have := (unhide HF).1 j hj; have := Option.some.inj e; omega)) (fun j hj => by have := (unhide HF).1 j hj; omega))
          have by9 := hide ((b0.trans (below_of_grown gD (show w.heap.size ≤ rb by omega) b0.size)).trans (onS.below (Nat.le_refl _)))
          clear HI HX HZ oS onS
          go_wp2_with fail
          refine bodyPost_ret (v := .tuple #[.slice (some ⟨b, off, none⟩) (n + 1) qv, .slice a0 l0 q0, .agg #[.int .i64 T, .int .i64 V]]) (by simp [results, Try.results4, go_sem, e0, e1, f0]) rfl ?_
          exact ⟨L, _, T, V, _, _, rfl, unhide HGG, unhide HLk, unhide HTV, unhide HRy, unhide HLb, unhide by9⟩
    · have hc' : decide (c = 0) = false := by simpa using hc
      go_wp2_with fail
      refine (pick_any rb (p2 + 1 + 6 + 1) _ _ (unhide HR) (by omega) (by omega)).mono ?_
      rintro e wU ⟨d, rfl, d0, d1, -, rU, gU⟩
      have HR' := hide rU
      have HZ' := hide (sbox_kept (unhide HZ) gU hne)
      have HX' := hide (own_kept (unhide HX) gU (Nat.lt_succ_self rb))
      have HI' := hide ((unhide HI).grown gU hBr)
      have bU := b0.trans (below_of_grown gU (show w.heap.size ≤ rb by omega) b0.size)
      have hwU : rb < wU.heap.size := rU.lt
      clear HR HZ HX HI b0 gU rU
      have HR := HR'
      have HZ := HZ'
      have HX := HX'
      have HI := HI'
      have b0 := bU
      clear HR' HZ' HX' HI' bU
      by_cases hd : d = 0
      · subst hd
        clear HI
        have hmx1 : 1 ≤ maxLen := by unfold maxLen; omega
        have HNil := hide (own_nil' wU.heap.size wU (Nat.le_refl _)).dn
        go_wp2_with fail
        go_loopw [6] (fun v6 wr => ∃ (k : Nat) (L' : List Row.E) (g q : Nat), k ≤ 10 ∧ v6 = .slice (some ⟨g, 0, none⟩) k q ∧ Hid (L'.length = k) ∧ Hid (RG L') ∧ Hid (Row.Dn wU.heap.size wr (.slice (some ⟨g, 0, none⟩) k q) L') ∧ Below wU.heap.size wU wr) (fun v6 _ => 10 - lenV v6)
        case atStart => exact ⟨0, [], wU.heap.size, 0, Nat.zero_le _, rfl, rfl, ⟨by simp, fun x hx => absurd hx (List.not_mem_nil)⟩, unhide HNil, (Below.refl _ _).alloc (Nat.le_refl _) _⟩
        case round =>
          obtain ⟨k, L', g, q, hk, rfl, HL, HG, HD, hb⟩ := hrel
          clear HNil
          have zr := hb.size
          by_cases hlt : k < 10
          · have hki : (k : Int) < 10 := by omega
            obtain ⟨cs, d1, d2, d7⟩ := unhide HD
            rw [unhide HL] at d2
            have D2 := hide d2
            have D7 := hide d7
            have D1 := hide d1
            have hgl : wU.heap.size ≤ g := own_ge d2 g rfl
            clear d1 d2 d7
            obtain ⟨m, hm⟩ : ∃ m, m = k % 6 := ⟨_, rfl⟩
            obtain ⟨jj, hjj⟩ : ∃ m, m = k / 6 := ⟨_, rfl⟩
            have hm5 : m ≤ 5 := by omega
            have hj5 : jj ≤ 5 := by omega
            have hm1 : (k : Int).tmod 6 = (m : Int) := by subst hm; rfl
            have hm2 : (k : Int) % 6 = (m : Int) := by omega
            have hj1 : (k : Int).tdiv 6 = (jj : Int) := by subst hjj; rfl
            have hj2 : (k : Int) / 6 = (jj : Int) := by omega
            have hwm : IntKind.i64.wrap (m : Int) = (m : Int) := Grl.wrap_ok (by omega) (by omega)
            have hwj : IntKind.i64.wrap (jj : Int) = (jj : Int) := Grl.wrap_ok (by omega) (by omega)
            have hxl : xb < wU.heap.size := own_block_lt (unhide HX) xb rfl
            have HSX := hide (fun (X : World) (gx : Below wU.heap.size wU X) => show (X.cell? ⟨xb, 0, none⟩ = some (.int .i64 T) ∧ X.cell? ⟨xb, 1, none⟩ = some (.int .i64 V)) from ⟨(gx.cell (p := ⟨xb, _, none⟩) hxl).trans (sbox_two (unhide HX)).1, (gx.cell (p := ⟨xb, _, none⟩) hxl).trans (sbox_two (unhide HX)).2.1⟩)
            clear hm hjj
            go_wp2_with fail
            refine Grl.start (S := fun X => X.cell? ⟨xb, 0, none⟩ = some (.int .i64 T) ∧ X.cell? ⟨xb, 1, none⟩ = some (.int .i64 V)) (by kernel_rfl) (by exact unhide HSX _ (by repeat (first | exact hb | apply Below.drew | refine Below.alloc ?_ (by first | omega | (simp; omega) | simp) _))) (fun hHeld => ?_)
            refine Grl.yes 0 (v := ?_) rfl (by kernel_rfl) (by kernel_rfl) (by kernel_rfl) (fun _ _ _ h => h) (by kernel_rfl) ?_ (by assumption) ?_
            rotate_left
            · (intro w hSw; (try dsimp only at hSw); go_simp; try with_reducible rfl)
            simp only [Act.put, List.setIfInBounds_toArray, List.set_cons_zero, List.set_cons_succ]
            refine Grl.yes 1 (v := ?_) rfl (by kernel_rfl) (by kernel_rfl) (by kernel_rfl) (fun _ _ _ h => h) (by kernel_rfl) ?_ (by assumption) ?_
            rotate_left
            · (intro w hSw; (try dsimp only at hSw); go_simp; try with_reducible rfl)
            simp only [Act.put, List.setIfInBounds_toArray, List.set_cons_zero, List.set_cons_succ]
            refine Grl.yes 2 (v := ?_) rfl (by kernel_rfl) (by kernel_rfl) (by kernel_rfl) (fun _ _ _ h => h) (by kernel_rfl) ?_ (by assumption) ?_
            rotate_left
            · (intro w hSw; (try dsimp only at hSw); go_simp; try with_reducible rfl)
            simp only [Act.put, List.setIfInBounds_toArray, List.set_cons_zero, List.set_cons_succ]
            refine Grl.yes 3 (v := ?_) rfl (by kernel_rfl) (by kernel_rfl) (by kernel_rfl) (fun _ _ _ h => h) (by kernel_rfl) ?_ (by assumption) ?_
            rotate_left
            · (intro w hSw; (try dsimp only at hSw); go_simp; try with_reducible rfl)
            simp only [Act.put, List.setIfInBounds_toArray, List.set_cons_zero, List.set_cons_succ]
            refine Grl.yes 6 (v := ?_) rfl (by kernel_rfl) (by kernel_rfl) (by kernel_rfl) (fun _ _ _ h => h) (by kernel_rfl) ?_ (by assumption) ?_
            rotate_left
            · (intro w hSw; (try dsimp only at hSw); go_simp; try with_reducible rfl)
            simp only [Act.put, List.setIfInBounds_toArray, List.set_cons_zero, List.set_cons_succ]
            refine Grl.yes 7 (v := ?_) rfl (by kernel_rfl) (by kernel_rfl) (by kernel_rfl) (fun _ _ _ h => h) (by kernel_rfl) ?_ (by assumption) ?_
            rotate_left
            · (intro w hSw; (try dsimp only at hSw); go_simp; try with_reducible rfl)
            simp only [Act.put, List.setIfInBounds_toArray, List.set_cons_zero, List.set_cons_succ]
            refine Grl.yes 8 (v := ?_) rfl (by kernel_rfl) (by kernel_rfl) (by kernel_rfl) (fun _ _ _ h => h) (by kernel_rfl) ?_ (by assumption) ?_
            rotate_left
            · (intro w hSw; (try dsimp only at hSw); go_simp; try with_reducible rfl)
            simp only [Act.put, List.setIfInBounds_toArray, List.set_cons_zero, List.set_cons_succ]
            refine Grl.yes 13 (v := ?_) rfl (by kernel_rfl) (by kernel_rfl) (by kernel_rfl) (fun _ _ _ h => h) (by kernel_rfl) ?_ (by assumption) ?_
            rotate_left
            · (intro w hSw; (try dsimp only at hSw); go_simp; try with_reducible rfl)
            simp only [Act.put, List.setIfInBounds_toArray, List.set_cons_zero, List.set_cons_succ]
            refine Grl.two 4 14 rfl rfl (by kernel_rfl) (fun K hK => ?_) (fun K hK => ?_)
            · go_simp
              go_wp2_with (refine (many_gen ⟨#[110]⟩ (by decide) m _ hm5).mono ?_; rintro e w' ⟨B1, rfl, hB1, rfl⟩; have hB1' : ¬ (9223372036854775807 < 1 + B1.size) := (by omega))
              refine hK.out _ _ (by exact unhide HSX _ (by repeat (first | exact hb | apply Below.drew | refine Below.alloc ?_ (by first | omega | (simp; omega) | simp) _))) (fun hHeld => ?_)
              clear hK K
              refine Grl.yes 5 (v := ?_) rfl (by kernel_rfl) (by kernel_rfl) (by kernel_rfl) (fun _ _ _ h => h) (by kernel_rfl) ?_ (by assumption) ?_
              rotate_left
              · (intro w hSw; (try dsimp only at hSw); go_simp; try with_reducible rfl)
              simp only [Act.put, List.setIfInBounds_toArray, List.set_cons_zero, List.set_cons_succ]
              refine Grl.two 9 14 rfl rfl (by kernel_rfl) (fun K hK => ?_) (fun K hK => ?_)
              · go_simp
                go_wp2_with (refine (many_gen ⟨#[118]⟩ (by decide) jj _ hj5).mono ?_; rintro e w' ⟨B2, rfl, hB2, rfl⟩; have hB2' : ¬ (9223372036854775807 < 1 + B2.size) := (by omega))
                refine hK.out _ _ (by exact unhide HSX _ (by repeat (first | exact hb | apply Below.drew | refine Below.alloc ?_ (by first | omega | (simp; omega) | simp) _))) (fun hHeld => ?_)
                clear hK K
                refine Grl.yes 10 (v := ?_) rfl (by kernel_rfl) (by kernel_rfl) (by kernel_rfl) (fun _ _ _ h => h) (by kernel_rfl) ?_ (by assumption) ?_
                rotate_left
                · (intro w hSw; (try dsimp only at hSw); go_simp; try with_reducible rfl)
                simp only [Act.put, List.setIfInBounds_toArray, List.set_cons_zero, List.set_cons_succ]
                refine Grl.yes 11 (v := ?_) rfl (by kernel_rfl) (by kernel_rfl) (by kernel_rfl) (fun _ _ _ h => h) (by kernel_rfl) ?_ (by assumption) ?_
                rotate_left
                · (intro w hSw; (try dsimp only at hSw); go_simp; try with_reducible rfl)
                simp only [Act.put, List.setIfInBounds_toArray, List.set_cons_zero, List.set_cons_succ]
                refine Grl.two 12 14 rfl rfl (by kernel_rfl) (fun K hK => ?_) (fun K hK => ?_)
                · go_simp
                  skip
                  refine hK.out _ _ (by exact unhide HSX _ (by repeat (first | exact hb | apply Below.drew | refine Below.alloc ?_ (by first | omega | (simp; omega) | simp) _))) (fun hHeld => ?_)
                  clear hK K
                  refine Grl.one 14 rfl (by kernel_rfl) (fun K hK => ?_)
                  go_simp
                  skip
                  refine hK.out _ _ (by exact unhide HSX _ (by repeat (first | exact hb | apply Below.drew | refine Below.alloc ?_ (by first | omega | (simp; omega) | simp) _))) (fun hHeld => ?_)
                  clear hK K
                  refine Grl.yes 15 (v := ?_) rfl (by kernel_rfl) (by kernel_rfl) (by kernel_rfl) (fun _ _ _ h => h) (by kernel_rfl) ?_ (by assumption) ?_
                  rotate_left
                  · (intro w hSw; (try dsimp only at hSw); go_simp; try with_reducible rfl)
                  simp only [Act.put, List.setIfInBounds_toArray, List.set_cons_zero, List.set_cons_succ]
                  refine Grl.one 16 rfl (by kernel_rfl) (fun K hK => ?_)
                  go_simp
                  skip
                  refine hK.out _ _ (by exact unhide HSX _ (by repeat (first | exact hb | apply Below.drew | refine Below.alloc ?_ (by first | omega | (simp; omega) | simp) _))) (fun hHeld => ?_)
                  clear hK K
                  refine Grl.one 17 rfl (by kernel_rfl) (fun K hK => ?_)
                  (refine app_step _ (by rfl) (.tmp 63) (.tmp 79) _ (by rfl) wU.heap.size 44 i0 _ 2 48 Try.underlying23 hi hz0 hz1 hz2 rfl (by omega) _ k _ (by rfl) (World.ownsRow.drew (World.ownsRow.alloc (World.ownsRow.alloc (World.ownsRow.alloc (unhide D2) _) _) _)) _ 1 _ (by rfl) (by first | exact lies_new (by simp) rfl hmx1 | exact lies_newD (by simp) rfl hmx1) (by simp [Value.oneCell']) (by unfold maxLen; omega) (by omega) (by first | omega | (simp; omega) | simp) ?_; intro vn wn on gn an; have bN : Below wU.heap.size wU wn := below_grown (Row.below3 _ _ _ hb zr) (Row.below3 _ _ _ hb zr).size gn (own_ge (unhide D2)); have on2 : wn.ownsRow wU.heap.size 44 2 vn (k + 1) (flatOf Row.cl cs ++ [.slice (some ⟨wr.heap.size, 0, none⟩) 1 1, .slice (some ⟨wr.heap.size + 1, 0, none⟩) 1 1]) := on; have HDn := hide (Row.fill_ls _ (unhide D1) (unhide HL) zr (unhide D2) (unhide D7) gn on2); have hsN := unhide HSX wn bN)
                  refine hK.out _ _ (by exact hsN) (fun hHeld => ?_)
                  clear hK K
                  refine Grl.yes 18 (v := ?_) rfl (by kernel_rfl) (by kernel_rfl) (by kernel_rfl) (fun _ _ _ h => h) (by kernel_rfl) ?_ (by assumption) ?_
                  rotate_left
                  · (intro w hSw; (try dsimp only at hSw); go_simp; try with_reducible rfl)
                  simp only [Act.put, List.setIfInBounds_toArray, List.set_cons_zero, List.set_cons_succ]
                  refine wpAnyH_done (by kernel_rfl) ?_ _
                  obtain ⟨av2, qn, rfl⟩ : ∃ a q, vn = .slice a (k + 1) q := by obtain ⟨-, a, q, e, -⟩ := lies_of_own on; exact ⟨a, q, e⟩
                  obtain ⟨gg, rfl⟩ : ∃ g, av2 = some ⟨g, 0, none⟩ := by
                    rcases on.2 with ⟨e, -⟩ | ⟨g, cap, cur, e, -⟩
                    · cases e
                    · simp only [Value.slice.injEq] at e; exact ⟨g, e.1⟩
                  have hgg : wU.heap.size ≤ gg := own_ge on gg rfl
                  have HG2 := hide (show ∀ x ∈ L' ++ [([(⟨#[110]⟩ ++ B1, ⟨#[119]⟩ ++ B2)], [(T, V)])], Row.good x ∧ x.1.length ≤ 20 ∧ x.2.length ≤ 1000 from fun x hx => by
                    rw [List.mem_append, List.mem_singleton] at hx
                    rcases hx with hx | hx
                    · exact (unhide HG).2 x hx
                    · subst hx
                      refine ⟨⟨⟨by unfold maxLen; simp, fun y hy => ?_⟩, by unfold maxLen; simp, fun y hy => ?_⟩, by simp, by simp⟩
                      · rw [List.mem_singleton] at hy
                        subst hy
                        have s1 := ByteArray.size_append (a := ⟨#[110]⟩) (b := B1)
                        have s2 := ByteArray.size_append (a := ⟨#[119]⟩) (b := B2)
                        have s3 : (ByteArray.mk #[110]).size = 1 := rfl
                        have s4 : (ByteArray.mk #[119]).size = 1 := rfl
                        exact ⟨by unfold maxLen; simp only; omega, by unfold maxLen; simp only; omega⟩
                      · rw [List.mem_singleton] at hy
                        rw [hy]
                        exact unhide HTV)
                  have HLn := hide (show (L' ++ [(([(⟨#[110]⟩ ++ B1, ⟨#[119]⟩ ++ B2)], [(T, V)]) : Row.E)]).length = k + 1 by rw [List.length_append, unhide HL]; rfl)
                  have HSort := hide (Row.sort_any (unhide HDn) (unhide HLn) (by omega))
                  have HBN := hide bN
                  clear on gn an bN hsN HDn D1 D2 D7 HD HSX
                  go_wp2_with fail
                  refine (unhide HSort).mono ?_
                  rintro e wq ⟨L2, rfl, hl2, hm2, hd2, gq⟩
                  have HL2 := hide hl2
                  have HD2 := hide hd2
                  have HRG2 := hide (show RG L2 from ⟨by omega, fun x hx => unhide HG2 x (hm2 x hx)⟩)
                  have HB2 := hide (below_grown (unhide HBN) (unhide HBN).size gq (fun j hj => by cases hj; exact hgg))
                  clear HSort HG2 HLn hl2 hm2 hd2 gq
                  go_wp2_with fail
                  go_roundw
                  case rel => exact ⟨k + 1, L2, gg, qn, by omega, rfl, HL2, HRG2, HD2, unhide HB2⟩
                  case measure => simp [lenV]; omega
                · go_simp
                  skip
                  refine hK.out _ _ (by exact unhide HSX _ (by repeat (first | exact hb | apply Below.drew | refine Below.alloc ?_ (by first | omega | (simp; omega) | simp) _))) (fun hHeld => ?_)
                  clear hK K
                  refine Grl.one 12 rfl (by kernel_rfl) (fun K hK => ?_)
                  go_simp
                  skip
                  refine hK.out _ _ (by exact unhide HSX _ (by repeat (first | exact hb | apply Below.drew | refine Below.alloc ?_ (by first | omega | (simp; omega) | simp) _))) (fun hHeld => ?_)
                  clear hK K
                  refine Grl.yes 15 (v := ?_) rfl (by kernel_rfl) (by kernel_rfl) (by kernel_rfl) (fun _ _ _ h => h) (by kernel_rfl) ?_ (by assumption) ?_
                  rotate_left
                  · (intro w hSw; (try dsimp only at hSw); go_simp; try with_reducible rfl)
                  simp only [Act.put, List.setIfInBounds_toArray, List.set_cons_zero, List.set_cons_succ]
                  refine Grl.one 16 rfl (by kernel_rfl) (fun K hK => ?_)
                  go_simp
                  skip
                  refine hK.out _ _ (by exact unhide HSX _ (by repeat (first | exact hb | apply Below.drew | refine Below.alloc ?_ (by first | omega | (simp; omega) | simp) _))) (fun hHeld => ?_)
                  clear hK K
                  refine Grl.one 17 rfl (by kernel_rfl) (fun K hK => ?_)
                  (refine app_step _ (by rfl) (.tmp 63) (.tmp 79) _ (by rfl) wU.heap.size 44 i0 _ 2 48 Try.underlying23 hi hz0 hz1 hz2 rfl (by omega) _ k _ (by rfl) (World.ownsRow.drew (World.ownsRow.alloc (World.ownsRow.alloc (World.ownsRow.alloc (unhide D2) _) _) _)) _ 1 _ (by rfl) (by first | exact lies_new (by simp) rfl hmx1 | exact lies_newD (by simp) rfl hmx1) (by simp [Value.oneCell']) (by unfold maxLen; omega) (by omega) (by first | omega | (simp; omega) | simp) ?_; intro vn wn on gn an; have bN : Below wU.heap.size wU wn := below_grown (Row.below3 _ _ _ hb zr) (Row.below3 _ _ _ hb zr).size gn (own_ge (unhide D2)); have on2 : wn.ownsRow wU.heap.size 44 2 vn (k + 1) (flatOf Row.cl cs ++ [.slice (some ⟨wr.heap.size + 1, 0, none⟩) 1 1, .slice (some ⟨wr.heap.size, 0, none⟩) 1 1]) := on; have HDn := hide (Row.fill_sl _ (unhide D1) (unhide HL) zr (unhide D2) (unhide D7) gn on2); have hsN := unhide HSX wn bN)
                  refine hK.out _ _ (by exact hsN) (fun hHeld => ?_)
                  clear hK K
                  refine Grl.yes 18 (v := ?_) rfl (by kernel_rfl) (by kernel_rfl) (by kernel_rfl) (fun _ _ _ h => h) (by kernel_rfl) ?_ (by assumption) ?_
                  rotate_left
                  · (intro w hSw; (try dsimp only at hSw); go_simp; try with_reducible rfl)
                  simp only [Act.put, List.setIfInBounds_toArray, List.set_cons_zero, List.set_cons_succ]
                  refine wpAnyH_done (by kernel_rfl) ?_ _
                  obtain ⟨av2, qn, rfl⟩ : ∃ a q, vn = .slice a (k + 1) q := by obtain ⟨-, a, q, e, -⟩ := lies_of_own on; exact ⟨a, q, e⟩
                  obtain ⟨gg, rfl⟩ : ∃ g, av2 = some ⟨g, 0, none⟩ := by
                    rcases on.2 with ⟨e, -⟩ | ⟨g, cap, cur, e, -⟩
                    · cases e
                    · simp only [Value.slice.injEq] at e; exact ⟨g, e.1⟩
                  have hgg : wU.heap.size ≤ gg := own_ge on gg rfl
                  have HG2 := hide (show ∀ x ∈ L' ++ [([(⟨#[110]⟩ ++ B1, ⟨#[119]⟩ ++ B2)], [(T, V)])], Row.good x ∧ x.1.length ≤ 20 ∧ x.2.length ≤ 1000 from fun x hx => by
                    rw [List.mem_append, List.mem_singleton] at hx
                    rcases hx with hx | hx
                    · exact (unhide HG).2 x hx
                    · subst hx
                      refine ⟨⟨⟨by unfold maxLen; simp, fun y hy => ?_⟩, by unfold maxLen; simp, fun y hy => ?_⟩, by simp, by simp⟩
                      · rw [List.mem_singleton] at hy
                        subst hy
                        have s1 := ByteArray.size_append (a := ⟨#[110]⟩) (b := B1)
                        have s2 := ByteArray.size_append (a := ⟨#[119]⟩) (b := B2)
                        have s3 : (ByteArray.mk #[110]).size = 1 := rfl
                        have s4 : (ByteArray.mk #[119]).size = 1 := rfl
                        exact ⟨by unfold maxLen; simp only; omega, by unfold maxLen; simp only; omega⟩
                      · rw [List.mem_singleton] at hy
                        rw [hy]
                        exact unhide HTV)
                  have HLn := hide (show (L' ++ [(([(⟨#[110]⟩ ++ B1, ⟨#[119]⟩ ++ B2)], [(T, V)]) : Row.E)]).length = k + 1 by rw [List.length_append, unhide HL]; rfl)
                  have HSort := hide (Row.sort_any (unhide HDn) (unhide HLn) (by omega))
                  have HBN := hide bN
                  clear on gn an bN hsN HDn D1 D2 D7 HD HSX
                  go_wp2_with fail
                  refine (unhide HSort).mono ?_
                  rintro e wq ⟨L2, rfl, hl2, hm2, hd2, gq⟩
                  have HL2 := hide hl2
                  have HD2 := hide hd2
                  have HRG2 := hide (show RG L2 from ⟨by omega, fun x hx => unhide HG2 x (hm2 x hx)⟩)
                  have HB2 := hide (below_grown (unhide HBN) (unhide HBN).size gq (fun j hj => by cases hj; exact hgg))
                  clear HSort HG2 HLn hl2 hm2 hd2 gq
                  go_wp2_with fail
                  go_roundw
                  case rel => exact ⟨k + 1, L2, gg, qn, by omega, rfl, HL2, HRG2, HD2, unhide HB2⟩
                  case measure => simp [lenV]; omega
              · go_simp
                skip
                refine hK.out _ _ (by exact unhide HSX _ (by repeat (first | exact hb | apply Below.drew | refine Below.alloc ?_ (by first | omega | (simp; omega) | simp) _))) (fun hHeld => ?_)
                clear hK K
                refine Grl.one 9 rfl (by kernel_rfl) (fun K hK => ?_)
                go_simp
                go_wp2_with (refine (many_gen ⟨#[118]⟩ (by decide) jj _ hj5).mono ?_; rintro e w' ⟨B2, rfl, hB2, rfl⟩; have hB2' : ¬ (9223372036854775807 < 1 + B2.size) := (by omega))
                refine hK.out _ _ (by exact unhide HSX _ (by repeat (first | exact hb | apply Below.drew | refine Below.alloc ?_ (by first | omega | (simp; omega) | simp) _))) (fun hHeld => ?_)
                clear hK K
                refine Grl.yes 10 (v := ?_) rfl (by kernel_rfl) (by kernel_rfl) (by kernel_rfl) (fun _ _ _ h => h) (by kernel_rfl) ?_ (by assumption) ?_
                rotate_left
                · (intro w hSw; (try dsimp only at hSw); go_simp; try with_reducible rfl)
                simp only [Act.put, List.setIfInBounds_toArray, List.set_cons_zero, List.set_cons_succ]
                refine Grl.yes 11 (v := ?_) rfl (by kernel_rfl) (by kernel_rfl) (by kernel_rfl) (fun _ _ _ h => h) (by kernel_rfl) ?_ (by assumption) ?_
                rotate_left
                · (intro w hSw; (try dsimp only at hSw); go_simp; try with_reducible rfl)
                simp only [Act.put, List.setIfInBounds_toArray, List.set_cons_zero, List.set_cons_succ]
                refine Grl.one 12 rfl (by kernel_rfl) (fun K hK => ?_)
                go_simp
                skip
                refine hK.out _ _ (by exact unhide HSX _ (by repeat (first | exact hb | apply Below.drew | refine Below.alloc ?_ (by first | omega | (simp; omega) | simp) _))) (fun hHeld => ?_)
                clear hK K
                refine Grl.yes 15 (v := ?_) rfl (by kernel_rfl) (by kernel_rfl) (by kernel_rfl) (fun _ _ _ h => h) (by kernel_rfl) ?_ (by assumption) ?_
                rotate_left
                · (intro w hSw; (try dsimp only at hSw); go_simp; try with_reducible rfl)
                simp only [Act.put, List.setIfInBounds_toArray, List.set_cons_zero, List.set_cons_succ]
                refine Grl.one 16 rfl (by kernel_rfl) (fun K hK => ?_)
                go_simp
                skip
                refine hK.out _ _ (by exact unhide HSX _ (by repeat (first | exact hb | apply Below.drew | refine Below.alloc ?_ (by first | omega | (simp; omega) | simp) _))) (fun hHeld => ?_)
                clear hK K
                refine Grl.one 17 rfl (by kernel_rfl) (fun K hK => ?_)
                (refine app_step _ (by rfl) (.tmp 63) (.tmp 79) _ (by rfl) wU.heap.size 44 i0 _ 2 48 Try.underlying23 hi hz0 hz1 hz2 rfl (by omega) _ k _ (by rfl) (World.ownsRow.drew (World.ownsRow.alloc (World.ownsRow.alloc (World.ownsRow.alloc (unhide D2) _) _) _)) _ 1 _ (by rfl) (by first | exact lies_new (by simp) rfl hmx1 | exact lies_newD (by simp) rfl hmx1) (by simp [Value.oneCell']) (by unfold maxLen; omega) (by omega) (by first | omega | (simp; omega) | simp) ?_; intro vn wn on gn an; have bN : Below wU.heap.size wU wn := below_grown (Row.below3 _ _ _ hb zr) (Row.below3 _ _ _ hb zr).size gn (own_ge (unhide D2)); have on2 : wn.ownsRow wU.heap.size 44 2 vn (k + 1) (flatOf Row.cl cs ++ [.slice (some ⟨wr.heap.size + 1, 0, none⟩) 1 1, .slice (some ⟨wr.heap.size, 0, none⟩) 1 1]) := on; have HDn := hide (Row.fill_sl _ (unhide D1) (unhide HL) zr (unhide D2) (unhide D7) gn on2); have hsN := unhide HSX wn bN)
                refine hK.out _ _ (by exact hsN) (fun hHeld => ?_)
                clear hK K
                refine Grl.yes 18 (v := ?_) rfl (by kernel_rfl) (by kernel_rfl) (by kernel_rfl) (fun _ _ _ h => h) (by kernel_rfl) ?_ (by assumption) ?_
                rotate_left
                · (intro w hSw; (try dsimp only at hSw); go_simp; try with_reducible rfl)
                simp only [Act.put, List.setIfInBounds_toArray, List.set_cons_zero, List.set_cons_succ]
                refine wpAnyH_done (by kernel_rfl) ?_ _
                obtain ⟨av2, qn, rfl⟩ : ∃ a q, vn = .slice a (k + 1) q := by obtain ⟨-, a, q, e, -⟩ := lies_of_own on; exact ⟨a, q, e⟩
                obtain ⟨gg, rfl⟩ : ∃ g, av2 = some ⟨g, 0, none⟩ := by
                  rcases on.2 with ⟨e, -⟩ | ⟨g, cap, cur, e, -⟩
                  · cases e
                  · simp only [Value.slice.injEq] at e; exact ⟨g, e.1⟩
                have hgg : wU.heap.size ≤ gg := own_ge on gg rfl
                have HG2 := hide (show ∀ x ∈ L' ++ [([(⟨#[110]⟩ ++ B1, ⟨#[119]⟩ ++ B2)], [(T, V)])], Row.good x ∧ x.1.length ≤ 20 ∧ x.2.length ≤ 1000 from fun x hx => by
                  rw [List.mem_append, List.mem_singleton] at hx
                  rcases hx with hx | hx
                  · exact (unhide HG).2 x hx
                  · subst hx
                    refine ⟨⟨⟨by unfold maxLen; simp, fun y hy => ?_⟩, by unfold maxLen; simp, fun y hy => ?_⟩, by simp, by simp⟩
                    · rw [List.mem_singleton] at hy
                      subst hy
                      have s1 := ByteArray.size_append (a := ⟨#[110]⟩) (b := B1)
                      have s2 := ByteArray.size_append (a := ⟨#[119]⟩) (b := B2)
                      have s3 : (ByteArray.mk #[110]).size = 1 := rfl
                      have s4 : (ByteArray.mk #[119]).size = 1 := rfl
                      exact ⟨by unfold maxLen; simp only; omega, by unfold maxLen; simp only; omega⟩
                    · rw [List.mem_singleton] at hy
                      rw [hy]
                      exact unhide HTV)
                have HLn := hide (show (L' ++ [(([(⟨#[110]⟩ ++ B1, ⟨#[119]⟩ ++ B2)], [(T, V)]) : Row.E)]).length = k + 1 by rw [List.length_append, unhide HL]; rfl)
                have HSort := hide (Row.sort_any (unhide HDn) (unhide HLn) (by omega))
                have HBN := hide bN
                clear on gn an bN hsN HDn D1 D2 D7 HD HSX
                go_wp2_with fail
                refine (unhide HSort).mono ?_
                rintro e wq ⟨L2, rfl, hl2, hm2, hd2, gq⟩
                have HL2 := hide hl2
                have HD2 := hide hd2
                have HRG2 := hide (show RG L2 from ⟨by omega, fun x hx => unhide HG2 x (hm2 x hx)⟩)
                have HB2 := hide (below_grown (unhide HBN) (unhide HBN).size gq (fun j hj => by cases hj; exact hgg))
                clear HSort HG2 HLn hl2 hm2 hd2 gq
                go_wp2_with fail
                go_roundw
                case rel => exact ⟨k + 1, L2, gg, qn, by omega, rfl, HL2, HRG2, HD2, unhide HB2⟩
                case measure => simp [lenV]; omega
            · go_simp
              skip
              refine hK.out _ _ (by exact unhide HSX _ (by repeat (first | exact hb | apply Below.drew | refine Below.alloc ?_ (by first | omega | (simp; omega) | simp) _))) (fun hHeld => ?_)
              clear hK K
              refine Grl.one 4 rfl (by kernel_rfl) (fun K hK => ?_)
              go_simp
              go_wp2_with (refine (many_gen ⟨#[110]⟩ (by decide) m _ hm5).mono ?_; rintro e w' ⟨B1, rfl, hB1, rfl⟩; have hB1' : ¬ (9223372036854775807 < 1 + B1.size) := (by omega))
              refine hK.out _ _ (by exact unhide HSX _ (by repeat (first | exact hb | apply Below.drew | refine Below.alloc ?_ (by first | omega | (simp; omega) | simp) _))) (fun hHeld => ?_)
              clear hK K
              refine Grl.yes 5 (v := ?_) rfl (by kernel_rfl) (by kernel_rfl) (by kernel_rfl) (fun _ _ _ h => h) (by kernel_rfl) ?_ (by assumption) ?_
              rotate_left
              · (intro w hSw; (try dsimp only at hSw); go_simp; try with_reducible rfl)
              simp only [Act.put, List.setIfInBounds_toArray, List.set_cons_zero, List.set_cons_succ]
              refine Grl.one 9 rfl (by kernel_rfl) (fun K hK => ?_)
              go_simp
              go_wp2_with (refine (many_gen ⟨#[118]⟩ (by decide) jj _ hj5).mono ?_; rintro e w' ⟨B2, rfl, hB2, rfl⟩; have hB2' : ¬ (9223372036854775807 < 1 + B2.size) := (by omega))
              refine hK.out _ _ (by exact unhide HSX _ (by repeat (first | exact hb | apply Below.drew | refine Below.alloc ?_ (by first | omega | (simp; omega) | simp) _))) (fun hHeld => ?_)
              clear hK K
              refine Grl.yes 10 (v := ?_) rfl (by kernel_rfl) (by kernel_rfl) (by kernel_rfl) (fun _ _ _ h => h) (by kernel_rfl) ?_ (by assumption) ?_
              rotate_left
              · (intro w hSw; (try dsimp only at hSw); go_simp; try with_reducible rfl)
              simp only [Act.put, List.setIfInBounds_toArray, List.set_cons_zero, List.set_cons_succ]
              refine Grl.yes 11 (v := ?_) rfl (by kernel_rfl) (by kernel_rfl) (by kernel_rfl) (fun _ _ _ h => h) (by kernel_rfl) ?_ (by assumption) ?_
              rotate_left
              · (intro w hSw; (try dsimp only at hSw); go_simp; try with_reducible rfl)
              simp only [Act.put, List.setIfInBounds_toArray, List.set_cons_zero, List.set_cons_succ]
              refine Grl.one 12 rfl (by kernel_rfl) (fun K hK => ?_)
              go_simp
              skip
              refine hK.out _ _ (by exact unhide HSX _ (by repeat (first | exact hb | apply Below.drew | refine Below.alloc ?_ (by first | omega | (simp; omega) | simp) _))) (fun hHeld => ?_)
              clear hK K
              refine Grl.yes 15 (v := ?_) rfl (by kernel_rfl) (by kernel_rfl) (by kernel_rfl) (fun _ _ _ h => h) (by kernel_rfl) ?_ (by assumption) ?_
              rotate_left
              · (intro w hSw; (try dsimp only at hSw); go_simp; try with_reducible rfl)
              simp only [Act.put, List.setIfInBounds_toArray, List.set_cons_zero, List.set_cons_succ]
              refine Grl.one 16 rfl (by kernel_rfl) (fun K hK => ?_)
              go_simp
              skip
              refine hK.out _ _ (by exact unhide HSX _ (by repeat (first | exact hb | apply Below.drew | refine Below.alloc ?_ (by first | omega | (simp; omega) | simp) _))) (fun hHeld => ?_)
              clear hK K
              refine Grl.one 17 rfl (by kernel_rfl) (fun K hK => ?_)
              (refine app_step _ (by rfl) (.tmp 63) (.tmp 79) _ (by rfl) wU.heap.size 44 i0 _ 2 48 Try.underlying23 hi hz0 hz1 hz2 rfl (by omega) _ k _ (by rfl) (World.ownsRow.drew (World.ownsRow.alloc (World.ownsRow.alloc (World.ownsRow.alloc (unhide D2) _) _) _)) _ 1 _ (by rfl) (by first | exact lies_new (by simp) rfl hmx1 | exact lies_newD (by simp) rfl hmx1) (by simp [Value.oneCell']) (by unfold maxLen; omega) (by omega) (by first | omega | (simp; omega) | simp) ?_; intro vn wn on gn an; have bN : Below wU.heap.size wU wn := below_grown (Row.below3 _ _ _ hb zr) (Row.below3 _ _ _ hb zr).size gn (own_ge (unhide D2)); have on2 : wn.ownsRow wU.heap.size 44 2 vn (k + 1) (flatOf Row.cl cs ++ [.slice (some ⟨wr.heap.size + 1, 0, none⟩) 1 1, .slice (some ⟨wr.heap.size, 0, none⟩) 1 1]) := on; have HDn := hide (Row.fill_sl _ (unhide D1) (unhide HL) zr (unhide D2) (unhide D7) gn on2); have hsN := unhide HSX wn bN)
              refine hK.out _ _ (by exact hsN) (fun hHeld => ?_)
              clear hK K
              refine Grl.yes 18 (v := ?_) rfl (by kernel_rfl) (by kernel_rfl) (by kernel_rfl) (fun _ _ _ h => h) (by kernel_rfl) ?_ (by assumption) ?_
              rotate_left
              · (intro w hSw; (try dsimp only at hSw); go_simp; try with_reducible rfl)
              simp only [Act.put, List.setIfInBounds_toArray, List.set_cons_zero, List.set_cons_succ]
              refine wpAnyH_done (by kernel_rfl) ?_ _
              obtain ⟨av2, qn, rfl⟩ : ∃ a q, vn = .slice a (k + 1) q := by obtain ⟨-, a, q, e, -⟩ := lies_of_own on; exact ⟨a, q, e⟩
              obtain ⟨gg, rfl⟩ : ∃ g, av2 = some ⟨g, 0, none⟩ := by
                rcases on.2 with ⟨e, -⟩ | ⟨g, cap, cur, e, -⟩
                · cases e
                · simp only [Value.slice.injEq] at e; exact ⟨g, e.1⟩
              have hgg : wU.heap.size ≤ gg := own_ge on gg rfl
              have HG2 := hide (show ∀ x ∈ L' ++ [([(⟨#[110]⟩ ++ B1, ⟨#[119]⟩ ++ B2)], [(T, V)])], Row.good x ∧ x.1.length ≤ 20 ∧ x.2.length ≤ 1000 from fun x hx => by
                rw [List.mem_append, List.mem_singleton] at hx
                rcases hx with hx | hx
                · exact (unhide HG).2 x hx
                · subst hx
                  refine ⟨⟨⟨by unfold maxLen; simp, fun y hy => ?_⟩, by unfold maxLen; simp, fun y hy => ?_⟩, by simp, by simp⟩
                  · rw [List.mem_singleton] at hy
                    subst hy
                    have s1 := ByteArray.size_append (a := ⟨#[110]⟩) (b := B1)
                    have s2 := ByteArray.size_append (a := ⟨#[119]⟩) (b := B2)
                    have s3 : (ByteArray.mk #[110]).size = 1 := rfl
                    have s4 : (ByteArray.mk #[119]).size = 1 := rfl
                    exact ⟨by unfold maxLen; simp only; omega, by unfold maxLen; simp only; omega⟩
                  · rw [List.mem_singleton] at hy
                    rw [hy]
                    exact unhide HTV)
              have HLn := hide (show (L' ++ [(([(⟨#[110]⟩ ++ B1, ⟨#[119]⟩ ++ B2)], [(T, V)]) : Row.E)]).length = k + 1 by rw [List.length_append, unhide HL]; rfl)
              have HSort := hide (Row.sort_any (unhide HDn) (unhide HLn) (by omega))
              have HBN := hide bN
              clear on gn an bN hsN HDn D1 D2 D7 HD HSX
              go_wp2_with fail
              refine (unhide HSort).mono ?_
              rintro e wq ⟨L2, rfl, hl2, hm2, hd2, gq⟩
              have HL2 := hide hl2
              have HD2 := hide hd2
              have HRG2 := hide (show RG L2 from ⟨by omega, fun x hx => unhide HG2 x (hm2 x hx)⟩)
              have HB2 := hide (below_grown (unhide HBN) (unhide HBN).size gq (fun j hj => by cases hj; exact hgg))
              clear HSort HG2 HLn hl2 hm2 hd2 gq
              go_wp2_with fail
              go_roundw
              case rel => exact ⟨k + 1, L2, gg, qn, by omega, rfl, HL2, HRG2, HD2, unhide HB2⟩
              case measure => simp [lenV]; omega
          · obtain rfl : k = 10 := by omega
            have HR2 := hide ((unhide HR).below hb)
            have HZ2 := hide (own_below (unhide HZ) hb)
            have HX2 := hide (own_below (unhide HX) hb)
            have HI := hide (Row.Dn.isF (unhide HD))
            have b2 := b0.trans (hb.mono b0.size)
            have hwr : rb < wr.heap.size := by omega
            have hBr2 : rb < wU.heap.size := hwU
            have HGG2 := hide (show L'.length ≤ 11 ∧ ∀ x ∈ L', Row.good x from ⟨(unhide HG).1, fun x hx => ((unhide HG).2 x hx).1⟩)
            clear HR HZ HX b0 HGG hBr
            have HR := HR2
            have HZ := HZ2
            have HX := HX2
            have b0 := b2
            have HGG := HGG2
            have hBr := hBr2
            clear HR2 HZ2 HX2 b2 HGG2 hBr2
            have gD : wr.grownBy wr.drew (some rb) := grown_below ((Below.refl _ _).drew)
            have zD : wr.drew.heap.size = wr.heap.size := by simp
            have HAL := hide (anylabels_any rb (p2 + 1 + 6 + 1 + 1) wr.drew (rd_drew (unhide HR)) (by omega))
            have HSX := hide (fun (X : World) (gx : wr.grownBy X (some rb)) => sbox_two (own_kept (unhide HX) gx (Nat.lt_succ_self rb)))
            have hsD : wr.drew.cell? ⟨xb, 0, none⟩ = some (.int .i64 T) ∧ wr.drew.cell? ⟨xb, 1, none⟩ = some (.int .i64 V) := ⟨(unhide HSX _ gD).1, (unhide HSX _ gD).2.1⟩
            have hxw : xb ≠ w.heap.size := by omega
            have hxl : xb < wr.heap.size := own_block_lt (unhide HX) xb rfl
            go_wp2_with fail
            refine Grl.start (S := fun X => X.cell? ⟨xb, 0, none⟩ = some (.int .i64 T) ∧ X.cell? ⟨xb, 1, none⟩ = some (.int .i64 V)) (by kernel_rfl) (by exact hsD) (fun hHeld => ?_)
            refine Grl.yes 0 (v := ?_) rfl (by kernel_rfl) (by kernel_rfl) (by kernel_rfl) (fun _ _ _ h => h) (by kernel_rfl) ?_ (by assumption) ?_
            rotate_left
            · (intro w hSw; (try dsimp only at hSw); go_simp; try with_reducible rfl)
            simp only [Act.put, List.setIfInBounds_toArray, List.set_cons_zero, List.set_cons_succ]
            refine Grl.yes 1 (v := ?_) rfl (by kernel_rfl) (by kernel_rfl) (by kernel_rfl) (fun _ _ _ h => h) (by kernel_rfl) ?_ (by assumption) ?_
            rotate_left
            · (intro w hSw; (try dsimp only at hSw); go_simp; try with_reducible rfl)
            simp only [Act.put, List.setIfInBounds_toArray, List.set_cons_zero, List.set_cons_succ]
            refine Grl.yes 3 (v := ?_) rfl (by kernel_rfl) (by kernel_rfl) (by kernel_rfl) (fun _ _ _ h => h) (by kernel_rfl) ?_ (by assumption) ?_
            rotate_left
            · (intro w hSw; (try dsimp only at hSw); go_simp; try with_reducible rfl)
            simp only [Act.put, List.setIfInBounds_toArray, List.set_cons_zero, List.set_cons_succ]
            refine Grl.one 2 rfl (by kernel_rfl) (fun K hK => ?_)
            go_simp
            go_wp2_with (refine (unhide HAL).mono ?_; rintro e w8 ⟨ls, lv, rfl, hl20, hsm, ol, ⟨p8, hp8, r8⟩, g8⟩; have q8 := grown_trans gD g8; obtain ⟨x0, x1, -, -⟩ := unhide HSX w8 q8; have hs8 : w8.cell? ⟨xb, 0, none⟩ = some (.int .i64 T) ∧ w8.cell? ⟨xb, 1, none⟩ = some (.int .i64 V) := ⟨x0, x1⟩; have oZ := sbox_kept (unhide HZ) q8 hne; obtain ⟨z0, z1, zf0, zf1⟩ := sbox_two oZ; obtain ⟨y1, yf1, oS, onS⟩ := sbox_put (.int .i64 T) (.int .i64 V) oZ; have hsS : ((w8.setCell ⟨w.heap.size, 0, none⟩ (.int .i64 T)).setCell ⟨w.heap.size, 1, none⟩ (.int .i64 V)).cell? ⟨xb, 0, none⟩ = some (.int .i64 T) ∧ ((w8.setCell ⟨w.heap.size, 0, none⟩ (.int .i64 T)).setCell ⟨w.heap.size, 1, none⟩ (.int .i64 V)).cell? ⟨xb, 1, none⟩ = some (.int .i64 V) := ⟨((World.cell?_of_block (a := ⟨xb, 0, none⟩) (onS.block xb hxw)).trans x0), ((World.cell?_of_block (a := ⟨xb, 1, none⟩) (onS.block xb hxw)).trans x1)⟩; obtain ⟨la, lq, rfl⟩ : ∃ a q, lv = .slice a ls.length q := (by obtain ⟨-, a, q, e, -⟩ := lies_of_own ol; exact ⟨a, q, e⟩))
            refine hK.out _ _ (by exact hs8) (fun hHeld => ?_)
            clear hK K
            refine Grl.yes 4 (v := ?_) rfl (by kernel_rfl) (by kernel_rfl) (by kernel_rfl) (fun _ _ _ h => h) (by kernel_rfl) ?_ (by assumption) ?_
            rotate_left
            · (intro w hSw; (try dsimp only at hSw); go_simp; try with_reducible rfl)
            simp only [Act.put, List.setIfInBounds_toArray, List.set_cons_zero, List.set_cons_succ]
            refine Grl.yes 5 (v := ?_) rfl (by kernel_rfl) (by kernel_rfl) (by kernel_rfl) (fun _ _ _ h => h) (by kernel_rfl) ?_ (by assumption) ?_
            rotate_left
            · (intro w hSw; (try dsimp only at hSw); go_simp; try with_reducible rfl)
            simp only [Act.put, List.setIfInBounds_toArray, List.set_cons_zero, List.set_cons_succ]
            refine Grl.one 6 rfl (by kernel_rfl) (fun K hK => ?_)
            go_simp
            skip
            refine hK.out _ _ (by exact hsS) (fun hHeld => ?_)
            clear hK K
            refine wpAnyH_done (by kernel_rfl) ?_ _
            obtain ⟨e0, e1, -, -⟩ := sbox_two oS
            have HRy := hide ((((unhide HI).grown q8 hBr).only onS (by omega)).is)
            have HLb := hide (Lab.is_of_own (onS.own ol (fun j hj => by have := own_ge ol j hj; omega)))
            have by9 := hide ((b0.trans (below_of_grown q8 (show w.heap.size ≤ rb by omega) b0.size)).trans (onS.below (Nat.le_refl _)))
            clear HI HAL HSX HX HZ HR oS onS ol
            go_wp2_with fail
            refine bodyPost_ret (v := .tuple #[.slice (some ⟨g, 0, none⟩) 10 q, .slice la ls.length lq, .agg #[.int .i64 T, .int .i64 V]]) (by simp [results, Try.results4, go_sem, e0, e1]) rfl ?_
            exact ⟨L', ls, T, V, _, _, rfl, unhide HGG, ⟨hl20, fun y hy => good_smallL (hsm y hy)⟩, unhide HTV, unhide HRy, unhide HLb, unhide by9⟩
      · have hd' : decide (d = 0) = false := by simpa using hd
        have gD : wU.grownBy wU.drew (some rb) := grown_below ((Below.refl _ _).drew)
        have zD : wU.drew.heap.size = wU.heap.size := by simp
        have HAL := hide (anylabels_any rb (p2 + 1 + 6 + 1 + 1) wU.drew (rd_drew (unhide HR)) (by omega))
        have HSX := hide (fun (X : World) (gx : wU.grownBy X (some rb)) => sbox_two (own_kept (unhide HX) gx (Nat.lt_succ_self rb)))
        have hsD : wU.drew.cell? ⟨xb, 0, none⟩ = some (.int .i64 T) ∧ wU.drew.cell? ⟨xb, 1, none⟩ = some (.int .i64 V) := ⟨(unhide HSX _ gD).1, (unhide HSX _ gD).2.1⟩
        have hxw : xb ≠ w.heap.size := by omega
        have hxl : xb < wU.heap.size := own_block_lt (unhide HX) xb rfl
        go_wp2_with fail
        refine Grl.start (S := fun X => X.cell? ⟨xb, 0, none⟩ = some (.int .i64 T) ∧ X.cell? ⟨xb, 1, none⟩ = some (.int .i64 V)) (by kernel_rfl) (by exact hsD) (fun hHeld => ?_)
        refine Grl.yes 0 (v := ?_) rfl (by kernel_rfl) (by kernel_rfl) (by kernel_rfl) (fun _ _ _ h => h) (by kernel_rfl) ?_ (by assumption) ?_
        rotate_left
        · (intro w hSw; (try dsimp only at hSw); go_simp; try with_reducible rfl)
        simp only [Act.put, List.setIfInBounds_toArray, List.set_cons_zero, List.set_cons_succ]
        refine Grl.yes 1 (v := ?_) rfl (by kernel_rfl) (by kernel_rfl) (by kernel_rfl) (fun _ _ _ h => h) (by kernel_rfl) ?_ (by assumption) ?_
        rotate_left
        · (intro w hSw; (try dsimp only at hSw); go_simp; try with_reducible rfl)
        simp only [Act.put, List.setIfInBounds_toArray, List.set_cons_zero, List.set_cons_succ]
        refine Grl.yes 3 (v := ?_) rfl (by kernel_rfl) (by kernel_rfl) (by kernel_rfl) (fun _ _ _ h => h) (by kernel_rfl) ?_ (by assumption) ?_
        rotate_left
        · (intro w hSw; (try dsimp only at hSw); go_simp; try with_reducible rfl)
        simp only [Act.put, List.setIfInBounds_toArray, List.set_cons_zero, List.set_cons_succ]
        refine Grl.one 2 rfl (by kernel_rfl) (fun K hK => ?_)
        go_simp
        go_wp2_with (refine (unhide HAL).mono ?_; rintro e w8 ⟨ls, lv, rfl, hl20, hsm, ol, ⟨p8, hp8, r8⟩, g8⟩; have q8 := grown_trans gD g8; obtain ⟨x0, x1, -, -⟩ := unhide HSX w8 q8; have hs8 : w8.cell? ⟨xb, 0, none⟩ = some (.int .i64 T) ∧ w8.cell? ⟨xb, 1, none⟩ = some (.int .i64 V) := ⟨x0, x1⟩; have oZ := sbox_kept (unhide HZ) q8 hne; obtain ⟨z0, z1, zf0, zf1⟩ := sbox_two oZ; obtain ⟨y1, yf1, oS, onS⟩ := sbox_put (.int .i64 T) (.int .i64 V) oZ; have hsS : ((w8.setCell ⟨w.heap.size, 0, none⟩ (.int .i64 T)).setCell ⟨w.heap.size, 1, none⟩ (.int .i64 V)).cell? ⟨xb, 0, none⟩ = some (.int .i64 T) ∧ ((w8.setCell ⟨w.heap.size, 0, none⟩ (.int .i64 T)).setCell ⟨w.heap.size, 1, none⟩ (.int .i64 V)).cell? ⟨xb, 1, none⟩ = some (.int .i64 V) := ⟨((World.cell?_of_block (a := ⟨xb, 0, none⟩) (onS.block xb hxw)).trans x0), ((World.cell?_of_block (a := ⟨xb, 1, none⟩) (onS.block xb hxw)).trans x1)⟩; obtain ⟨la, lq, rfl⟩ : ∃ a q, lv = .slice a ls.length q := (by obtain ⟨-, a, q, e, -⟩ := lies_of_own ol; exact ⟨a, q, e⟩))
        refine hK.out _ _ (by exact hs8) (fun hHeld => ?_)
        clear hK K
        refine Grl.yes 4 (v := ?_) rfl (by kernel_rfl) (by kernel_rfl) (by kernel_rfl) (fun _ _ _ h => h) (by kernel_rfl) ?_ (by assumption) ?_
        rotate_left
        · (intro w hSw; (try dsimp only at hSw); go_simp; try with_reducible rfl)
        simp only [Act.put, List.setIfInBounds_toArray, List.set_cons_zero, List.set_cons_succ]
        refine Grl.yes 5 (v := ?_) rfl (by kernel_rfl) (by kernel_rfl) (by kernel_rfl) (fun _ _ _ h => h) (by kernel_rfl) ?_ (by assumption) ?_
        rotate_left
        · (intro w hSw; (try dsimp only at hSw); go_simp; try with_reducible rfl)
        simp only [Act.put, List.setIfInBounds_toArray, List.set_cons_zero, List.set_cons_succ]
        refine Grl.one 6 rfl (by kernel_rfl) (fun K hK => ?_)
        go_simp
        skip
        refine hK.out _ _ (by exact hsS) (fun hHeld => ?_)
        clear hK K
        refine wpAnyH_done (by kernel_rfl) ?_ _
        obtain ⟨e0, e1, -, -⟩ := sbox_two oS
        have HRy := hide ((((unhide HI).grown q8 hBr).only onS (by omega)).is)
        have HLb := hide (Lab.is_of_own (onS.own ol (fun j hj => by have := own_ge ol j hj; omega)))
        have by9 := hide ((b0.trans (below_of_grown q8 (show w.heap.size ≤ rb by omega) b0.size)).trans (onS.below (Nat.le_refl _)))
        clear HI HAL HSX HX HZ HR oS onS ol
        go_wp2_with fail
        refine bodyPost_ret (v := .tuple #[.slice av (n + 1) qv, .slice la ls.length lq, .agg #[.int .i64 T, .int .i64 V]]) (by simp [results, Try.results4, go_sem, e0, e1]) rfl ?_
        exact ⟨L, ls, T, V, _, _, rfl, unhide HGG, ⟨hl20, fun y hy => good_smallL (hsm y hy)⟩, unhide HTV, unhide HRy, unhide HLb, unhide by9⟩
end Go.Proofs.Ytncjagdnebpaaaa.Draw

/- By how much samples rose, in two parts. No condition. -/
namespace Go.Proofs.Ytncjagdnebpaaaa.SampMath
theorem ok_sub {zs ys : List S} (h : ok zs = true) (hs : ys.Sublist zs) : ok ys = true := by
  rw [Samp.ok_iff] at h ⊢
  exact ⟨fun z hz => h.1 z (hs.subset hz), h.2.sublist hs⟩
theorem at_take {zs : List S} {k i : Nat} (h : i < k) : at' (zs.take k) i = at' zs i := by
  simp [at', List.getD, h]
theorem at_drop (zs : List S) (k i : Nat) : at' (zs.drop k) i = at' zs (k + i) := by
  simp [at', List.getD, List.getElem?_drop]
theorem up_take {zs : List S} {k i : Nat} (h : i < k) : up (zs.take k) i = up zs i := by
  unfold up; rw [at_take h, at_take (by omega)]
theorem upTo_take {zs : List S} {k : Nat} : ∀ j, j ≤ k → upTo (zs.take k) j = upTo zs j := by
  intro j
  induction j with
  | zero => intro _; rfl
  | succ j ih =>
    intro h
    by_cases h0 : j = 0
    · subst h0; rfl
    · rw [upTo_succ _ _ (by omega), upTo_succ _ _ (by omega), ih (by omega), up_take (by omega)]
theorem up_drop (zs : List S) (m i : Nat) (h : 0 < i) : up (zs.drop m) i = up zs (m + i) := by
  unfold up; rw [at_drop, at_drop, show m + (i - 1) = m + i - 1 by omega]
theorem upTo_drop (zs : List S) (m : Nat) : ∀ j, upTo (zs.drop m) (j + 1) = upTo zs (m + j + 1) - upTo zs (m + 1) := by
  intro j
  induction j with
  | zero => rw [upTo_one]; simp
  | succ j ih => rw [upTo_succ _ _ (by omega), ih, up_drop _ _ _ (by omega), show m + (j + 1) + 1 = (m + j + 1) + 1 by omega, upTo_succ zs (m + j + 1) (by omega), show m + (j + 1) = m + j + 1 by omega]; omega
theorem rises_ok {zs : List S} (h : ok zs = true) : rises zs = upTo zs zs.length := by unfold rises; rw [h]; rfl
theorem rises_parts {zs : List S} (h : ok zs = true) {k : Nat} (h1 : 1 ≤ k) (h2 : k < zs.length) : rises zs = rises (zs.take k) + rises (zs.drop (k - 1)) := by
  rw [rises_ok h, rises_ok (ok_sub h (List.take_sublist _ _)), rises_ok (ok_sub h (List.drop_sublist _ _))]
  rw [List.length_take, List.length_drop, Nat.min_eq_left (by omega), upTo_take k (Nat.le_refl _)]
  obtain ⟨j, hj⟩ : ∃ j, zs.length - (k - 1) = j + 1 := ⟨zs.length - (k - 1) - 1, by omega⟩
  rw [hj, upTo_drop, show k - 1 + j + 1 = zs.length by omega, show k - 1 + 1 = k by omega]
  omega
theorem rises_range {zs : List S} (h : ok zs = true) : 0 ≤ rises zs ∧ rises zs ≤ 21474836470000 := by
  rw [rises_ok h]
  have := upTo_range h zs.length (Nat.le_refl _)
  have := ok_len h
  omega
theorem upTo_ends {zs : List S} (h : ok zs = true) : ∀ j, j < zs.length → (at' zs j).2 - (at' zs 0).2 ≤ upTo zs (j + 1) := by
  intro j
  induction j with
  | zero => intro _; rw [upTo_one]; omega
  | succ j ih =>
    intro hj
    have a := ih (by omega)
    have b := ok_range h hj
    have c := ok_range h (k := j) (by omega)
    rw [upTo_succ zs (j + 1) (by omega)]
    unfold up
    rw [Nat.add_sub_cancel]
    split <;> omega
theorem rises_ends {zs : List S} (h : ok zs = true) (h0 : 0 < zs.length) : (at' zs (zs.length - 1)).2 - (at' zs 0).2 ≤ rises zs := by
  rw [rises_ok h]
  have := upTo_ends h (zs.length - 1) (by omega)
  rwa [show zs.length - 1 + 1 = zs.length by omega] at this
end Go.Proofs.Ytncjagdnebpaaaa.SampMath
