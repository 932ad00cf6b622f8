/- My own texts of one claim, laid together by program: SamUni, RowOwn, RSet, RSet2. -/
import Derived.Test.YtncjagdnebpaaaaG0c1379396a
import Derived.Test.YtncjagdnebpaaaaG27c89cf4c0
import Derived.Test.YtncjagdnebpaaaaG6afbf05d6a
import Derived.Test.YtncjagdnebpaaaaG228b1de602
/- One face for what the laws' helpers do with slices of impl.Sample. -/
namespace Go.Proofs.Ytncjagdnebpaaaa.Sam
open Go.RowKit Rw
set_option linter.unusedVariables false
/-- a row of its own, in a block from lo on, ahead of hi -/
def Own (lo hi : Nat) (w : World) (v : Value) (zs : List E) : Prop := w.ownsRow lo 26 2 v zs.length (flat zs) ∧ (∀ k, v.ownBlock = some k → k < hi) ∧ hi ≤ w.heap.size
theorem Own.is {lo hi : Nat} {w : World} {v : Value} {zs : List E} (h : Own lo hi w v zs) : Is w v zs := is_of_own h.1
theorem Own.below {lo hi : Nat} {w w' : World} {v : Value} {zs : List E} (h : Own lo hi w v zs) (hb : Below w.heap.size w w') : Own lo hi w' v zs := ⟨own_below h.1 hb, h.2.1, Nat.le_trans h.2.2 hb.size⟩
theorem Own.zone {lo hi a b : Nat} {w w' : World} {v : Value} {zs : List E} (h : Own lo hi w v zs) (hz : Zone a b w w') (ho : hi ≤ a ∨ b ≤ lo) : Own lo hi w' v zs :=
  ⟨hz.own h.1 (fun k hk => by have := h.2.1 k hk; have := own_ge h.1 k hk; omega), h.2.1, Nat.le_trans h.2.2 hz.size⟩
theorem Own.form {lo hi : Nat} {w : World} {v : Value} {zs : List E} (h : Own lo hi w v zs) : ∃ a l q, v = .slice a l q := by
  obtain ⟨-, a, q, e, -⟩ := lies_of_own h.1
  exact ⟨a, _, q, e⟩
theorem Own.of {lo : Nat} {w : World} {v : Value} {zs : List E} (h : w.ownsRow lo 26 2 v zs.length (flat zs)) : Own lo w.heap.size w v zs := ⟨h, own_block_lt h, Nat.le_refl _⟩
def cnt (zs : List E) : Nat := 2 * zs.length
def mk (k0 : Nat) (zs : List E) : List E := marks k0 zs.length
theorem mk_length (k0 : Nat) (zs : List E) : (mk k0 zs).length = zs.length := marks_length _ _
end Go.Proofs.Ytncjagdnebpaaaa.Sam

/- Rows that the call made itself, no two of their slices in one block: copies, marks. -/
namespace Go.Proofs.Ytncjagdnebpaaaa.Row
open Go.RowKit Rw
set_option linter.unusedVariables false
attribute [local go_sem ↓] Go.wp_at_zero Go.wp_at_succ
def ApartF (n : Nat) (f : Nat → Value) : Prop := ∀ i j, i < j → j < n → ∀ k, (f i).ownBlock = some k → (f j).ownBlock ≠ some k
theorem ApartF.ne {n : Nat} {f : Nat → Value} (h : ApartF n f) {i j : Nat} (hij : i ≠ j) (hi : i < n) (hj : j < n) : ∀ k, (f i).ownBlock = some k → (f j).ownBlock ≠ some k := by
  intro k hk
  rcases Nat.lt_or_gt_of_ne hij with hl | hl
  · exact h i j hl hj k hk
  · intro hk'
    exact h j i hl hi k hk' hk
/-- rows of the call's own, in blocks from lo on, ahead of hi -/
def Own (lo hi : Nat) (w : World) (v : Value) (zs : List E) : Prop := ∃ cs : List C, cs.length = zs.length ∧ w.ownsRow lo 44 2 v zs.length (flatOf cl cs) ∧ (∀ k, v.ownBlock = some k → k < hi) ∧ hi ≤ w.heap.size ∧
  ApartF zs.length (fun i => (cat cs i).1) ∧ ApartF zs.length (fun i => (cat cs i).2) ∧
  ∀ i, i < zs.length → (w.ownsRow lo 47 2 (cat cs i).1 (at' zs i).1.length (Lab.flat (at' zs i).1) ∧ w.ownsRow lo 26 2 (cat cs i).2 (at' zs i).2.length (Sam.flat (at' zs i).2)) ∧ (∀ k, (cat cs i).1.ownBlock = some k → k < hi) ∧ (∀ k, (cat cs i).2.ownBlock = some k → k < hi)
theorem Own.is {lo hi : Nat} {w : World} {v : Value} {zs : List E} (h : Own lo hi w v zs) : Is w v zs := by
  obtain ⟨cs, h1, h2, h3, h4, h5, h6, h7⟩ := h
  exact ⟨cs, h1, lies_of_own h2, fun i hi => ⟨Lab.is_of_own (h7 i hi).1.1, Sam.is_of_own (h7 i hi).1.2⟩⟩
theorem Own.below {lo hi : Nat} {w w' : World} {v : Value} {zs : List E} (h : Own lo hi w v zs) (hb : Below w.heap.size w w') : Own lo hi w' v zs := by
  obtain ⟨cs, h1, h2, h3, h4, h5, h6, h7⟩ := h
  exact ⟨cs, h1, own_below h2 hb, h3, Nat.le_trans h4 hb.size, h5, h6, fun i hi => ⟨⟨own_below (h7 i hi).1.1 hb, own_below (h7 i hi).1.2 hb⟩, (h7 i hi).2⟩⟩
theorem Own.zone {lo hi a b : Nat} {w w' : World} {v : Value} {zs : List E} (h : Own lo hi w v zs) (hz : Zone a b w w') (ho : hi ≤ a ∨ b ≤ lo) : Own lo hi w' v zs := by
  obtain ⟨cs, h1, h2, h3, h4, h5, h6, h7⟩ := h
  refine ⟨cs, h1, hz.own h2 (fun k hk => by have := h3 k hk; have := own_ge h2 k hk; omega), h3, Nat.le_trans h4 hz.size, h5, h6, fun i hi => ⟨⟨hz.own (h7 i hi).1.1 (fun k hk => ?_), hz.own (h7 i hi).1.2 (fun k hk => ?_)⟩, (h7 i hi).2⟩⟩
  · have := (h7 i hi).2.1 k hk
    have := own_ge (h7 i hi).1.1 k hk
    omega
  · have := (h7 i hi).2.2 k hk
    have := own_ge (h7 i hi).1.2 k hk
    omega
theorem Own.form {lo hi : Nat} {w : World} {v : Value} {zs : List E} (h : Own lo hi w v zs) : ∃ a l q, v = .slice a l q := by
  obtain ⟨cs, -, h2, -⟩ := h
  obtain ⟨-, a, q, e, -⟩ := lies_of_own h2
  exact ⟨a, _, q, e⟩
theorem apart_snoc {n : Nat} {ds : List C} {c : C} (hd : ds.length = n) (p : C → Value) (h : ApartF n (fun i => p (cat ds i))) (hc : ∀ i, i < n → ∀ k, (p (cat ds i)).ownBlock = some k → (p c).ownBlock ≠ some k) : ApartF (n + 1) (fun i => p (cat (ds ++ [c]) i)) := by
  intro i j hij hj k hk
  simp only at hk ⊢
  rw [cat_lt _ _ _ (by omega)] at hk
  by_cases hl : j < n
  · rw [cat_lt _ _ _ (by omega)]
    exact h i j hij hl k hk
  · obtain rfl : j = ds.length := by omega
    rw [cat_last]
    exact hc i (by omega) k hk
end Go.Proofs.Ytncjagdnebpaaaa.Row

/- The program's set of rows by their keys: a box with a slice of keys and a map. What it holds, a row put into it, the rows of it. -/
namespace Go.Proofs.Ytncjagdnebpaaaa.RSet
open Go.RowKit Rw
set_option linter.unusedVariables false
attribute [local go_sem ↓] Go.wp_at_zero Go.wp_at_succ
/-- a slice that lies in neither block -/
def Free (B mb : Nat) (v : Value) : Prop := ∀ k, v.ownBlock = some k → k ≠ B ∧ k ≠ mb
/-- all that was there is as it was, but for two blocks -/
structure Two (B mb : Nat) (w w' : World) : Prop where
  os : w'.os = w.os
  tape : w'.tape = w.tape
  output : w'.output = w.output
  size : w.heap.size ≤ w'.heap.size
  block : ∀ k, k < w.heap.size → k ≠ B → k ≠ mb → w'.heap[k]? = w.heap[k]?
theorem Two.refl (B mb : Nat) (w : World) : Two B mb w w := ⟨rfl, rfl, rfl, Nat.le_refl _, fun _ _ _ _ => rfl⟩
theorem Two.trans {B mb : Nat} {a b c : World} (h : Two B mb a b) (h' : Two B mb b c) : Two B mb a c :=
  ⟨h'.os.trans h.os, h'.tape.trans h.tape, h'.output.trans h.output, Nat.le_trans h.size h'.size, fun k hk h1 h2 => (h'.block k (Nat.lt_of_lt_of_le hk h.size) h1 h2).trans (h.block k hk h1 h2)⟩
theorem Two.of_below {B mb : Nat} {w w' : World} (h : Below w.heap.size w w') : Two B mb w w' := ⟨h.os, h.tape, h.output, h.size, fun k hk _ _ => h.block k hk⟩
theorem Two.of_onlyB {B mb : Nat} {w w' : World} (h : OnlyAt B w w') : Two B mb w w' := ⟨h.os, h.tape, h.output, Nat.le_of_eq h.size.symm, fun k _ h1 _ => h.block k h1⟩
theorem Two.of_onlyM {B mb : Nat} {w w' : World} (h : OnlyAt mb w w') : Two B mb w w' := ⟨h.os, h.tape, h.output, Nat.le_of_eq h.size.symm, fun k _ _ h2 => h.block k h2⟩
/-- a store into a block that was not there -/
theorem Two.fresh {B mb g : Nat} {w v : World} (h : Two B mb w v) (hg : w.heap.size ≤ g) (j : Nat) (u : Value) : Two B mb w (v.setCell ⟨g, j, none⟩ u) := by
  have ho := (OnlyAt.refl g v).setCell j u
  exact ⟨ho.os.trans h.os, ho.tape.trans h.tape, ho.output.trans h.output, by rw [ho.size]; exact h.size, fun k hk h1 h2 => (ho.block k (by omega)).trans (h.block k hk h1 h2)⟩
theorem Two.then_only {B mb g : Nat} {w v v' : World} (h : Two B mb w v) (hg : w.heap.size ≤ g) (ho : OnlyAt g v v') : Two B mb w v' :=
  ⟨ho.os.trans h.os, ho.tape.trans h.tape, ho.output.trans h.output, by rw [ho.size]; exact h.size, fun k hk h1 h2 => (ho.block k (by omega)).trans (h.block k hk h1 h2)⟩
theorem Two.below {B mb lo : Nat} {w w' : World} (h : Two B mb w w') (h1 : lo ≤ B) (h2 : lo ≤ mb) (hs : lo ≤ w.heap.size) : Below lo w w' := ⟨h.os, h.tape, h.output, h.size, fun k hk => h.block k (by omega) (by omega) (by omega)⟩
theorem Two.cell {B mb : Nat} {w w' : World} (h : Two B mb w w') {b o : Nat} (hl : b < w.heap.size) (h1 : b ≠ B) (h2 : b ≠ mb) : w'.cell? ⟨b, o, none⟩ = w.cell? ⟨b, o, none⟩ := World.cell?_of_block (a := ⟨b, o, none⟩) (h.block b hl h1 h2)
theorem Two.own {B mb : Nat} {w w' : World} (h : Two B mb w w') {base n size : Nat} {e : TypeId} {v : Value} {xs : List Value} (ho : w.ownsRow base e size v n xs) (hv : Free B mb v) : w'.ownsRow base e size v n xs := by
  refine ⟨ho.1, ?_⟩
  rcases ho.2 with h1 | ⟨c, cap, cur, h1, h2, h3, h4⟩
  · exact .inl h1
  · refine .inr ⟨c, cap, cur, h1, h2, ?_, h4⟩
    have hl : c < w.heap.size := own_block_lt ho c (by rw [h1]; rfl)
    rw [h.block c hl (hv c (by rw [h1]; rfl)).1 (hv c (by rw [h1]; rfl)).2]
    exact h3
theorem free_new {w : World} {base B mb n size : Nat} {e : TypeId} {v : Value} {xs : List Value} (h : w.ownsRow base e size v n xs) (h1 : B < base) (h2 : mb < base) : Free B mb v := fun k hk => by have := own_ge h k hk; omega
def aggOf (c : Row.C) : Value := .agg #[c.1, c.2]
/-- a set: its box is B, its map mb; it has the rows R under the keys ks -/
structure IsSet (lo B mb n : Nat) (w : World) (ks : List ByteArray) (M : ByteArray → Option Row.C) (R : ByteArray → Row.E) : Prop where
  loB : lo ≤ B
  loM : lo ≤ mb
  ne : B ≠ mb
  ltB : B < w.heap.size
  key : ∃ kv, w.cell? ⟨B, 0, none⟩ = some kv ∧ w.ownsRow lo 9 1 kv ks.length (Str.flat ks) ∧ Free B mb kv
  mapc : w.cell? ⟨B, 1, none⟩ = some (.map (some mb))
  fz : w.frozen? ⟨B, 0, none⟩ = false
  map : SMap.MapIs w mb n (fun k => (M k).map aggOf)
  has : ∀ k, (M k).isSome = true ↔ k ∈ ks
  row : ∀ k c, M k = some c → (w.ownsRow lo 47 2 c.1 (R k).1.length (Lab.flat (R k).1) ∧ w.ownsRow lo 26 2 c.2 (R k).2.length (Sam.flat (R k).2)) ∧ Free B mb c.1 ∧ Free B mb c.2
  apart : ∀ k k' c c', k ≠ k' → M k = some c → M k' = some c' → (∀ b, c.1.ownBlock = some b → c'.1.ownBlock ≠ some b) ∧ (∀ b, c.2.ownBlock = some b → c'.2.ownBlock ≠ some b)
theorem IsSet.below {lo B mb n : Nat} {w w' : World} {ks : List ByteArray} {M : ByteArray → Option Row.C} {R : ByteArray → Row.E} (h : IsSet lo B mb n w ks M R) (hb : Below w.heap.size w w') : IsSet lo B mb n w' ks M R := by
  obtain ⟨kv, k1, k2, k3⟩ := h.key
  exact ⟨h.loB, h.loM, h.ne, Nat.lt_of_lt_of_le h.ltB hb.size, ⟨kv, (hb.cell (p := ⟨B, 0, none⟩) h.ltB).trans k1, own_below k2 hb, k3⟩, (hb.cell (p := ⟨B, 1, none⟩) h.ltB).trans h.mapc, (hb.frozen (p := ⟨B, 0, none⟩) h.ltB).trans h.fz, h.map.below hb, h.has, fun k c hk => ⟨⟨own_below (h.row k c hk).1.1 hb, own_below (h.row k c hk).1.2 hb⟩, (h.row k c hk).2⟩, h.apart⟩
theorem mem_put (l : List ByteArray) (n z : ByteArray) : z ∈ StrMath.put l n ↔ z ∈ l ∨ z = n := by
  refine ⟨StrMath.mem_put, ?_⟩
  induction l with
  | nil => intro h; simpa [StrMath.put] using h
  | cons x l ih =>
    intro h
    unfold StrMath.put
    split
    · rcases h with h | h
      · rcases List.mem_cons.1 h with e | e
        · rw [e]; exact List.mem_cons_self ..
        · exact List.mem_cons_of_mem _ (ih (.inl e))
      · exact List.mem_cons_of_mem _ (ih (.inr h))
    · split
      · rename_i hx
        rcases h with h | h
        · exact h
        · rw [h, ← hx]; exact List.mem_cons_self ..
      · rcases h with h | h
        · exact List.mem_cons_of_mem _ h
        · rw [h]; exact List.mem_cons_self ..
theorem put_none {w : World} (p lv : Value) (sa : Option Addr) (sc : Nat) : Calls Try.prog 55 #[p, lv, .slice sa 0 sc] w fun e w' => e = .returned (.bool true) ∧ w' = w := by
  go_enter Try.func55, Try.ntmps55
  go_wp2
  go_ret
  exact ⟨rfl, rfl⟩
theorem join_first {zs : List Sam.E} (h : SampMath.ok zs = true) : SampMath.join [] zs = (zs, true) := SampMath.join_some rfl h (by cases zs <;> simp [SampMath.merge])
theorem flat_eq (zs : List Sam.E) : Samp.flat zs = Sam.flat zs := by
  induction zs with
  | nil => rfl
  | cons x zs ih => show [Value.int .i64 x.1, .int .i64 x.2] ++ Samp.flat zs = _; rw [ih]; unfold Sam.flat; rw [show x :: zs = [x] ++ zs from rfl, flatOf_append, flatOf_one]; rfl
theorem key_size {ls : List Lab.E} (hlo : Lab.ok ls = true) : (Lab.keyOf ls).size ≤ 2002002 := by
  have e := Lab.trim_key hlo
  have hsz : (Lab.put ls).size ≤ 2002002 := by
    unfold Lab.put
    rw [if_pos hlo]
    unfold PutMath.wrap
    rw [PutMath.size_of]
    have := Lab.join_small (Lab.ok_small hlo) ls.length
    rw [List.take_of_length_le (Nat.le_refl _)] at this
    simp only [List.length_append, List.length_cons, List.length_nil]
    omega
  rw [← e, PutMath.size_of]
  have h2 : (Lib.trimSuffix (Lab.put ls).data.toList [125]).length ≤ (Lab.put ls).data.toList.length := by
    unfold Lib.trimSuffix
    split
    · exact List.length_take_le' _ _
    · exact Nat.le_refl _
  have h3 : (Lab.put ls).data.toList.length = (Lab.put ls).size := by rw [Array.length_toList]; rfl
  omega
set_option maxRecDepth 100000 in
set_option maxHeartbeats 8000000 in
theorem put_new {lo B mb n m sc : Nat} {sa : Option Addr} {w : World} {ks : List ByteArray} {M : ByteArray → Option Row.C} {R : ByteArray → Row.E} {lv : Value} {ls : List Lab.E} {zs : List Sam.E}
    (h : IsSet lo B mb n w ks M R) (hl : Lab.Is w lv ls) (hlg : ∀ x ∈ ls, Lab.good x) (hlo : Lab.ok ls = true) (hs : Samp.Smp w (.slice sa m sc) zs) (hm : zs.length = m) (hz : SampMath.ok zs = true) (h0 : 0 < m) (h1 : m ≤ 4194304) (hk : ks.length ≤ 1000) (hn : n ≤ 1000) (hN : M (Lab.keyOf ls) = none) (hlow : lo ≤ w.heap.size) :
    Calls Try.prog 55 #[.pointer (some ⟨B, 0, none⟩), lv, .slice sa m sc] w fun e w' => ∃ c, e = .returned (.bool true) ∧ IsSet lo B mb (n + 1) w' (StrMath.put ks (Lab.keyOf ls)) (fun k => if k = Lab.keyOf ls then some c else M k) (fun k => if k = Lab.keyOf ls then (ls, zs) else R k) ∧ Two B mb w w' := by
  have hm0 : (m == 0) = false := by simp; omega
  have hmI : ((m : Int) == 0) = false := by simp; omega
  have HK := hide (Lab.rowKey_any hl hlg hlo)
  have HC := hide (fun W (hb : Below w.heap.size w W) => Lab.copy_any (hl.below hb) (Lab.ok_small hlo))
  have HJ := hide (fun W (hb : Below w.heap.size w W) => Samp.impl_join (w := W) (v := .slice none 0 0) (zs := []) (.inl ⟨rfl, rfl⟩) (hs.below hb) (by simp) (by omega))
  have hKs := key_size hlo
  unfold Samp.Joined at HJ
  rw [join_first hz] at HJ
  simp only [flat_eq] at HJ
  rw [hm] at HJ
  have HKS := hide hKs
  have HLEN := hide (And.intro hk hn)
  obtain ⟨K, hK⟩ : ∃ K, K = Lab.keyOf ls := ⟨_, rfl⟩
  rw [← hK] at HK hN HKS ⊢
  clear hl hlg hlo hs hz hKs hK hk hn
  have hB := h.ltB
  go_enter Try.func55, Try.ntmps55
  go_wp2_with fail
  refine (unhide HK).mono ?_
  rintro e w1 ⟨rfl, b1⟩
  have z1 := b1.size
  have hs1 := h.below b1
  have hlk := hs1.map.look_ok (s := K) (by have := unhide HKS; unfold maxLen; omega)
  simp only [hN, Option.map_none, Option.getD_none, Option.isSome_none] at hlk
  have hmc := hs1.mapc
  have Hs1 := hide hs1
  clear hs1 HK h
  go_wp2_with fail
  obtain ⟨w2, hw2⟩ : ∃ w2, w2 = w1.alloc (.cells #[.slice none 0 0, .slice none 0 0] 44) := ⟨_, rfl⟩
  rw [← hw2]
  have b2 : Below w1.heap.size w1 w2 := by rw [hw2]; exact (Below.refl _ _).alloc (Nat.le_refl _) _
  have z2 : w2.heap.size = w1.heap.size + 1 := by rw [hw2]; simp
  have x20 : w2.cell? ⟨w1.heap.size, 0, none⟩ = some (.slice none 0 0) := by rw [hw2]; simp [go_sem]
  have x21 : w2.cell? ⟨w1.heap.size, 1, none⟩ = some (.slice none 0 0) := by rw [hw2]; simp [go_sem]
  have f20 : w2.frozen? ⟨w1.heap.size, 0, none⟩ = false := by rw [hw2]; simp [go_sem]
  have f21 : w2.frozen? ⟨w1.heap.size, 1, none⟩ = false := by rw [hw2]; simp [go_sem]
  have b12 : Below w.heap.size w w2 := b1.trans (b2.mono z1)
  clear hw2
  refine (unhide HJ w2 b12).mono ?_
  rintro e w3 ⟨x, rfl, ox, b3⟩
  have z3 := b3.size
  have b13 : Below w.heap.size w w3 := b12.trans (b3.mono b12.size)
  have HC3 := hide (unhide HC w3 b13)
  have x30 := (b3.cell (p := ⟨w1.heap.size, 0, none⟩) (by show w1.heap.size < _; omega)).trans x20
  have x31 := (b3.cell (p := ⟨w1.heap.size, 1, none⟩) (by show w1.heap.size < _; omega)).trans x21
  have f30 := (b3.frozen (p := ⟨w1.heap.size, 0, none⟩) (by show w1.heap.size < _; omega)).trans f20
  have f31 := (b3.frozen (p := ⟨w1.heap.size, 1, none⟩) (by show w1.heap.size < _; omega)).trans f21
  clear x20 x21 f20 f21 HJ HC hlk hmc
  go_wp2_with fail
  refine (unhide HC3).mono ?_
  rintro e w4 ⟨r, rfl, orr, b4⟩
  obtain ⟨ra, rq, rfl⟩ : ∃ a q, r = .slice a ls.length q := by obtain ⟨-, a, q, e, -⟩ := lies_of_own orr; exact ⟨a, q, e⟩
  obtain ⟨xa, xq, rfl⟩ : ∃ a q, x = .slice a m q := by obtain ⟨-, a, q, e, -⟩ := lies_of_own ox; exact ⟨a, q, e⟩
  have z4 := b4.size
  have x40 := (b4.cell (p := ⟨w1.heap.size, 0, none⟩) (by show w1.heap.size < _; omega)).trans x30
  have x41 := (b4.cell (p := ⟨w1.heap.size, 1, none⟩) (by show w1.heap.size < _; omega)).trans x31
  have f40 := (b4.frozen (p := ⟨w1.heap.size, 0, none⟩) (by show w1.heap.size < _; omega)).trans f30
  have f41 := (b4.frozen (p := ⟨w1.heap.size, 1, none⟩) (by show w1.heap.size < _; omega)).trans f31
  clear x30 x31 f30 f31 HC3
  have b14 : Below w1.heap.size w1 w4 := (b2.trans (b3.mono b2.size)).trans (b4.mono (by omega))
  have hs4 := (unhide Hs1).below b14
  obtain ⟨kv, kc1, ko1, kf⟩ := (unhide Hs1).key
  have HKB := hide (own_block_lt ko1)
  have kc := (b14.cell (p := ⟨B, 0, none⟩) (by show B < _; omega)).trans kc1
  have ko := own_below ko1 b14
  have hf4 := hs4.fz
  have hm4 := hs4.mapc
  obtain ⟨ka, kq, hkv⟩ : ∃ a q, kv = .slice a ks.length q := by obtain ⟨-, a, q, e, -⟩ := lies_of_own ko; exact ⟨a, q, e⟩
  clear kc1 ko1
  have hne1 : ¬ B = w1.heap.size := by omega
  have hne2 : ¬ w1.heap.size = B := by omega
  obtain ⟨w5, hw5⟩ : ∃ w5, w5 = w4.setCell ⟨w1.heap.size, 0, none⟩ (.slice ra ls.length rq) := ⟨_, rfl⟩
  have o5 : OnlyAt w1.heap.size w4 w5 := by rw [hw5]; exact (OnlyAt.refl _ _).setCell 0 _
  have z5 : w5.heap.size = w4.heap.size := o5.size
  have kc5 : w5.cell? ⟨B, 0, none⟩ = some kv := (World.cell?_of_block (a := ⟨B, 0, none⟩) (o5.block B hne1)).trans kc
  have ko5 := o5.own ko (fun k hk' => by have := unhide HKB k hk'; omega)
  have HP := hide (fun (W : World) (hb : Below w5.heap.size w5 W) (u : Value) (hu : Str.Is W u [K]) => Str.put_any (Str.is_of_own (own_below ko5 hb)) hu (by have := (unhide HLEN).1; omega))
  subst hkv
  have hfr5 : w5.frozen? ⟨B, 0, none⟩ = false := (World.frozen?_of_block (a := ⟨B, 0, none⟩) (o5.block B hne1)).trans hf4
  have hmc5 : w5.cell? ⟨B, 1, none⟩ = some (.map (some mb)) := (World.cell?_of_block (a := ⟨B, 1, none⟩) (o5.block B hne1)).trans hm4
  have x50 : w5.cell? ⟨w1.heap.size, 0, none⟩ = some (.slice ra ls.length rq) := by rw [hw5]; exact World.cell?_setCell_same _ _ _ x40
  have x51 : w5.cell? ⟨w1.heap.size, 1, none⟩ = some (.slice none 0 0) := by rw [hw5]; rw [World.cell?_setCell_other]; exact x41; simp
  have f51 : w5.frozen? ⟨w1.heap.size, 1, none⟩ = false := by rw [hw5]; rw [World.frozen?_setCell]; exact f41
  go_wp2_with fail
  rw [← hw5]
  clear hw5
  have b5a : Below w5.heap.size w5 (w5.alloc (.cells #[.string K] 9)) := (Below.refl _ _).alloc (Nat.le_refl _) _
  refine (unhide HP _ b5a _ (lies_new (n := 1) (size := 1) z5.symm rfl (by unfold maxLen; omega))).mono ?_
  rintro e w6 ⟨kr, rfl, o6, b6⟩
  obtain ⟨kra, krq, rfl⟩ : ∃ a q, kr = .slice a (StrMath.put ks K).length q := by obtain ⟨-, a, q, e, -⟩ := lies_of_own o6; exact ⟨a, q, e⟩
  have b56 : Below w5.heap.size w5 w6 := b5a.trans (b6.mono b5a.size)
  have z6 := b56.size
  have kc6 := (b56.cell (p := ⟨B, 0, none⟩) (by show B < _; omega)).trans kc5
  have hfr6 := (b56.frozen (p := ⟨B, 0, none⟩) (by show B < _; omega)).trans hfr5
  have hmc6 := (b56.cell (p := ⟨B, 1, none⟩) (by show B < _; omega)).trans hmc5
  have x60 := (b56.cell (p := ⟨w1.heap.size, 0, none⟩) (by show w1.heap.size < _; omega)).trans x50
  have x61 := (b56.cell (p := ⟨w1.heap.size, 1, none⟩) (by show w1.heap.size < _; omega)).trans x51
  have f61 := (b56.frozen (p := ⟨w1.heap.size, 1, none⟩) (by show w1.heap.size < _; omega)).trans f51
  have HO6 := hide o6
  clear kc5 hfr5 hmc5 x50 x51 f51 HP x40 x41 f40 f41 kc hf4 hm4 o6
  obtain ⟨w7, hw7⟩ : ∃ w7, w7 = w6.setCell ⟨B, 0, none⟩ (.slice kra (StrMath.put ks K).length krq) := ⟨_, rfl⟩
  have o7 : OnlyAt B w6 w7 := by rw [hw7]; exact (OnlyAt.refl _ _).setCell 0 _
  obtain ⟨w8, hw8⟩ : ∃ w8, w8 = w7.setCell ⟨w1.heap.size, 1, none⟩ (.slice xa m xq) := ⟨_, rfl⟩
  have o8 : OnlyAt w1.heap.size w7 w8 := by rw [hw8]; exact (OnlyAt.refl _ _).setCell 1 _
  have c80 : w8.cell? ⟨w1.heap.size, 0, none⟩ = some (.slice ra ls.length rq) := by rw [hw8, World.cell?_setCell_other _ _ _ _ (by simp)]; exact (World.cell?_of_block (a := ⟨w1.heap.size, 0, none⟩) (o7.block _ hne2)).trans x60
  have c71 : w7.cell? ⟨w1.heap.size, 1, none⟩ = some (.slice none 0 0) := (World.cell?_of_block (a := ⟨w1.heap.size, 1, none⟩) (o7.block _ hne2)).trans x61
  have c81 : w8.cell? ⟨w1.heap.size, 1, none⟩ = some (.slice xa m xq) := by rw [hw8]; exact World.cell?_setCell_same _ _ _ c71
  have c7B : w7.cell? ⟨B, 0, none⟩ = some (.slice kra (StrMath.put ks K).length krq) := by rw [hw7]; exact World.cell?_setCell_same _ _ _ kc6
  have c8B : w8.cell? ⟨B, 0, none⟩ = some (.slice kra (StrMath.put ks K).length krq) := (World.cell?_of_block (a := ⟨B, 0, none⟩) (o8.block _ hne1)).trans c7B
  have c7M : w7.cell? ⟨B, 1, none⟩ = some (.map (some mb)) := by rw [hw7, World.cell?_setCell_other _ _ _ _ (by simp)]; exact hmc6
  have c8M : w8.cell? ⟨B, 1, none⟩ = some (.map (some mb)) := (World.cell?_of_block (a := ⟨B, 1, none⟩) (o8.block _ hne1)).trans c7M
  have f8B : w8.frozen? ⟨B, 0, none⟩ = false := (World.frozen?_of_block (a := ⟨B, 0, none⟩) (o8.block _ hne1)).trans (by rw [hw7, World.frozen?_setCell]; exact hfr6)
  have hml := (unhide Hs1).map.lt
  have hnem : mb ≠ w1.heap.size := by omega
  have hBm := (unhide Hs1).ne
  have m8 : SMap.MapIs w8 mb n (fun k => (M k).map aggOf) := (((hs4.map.block (o5.block mb hnem)).below b56).block (o7.block mb (fun e => hBm e.symm))).block (o8.block mb hnem)
  obtain ⟨w9, hmu, m9, o9⟩ := (m8.below (Below.refl _ _).drew).store (s := K) (by have := unhide HKS; unfold maxLen; omega) (by have := (unhide HLEN).2; unfold maxLen; omega) (.agg #[.slice ra ls.length rq, .slice xa m xq])
  have S8 : (fun W : World => W.cell? ⟨B, 1, none⟩ = some (.map (some mb)) ∧ W.cell? ⟨w1.heap.size, 0, none⟩ = some (.slice ra ls.length rq) ∧ W.cell? ⟨w1.heap.size, 1, none⟩ = some (.slice xa m xq)) w8.drew := ⟨by simpa using c8M, by simpa using c80, by simpa using c81⟩
  have S9 : (fun W : World => W.cell? ⟨B, 1, none⟩ = some (.map (some mb)) ∧ W.cell? ⟨w1.heap.size, 0, none⟩ = some (.slice ra ls.length rq) ∧ W.cell? ⟨w1.heap.size, 1, none⟩ = some (.slice xa m xq)) w9 := ⟨(World.cell?_of_block (a := ⟨B, 1, none⟩) (o9.block _ hBm)).trans S8.1, (World.cell?_of_block (a := ⟨w1.heap.size, 0, none⟩) (o9.block _ hnem.symm)).trans S8.2.1, (World.cell?_of_block (a := ⟨w1.heap.size, 1, none⟩) (o9.block _ hnem.symm)).trans S8.2.2⟩
  have HM9 := hide m9
  clear m9 m8
  go_wp2_with fail
  rw [← hw7, ← hw8]
  clear hw7 hw8
  go_region_held3 (fun W => W.cell? ⟨B, 1, none⟩ = some (.map (some mb)) ∧ W.cell? ⟨w1.heap.size, 0, none⟩ = some (.slice ra ls.length rq) ∧ W.cell? ⟨w1.heap.size, 1, none⟩ = some (.slice xa m xq)) (first | exact S8 | exact S9) (fail)
  go_wp2_with fail
  go_ret
  have z7 := o7.size
  have z8 := o8.size
  have z9 := o9.size
  simp only [World.size_drew] at z9
  have carry5 : ∀ {base e size n v} {xs : List Value}, w5.ownsRow base e size v n xs → (∀ k, v.ownBlock = some k → k ≠ B ∧ k ≠ mb ∧ k ≠ w1.heap.size) → w9.ownsRow base e size v n xs := fun ho hk => o9.own (World.ownsRow.drew (o8.own (o7.own (own_below ho b56) (fun k h => (hk k h).1)) (fun k h => (hk k h).2.2))) (fun k h => (hk k h).2.1)
  have two1 : Two B mb w1 w9 := ((((((Two.of_below b14).then_only (Nat.le_refl _) o5).trans (Two.of_below b56)).trans (Two.of_onlyB o7)).then_only (Nat.le_refl _) o8).trans (Two.of_below (Below.refl _ _).drew)).trans (Two.of_onlyM o9)
  have hs1 := unhide Hs1
  have hml1 : mb < w1.heap.size := hml
  have or9 : w9.ownsRow lo 47 2 (.slice ra ls.length rq) ls.length (Lab.flat ls) := own_mono (carry5 (o5.own orr (fun k hk' => by have := own_ge orr k hk'; omega)) (fun k hk' => by have := own_ge orr k hk'; omega)) (by omega)
  have ox4 := own_below ox b4
  have ox9 : w9.ownsRow lo 26 2 (.slice xa m xq) m (Sam.flat zs) := own_mono (carry5 (o5.own ox4 (fun k hk' => by have := own_ge ox k hk'; omega)) (fun k hk' => by have := own_ge ox k hk'; omega)) (by omega)
  have ok6 := unhide HO6
  simp only [World.size_alloc] at ok6
  have ok9 : w9.ownsRow lo 9 1 (.slice kra (StrMath.put ks K).length krq) (StrMath.put ks K).length (Str.flat (StrMath.put ks K)) := own_mono (o9.own (World.ownsRow.drew (o8.own (o7.own ok6 (fun k hk' => by have := own_ge ok6 k hk'; omega)) (fun k hk' => by have := own_ge ok6 k hk'; omega))) (fun k hk' => by have := own_ge ok6 k hk'; omega)) (by omega)
  refine ⟨(.slice ra ls.length rq, .slice xa m xq), rfl, ⟨hs1.loB, hs1.loM, hs1.ne, by omega, ⟨_, (World.cell?_of_block (a := ⟨B, 0, none⟩) (o9.block _ hBm)).trans (by simpa using c8B), ok9, fun k hk' => by have := own_ge ok6 k hk'; omega⟩, S9.1, (World.frozen?_of_block (a := ⟨B, 0, none⟩) (o9.block _ hBm)).trans (by simpa using f8B), ?_, ?_, ?_, ?_⟩, (Two.of_below b1).trans two1⟩
  · have e : (fun k => (if k = K then some (Value.slice ra ls.length rq, Value.slice xa m xq) else M k).map aggOf) = (fun t => if t = K then some (.agg #[.slice ra ls.length rq, .slice xa m xq]) else (M t).map aggOf) := by funext t; split <;> rfl
    rw [e]
    exact unhide HM9
  · intro k
    rw [mem_put]
    by_cases e : k = K
    · simp [e]
    · simp only [e, or_false]
      exact hs1.has k
  · intro k c hc
    by_cases e : k = K
    · simp only [if_pos e, Option.some.injEq] at hc ⊢
      subst hc
      simp only
      rw [hm]
      exact ⟨⟨or9, ox9⟩, fun k hk' => by have := own_ge orr k hk'; omega, fun k hk' => by have := own_ge ox k hk'; omega⟩
    · simp only [if_neg e] at hc ⊢
      obtain ⟨⟨p1, p2⟩, p3, p4⟩ := hs1.row k c hc
      exact ⟨⟨two1.own p1 p3, two1.own p2 p4⟩, p3, p4⟩
  · intro k k' c c' hne hc hc'
    by_cases e : k = K
    · have e' : ¬ k' = K := fun h => hne (e.trans h.symm)
      simp only [if_pos e, if_neg e', Option.some.injEq] at hc hc'
      subst hc
      obtain ⟨⟨p1, p2⟩, p3, p4⟩ := hs1.row k' c' hc'
      exact ⟨fun b hb hb' => by have h1 := own_ge orr b hb; have h2 := own_block_lt p1 b hb'; omega, fun b hb hb' => by have h1 := own_ge ox b hb; have h2 := own_block_lt p2 b hb'; omega⟩
    · by_cases e' : k' = K
      · simp only [if_neg e, if_pos e', Option.some.injEq] at hc hc'
        subst hc'
        obtain ⟨⟨p1, p2⟩, p3, p4⟩ := hs1.row k c hc
        exact ⟨fun b hb hb' => by have h1 := own_ge orr b hb'; have h2 := own_block_lt p1 b hb; omega, fun b hb hb' => by have h1 := own_ge ox b hb'; have h2 := own_block_lt p2 b hb; omega⟩
      · simp only [if_neg e, if_neg e'] at hc hc'
        exact hs1.apart k k' c c' hne hc hc'
end Go.Proofs.Ytncjagdnebpaaaa.RSet

/- The rows of a set; a new set; samples put to a row that is there. -/
namespace Go.Proofs.Ytncjagdnebpaaaa.RSet
open Go.RowKit Rw
set_option linter.unusedVariables false
attribute [local go_sem ↓] Go.wp_at_zero Go.wp_at_succ
theorem new_any (w : World) : Calls Try.prog 41 #[] w fun e w' => ∃ mb, e = .returned (.agg #[.slice none 0 0, .map (some mb)]) ∧ w.heap.size ≤ mb ∧ SMap.MapIs w' mb 0 (fun _ => none) ∧ Below w.heap.size w w' := by
  have hmm := @run_makeMap Try.prog
  have B2 := hide (((Below.refl w.heap.size w).alloc (Nat.le_refl _) (.cells #[.slice none 0 0, .map (some (w.heap.size + 1))] 69)).alloc (by simp) (.map #[] 0))
  have hM := SMap.made (w.alloc (.cells #[.slice none 0 0, .map (some (w.heap.size + 1))] 69))
  simp only [World.size_alloc] at hM
  have hM2 := hide hM
  clear hM
  go_enter Try.func41, Try.ntmps41
  go_wp2
  refine bodyPost_ret (v := .agg #[.slice none 0 0, .map (some (w.heap.size + 1))]) (by simp [results, Try.results41, go_sem]) rfl ⟨_, rfl, by omega, unhide hM2, unhide B2⟩
set_option maxRecDepth 100000 in
set_option maxHeartbeats 8000000 in
theorem put_fail {lo B mb n m sc : Nat} {sa : Option Addr} {w : World} {ks : List ByteArray} {M : ByteArray → Option Row.C} {R : ByteArray → Row.E} {lv : Value} {ls : List Lab.E} {zs : List Sam.E} {c : Row.C}
    (h : IsSet lo B mb n w ks M R) (hl : Lab.Is w lv ls) (hlg : ∀ x ∈ ls, Lab.good x) (hlo : Lab.ok ls = true) (hs : Samp.Smp w (.slice sa m sc) zs) (hm : zs.length = m) (hJ : (SampMath.join (R (Lab.keyOf ls)).2 zs).2 = false) (h0 : 0 < m) (h1 : m ≤ 4194304) (h2 : (R (Lab.keyOf ls)).2.length ≤ 4194304) (hN : M (Lab.keyOf ls) = some c) :
    Calls Try.prog 55 #[.pointer (some ⟨B, 0, none⟩), lv, .slice sa m sc] w fun e w' => e = .returned (.bool false) ∧ Below w.heap.size w w' := by
  have hm0 : (m == 0) = false := by simp; omega
  have hmI : ((m : Int) == 0) = false := by simp; omega
  have HK := hide (Lab.rowKey_any hl hlg hlo)
  obtain ⟨⟨p1, p2⟩, p3, p4⟩ := h.row _ c hN
  have HJ := hide (fun W (hb : Below w.heap.size w W) => Samp.impl_join (w := W) (v := c.2) (zs := (R (Lab.keyOf ls)).2) (Samp.smp_of_own (by rw [flat_eq]; exact own_below p2 hb)) (hs.below hb) h2 (by omega))
  have hKs := key_size hlo
  unfold Samp.Joined at HJ
  rw [hJ] at HJ
  have HKS := hide hKs
  obtain ⟨K, hK⟩ : ∃ K, K = Lab.keyOf ls := ⟨_, rfl⟩
  rw [← hK] at HK hN HKS HJ p1 p2
  clear hl hlg hlo hs hKs hK hJ h2
  obtain ⟨c0, c1⟩ := c
  simp only at p1 p2 HJ
  obtain ⟨-, a0, q0, e0, -⟩ := lies_of_own p1
  obtain ⟨-, a1, q1, e1, -⟩ := lies_of_own p2
  generalize (R K).1.length = l0 at e0
  generalize (R K).2.length = l1 at e1
  clear p1 p2 p3 p4
  subst e0 e1
  have hB := h.ltB
  go_enter Try.func55, Try.ntmps55
  go_wp2_with fail
  refine (unhide HK).mono ?_
  rintro e w1 ⟨rfl, b1⟩
  have z1 := b1.size
  have hs1 := h.below b1
  have hlk := hs1.map.look_ok (s := K) (by have := unhide HKS; unfold maxLen; omega)
  simp only [hN, Option.map_some, Option.getD_some, Option.isSome_some, aggOf] at hlk
  have hmc := hs1.mapc
  clear hs1 HK h
  go_wp2_with fail
  obtain ⟨w2, hw2⟩ : ∃ w2, w2 = w1.alloc (.cells #[.slice a0 l0 q0, .slice a1 l1 q1] 44) := ⟨_, rfl⟩
  rw [← hw2]
  have b2 : Below w1.heap.size w1 w2 := by rw [hw2]; exact (Below.refl _ _).alloc (Nat.le_refl _) _
  have b12 : Below w.heap.size w w2 := b1.trans (b2.mono z1)
  clear hw2
  refine (unhide HJ w2 b12).mono ?_
  rintro e w3 ⟨x, rfl, ox, b3⟩
  have b13 : Below w.heap.size w w3 := b12.trans (b3.mono b12.size)
  clear HJ hlk hmc ox b3
  go_wp2_with fail
  go_ret
  exact ⟨rfl, b13⟩
set_option maxRecDepth 100000 in
set_option maxHeartbeats 8000000 in
theorem put_old {lo B mb n m sc : Nat} {sa : Option Addr} {w : World} {ks : List ByteArray} {M : ByteArray → Option Row.C} {R : ByteArray → Row.E} {lv : Value} {ls : List Lab.E} {zs J : List Sam.E} {c : Row.C}
    (h : IsSet lo B mb n w ks M R) (hl : Lab.Is w lv ls) (hlg : ∀ x ∈ ls, Lab.good x) (hlo : Lab.ok ls = true) (hs : Samp.Smp w (.slice sa m sc) zs) (hm : zs.length = m) (hJ : SampMath.join (R (Lab.keyOf ls)).2 zs = (J, true)) (h0 : 0 < m) (h1 : m ≤ 4194304) (h2 : (R (Lab.keyOf ls)).2.length ≤ 4194304) (hn : n ≤ 1000) (hN : M (Lab.keyOf ls) = some c) (hlow : lo ≤ w.heap.size) :
    Calls Try.prog 55 #[.pointer (some ⟨B, 0, none⟩), lv, .slice sa m sc] w fun e w' => ∃ c, e = .returned (.bool true) ∧ IsSet lo B mb (n + 1) w' ks (fun k => if k = Lab.keyOf ls then some c else M k) (fun k => if k = Lab.keyOf ls then ((R k).1, J) else R k) ∧ Two B mb w w' := by
  have hm0 : (m == 0) = false := by simp; omega
  have hmI : ((m : Int) == 0) = false := by simp; omega
  have HK := hide (Lab.rowKey_any hl hlg hlo)
  obtain ⟨⟨p1, p2⟩, p3, p4⟩ := h.row _ c hN
  have HJ := hide (fun W (hb : Below w.heap.size w W) => Samp.impl_join (w := W) (v := c.2) (zs := (R (Lab.keyOf ls)).2) (Samp.smp_of_own (by rw [flat_eq]; exact own_below p2 hb)) (hs.below hb) h2 (by omega))
  have hKs := key_size hlo
  unfold Samp.Joined at HJ
  rw [hJ] at HJ
  simp only [flat_eq] at HJ
  have HKS := hide hKs
  have HLEN := hide hn
  obtain ⟨K, hK⟩ : ∃ K, K = Lab.keyOf ls := ⟨_, rfl⟩
  rw [← hK] at HK hN HKS p1 p2 ⊢
  clear hl hlg hlo hs hKs hK hJ h2 hn
  obtain ⟨c0, c1⟩ := c
  simp only at p1 p2 p3 p4 HJ
  have HP1 := hide p1
  have HP3 := hide p3
  obtain ⟨-, a0, q0, e0, -⟩ := lies_of_own p1
  obtain ⟨-, a1, q1, e1, -⟩ := lies_of_own p2
  generalize hl0 : (R K).1.length = l0 at e0
  generalize (R K).2.length = l1 at e1
  have HL0 := hide hl0
  clear p1 p2 p3 p4 hl0
  subst e0 e1
  have hB := h.ltB
  go_enter Try.func55, Try.ntmps55
  go_wp2_with fail
  refine (unhide HK).mono ?_
  rintro e w1 ⟨rfl, b1⟩
  have z1 := b1.size
  have hs1 := h.below b1
  have hlk := hs1.map.look_ok (s := K) (by have := unhide HKS; unfold maxLen; omega)
  simp only [hN, Option.map_some, Option.getD_some, Option.isSome_some, aggOf] at hlk
  have hmc := hs1.mapc
  have Hs1 := hide hs1
  clear hs1 HK h
  go_wp2_with fail
  obtain ⟨w2, hw2⟩ : ∃ w2, w2 = w1.alloc (.cells #[.slice a0 l0 q0, .slice a1 l1 q1] 44) := ⟨_, rfl⟩
  rw [← hw2]
  have b2 : Below w1.heap.size w1 w2 := by rw [hw2]; exact (Below.refl _ _).alloc (Nat.le_refl _) _
  have z2 : w2.heap.size = w1.heap.size + 1 := by rw [hw2]; simp
  have x20 : w2.cell? ⟨w1.heap.size, 0, none⟩ = some (.slice a0 l0 q0) := by rw [hw2]; simp [go_sem]
  have x21 : w2.cell? ⟨w1.heap.size, 1, none⟩ = some (.slice a1 l1 q1) := by rw [hw2]; simp [go_sem]
  have f21 : w2.frozen? ⟨w1.heap.size, 1, none⟩ = false := by rw [hw2]; simp [go_sem]
  have b12 : Below w.heap.size w w2 := b1.trans (b2.mono z1)
  clear hw2
  refine (unhide HJ w2 b12).mono ?_
  rintro e w3 ⟨x, rfl, ox, b3⟩
  have z3 := b3.size
  obtain ⟨xa, xq, rfl⟩ : ∃ a q, x = .slice a J.length q := by obtain ⟨-, a, q, e, -⟩ := lies_of_own ox; exact ⟨a, q, e⟩
  have b13 : Below w.heap.size w w3 := b12.trans (b3.mono b12.size)
  have b1_3 : Below w1.heap.size w1 w3 := b2.trans (b3.mono b2.size)
  have x30 := (b3.cell (p := ⟨w1.heap.size, 0, none⟩) (by show w1.heap.size < _; omega)).trans x20
  have x31 := (b3.cell (p := ⟨w1.heap.size, 1, none⟩) (by show w1.heap.size < _; omega)).trans x21
  have f31 := (b3.frozen (p := ⟨w1.heap.size, 1, none⟩) (by show w1.heap.size < _; omega)).trans f21
  clear x20 x21 f21 HJ hlk hmc
  have hs3 := (unhide Hs1).below b1_3
  have hne1 : ¬ B = w1.heap.size := by omega
  have hne2 : ¬ w1.heap.size = B := by omega
  obtain ⟨w8, hw8⟩ : ∃ w8, w8 = w3.setCell ⟨w1.heap.size, 1, none⟩ (.slice xa J.length xq) := ⟨_, rfl⟩
  have o8 : OnlyAt w1.heap.size w3 w8 := by rw [hw8]; exact (OnlyAt.refl _ _).setCell 1 _
  have c80 : w8.cell? ⟨w1.heap.size, 0, none⟩ = some (.slice a0 l0 q0) := by rw [hw8, World.cell?_setCell_other _ _ _ _ (by simp)]; exact x30
  have c81 : w8.cell? ⟨w1.heap.size, 1, none⟩ = some (.slice xa J.length xq) := by rw [hw8]; exact World.cell?_setCell_same _ _ _ x31
  have c8M : w8.cell? ⟨B, 1, none⟩ = some (.map (some mb)) := (World.cell?_of_block (a := ⟨B, 1, none⟩) (o8.block _ hne1)).trans hs3.mapc
  have hml := (unhide Hs1).map.lt
  have hnem : mb ≠ w1.heap.size := by omega
  have hBm := (unhide Hs1).ne
  have m8 : SMap.MapIs w8 mb n (fun k => (M k).map aggOf) := hs3.map.block (o8.block mb hnem)
  obtain ⟨w9, hmu, m9, o9⟩ := (m8.below (Below.refl _ _).drew).store (s := K) (by have := unhide HKS; unfold maxLen; omega) (by have := unhide HLEN; unfold maxLen; omega) (.agg #[.slice a0 l0 q0, .slice xa J.length xq])
  have S8 : (fun W : World => W.cell? ⟨B, 1, none⟩ = some (.map (some mb)) ∧ W.cell? ⟨w1.heap.size, 0, none⟩ = some (.slice a0 l0 q0) ∧ W.cell? ⟨w1.heap.size, 1, none⟩ = some (.slice xa J.length xq)) w8.drew := ⟨by simpa using c8M, by simpa using c80, by simpa using c81⟩
  have S9 : (fun W : World => W.cell? ⟨B, 1, none⟩ = some (.map (some mb)) ∧ W.cell? ⟨w1.heap.size, 0, none⟩ = some (.slice a0 l0 q0) ∧ W.cell? ⟨w1.heap.size, 1, none⟩ = some (.slice xa J.length xq)) w9 := ⟨(World.cell?_of_block (a := ⟨B, 1, none⟩) (o9.block _ hBm)).trans S8.1, (World.cell?_of_block (a := ⟨w1.heap.size, 0, none⟩) (o9.block _ hnem.symm)).trans S8.2.1, (World.cell?_of_block (a := ⟨w1.heap.size, 1, none⟩) (o9.block _ hnem.symm)).trans S8.2.2⟩
  have HM9 := hide m9
  have Hs3 := hide hs3
  clear m9 m8 hs3
  go_wp2_with fail
  rw [← hw8]
  clear hw8
  go_region_held3 (fun W => W.cell? ⟨B, 1, none⟩ = some (.map (some mb)) ∧ W.cell? ⟨w1.heap.size, 0, none⟩ = some (.slice a0 l0 q0) ∧ W.cell? ⟨w1.heap.size, 1, none⟩ = some (.slice xa J.length xq)) (first | exact S8 | exact S9) (fail)
  go_wp2_with fail
  go_ret
  have z8 := o8.size
  have z9 := o9.size
  simp only [World.size_drew] at z9
  have two1 : Two B mb w1 w9 := (((Two.of_below b1_3).then_only (Nat.le_refl _) o8).trans (Two.of_below (Below.refl _ _).drew)).trans (Two.of_onlyM o9)
  have hs1 := unhide Hs1
  have hml1 : mb < w1.heap.size := hml
  have ox9 : w9.ownsRow lo 26 2 (.slice xa J.length xq) J.length (Sam.flat J) := own_mono (o9.own (World.ownsRow.drew (o8.own ox (fun k hk' => by have := own_ge ox k hk'; omega))) (fun k hk' => by have := own_ge ox k hk'; omega)) (by omega)
  obtain ⟨kv, kc1, ko1, kf⟩ := hs1.key
  refine ⟨(.slice a0 l0 q0, .slice xa J.length xq), rfl, ⟨hs1.loB, hs1.loM, hs1.ne, by omega, ⟨kv, ?_, two1.own ko1 kf, kf⟩, S9.1, ?_, ?_, ?_, ?_, ?_⟩, (Two.of_below b1).trans two1⟩
  · exact (World.cell?_of_block (a := ⟨B, 0, none⟩) (o9.block _ hBm)).trans ((show w8.drew.cell? ⟨B, 0, none⟩ = w8.cell? ⟨B, 0, none⟩ by simp).trans ((World.cell?_of_block (a := ⟨B, 0, none⟩) (o8.block _ hne1)).trans ((b1_3.cell (p := ⟨B, 0, none⟩) (by show B < _; omega)).trans kc1)))
  · exact (World.frozen?_of_block (a := ⟨B, 0, none⟩) (o9.block _ hBm)).trans ((show w8.drew.frozen? ⟨B, 0, none⟩ = w8.frozen? ⟨B, 0, none⟩ by simp).trans ((World.frozen?_of_block (a := ⟨B, 0, none⟩) (o8.block _ hne1)).trans (unhide Hs3).fz))
  · have e : (fun k => (if k = K then some (Value.slice a0 l0 q0, Value.slice xa J.length xq) else M k).map aggOf) = (fun t => if t = K then some (.agg #[.slice a0 l0 q0, .slice xa J.length xq]) else (M t).map aggOf) := by funext t; split <;> rfl
    rw [e]
    exact unhide HM9
  · intro k
    by_cases e : k = K
    · subst e
      simp only [if_true, Option.isSome_some, true_iff]
      exact (hs1.has k).1 (by rw [hN]; rfl)
    · simp only [if_neg e]
      exact hs1.has k
  · intro k c hc
    by_cases e : k = K
    · subst e
      simp only [if_true, Option.some.injEq] at hc ⊢
      subst hc
      simp only
      have p1 := own_below (unhide HP1) b1
      exact ⟨⟨two1.own p1 (unhide HP3), ox9⟩, unhide HP3, fun k hk' => by have := own_ge ox k hk'; omega⟩
    · simp only [if_neg e] at hc ⊢
      obtain ⟨⟨p1, p2⟩, p3, p4⟩ := hs1.row k c hc
      exact ⟨⟨two1.own p1 p3, two1.own p2 p4⟩, p3, p4⟩
  · intro k k' c c' hne hc hc'
    by_cases e : k = K
    · have e' : ¬ k' = K := fun h => hne (e.trans h.symm)
      simp only [if_pos e, if_neg e', Option.some.injEq] at hc hc'
      subst hc
      obtain ⟨⟨p1, p2⟩, p3, p4⟩ := hs1.row k' c' hc'
      exact ⟨(hs1.apart K k' _ c' (fun h => e' h.symm) hN hc').1, fun b hb hb' => by have h1 := own_ge ox b hb; have h2 := own_block_lt p2 b hb'; omega⟩
    · by_cases e' : k' = K
      · simp only [if_neg e, if_pos e', Option.some.injEq] at hc hc'
        subst hc'
        obtain ⟨⟨p1, p2⟩, p3, p4⟩ := hs1.row k c hc
        exact ⟨(hs1.apart k K c _ e hc hN).1, fun b hb hb' => by have h1 := own_ge ox b hb'; have h2 := own_block_lt p2 b hb; omega⟩
      · simp only [if_neg e, if_neg e'] at hc hc'
        exact hs1.apart k k' c c' hne hc hc'
set_option maxRecDepth 100000 in
set_option maxHeartbeats 8000000 in
theorem rows_any {lo B mb n : Nat} {w : World} {ks : List ByteArray} {M : ByteArray → Option Row.C} {R : ByteArray → Row.E} (h : IsSet lo B mb n w ks M R) (hnd : ks.Nodup) (hsz : ∀ k ∈ ks, k.size ≤ 2002002) (hk : ks.length ≤ 1000) (hlow : lo ≤ w.heap.size) :
    Calls Try.prog 43 #[.pointer (some ⟨B, 0, none⟩)] w fun e w' => ∃ v, e = .returned v ∧ Row.Own lo w'.heap.size w' v (ks.map R) ∧ Below w.heap.size w w' := by
  obtain ⟨i0, hi, hz0, hz1, hz2⟩ := info_parts Row.info_e
  obtain ⟨kv, kc, ko, kf⟩ := h.key
  have hmc := h.mapc
  have hB := h.ltB
  have hL := lies_of_own ko
  obtain ⟨-, ka, kq, rfl, hc, hm, -, hr⟩ := hL
  unfold maxLen at hm
  obtain ⟨l, hl⟩ : ∃ l, l = ks.length := ⟨_, rfl⟩
  rw [← hl] at hc hr hk kc
  have HN := hide hl
  have Hs := hide h
  have HSZ := hide hsz
  have hCell : ∀ k ∈ ks, ∃ c, M k = some c := fun k hk' => by have := (h.has k).2 hk'; exact Option.isSome_iff_exists.1 this
  obtain ⟨F, hF⟩ : ∃ F : ByteArray → Row.C, ∀ k ∈ ks, M k = some (F k) := ⟨fun k => (M k).getD (.slice none 0 0, .slice none 0 0), fun k hk' => by obtain ⟨c, e⟩ := hCell k hk'; simp only [e, Option.getD_some]⟩
  have HF := hide hF
  have HND := hide hnd
  clear h hsz hl ko kf hF hCell hnd
  go_enter Try.func43, Try.ntmps43
  go_wp2_with fail
  go_loopw [3, 11] (fun pv i wr => ∃ (k : Nat) (pa : Option Addr) (pc : Nat), k ≤ l ∧ i = .int .i64 k ∧ pv = .slice pa k pc ∧ wr.ownsRow w.heap.size 44 2 pv k (flatOf Row.cl ((ks.take k).map F)) ∧ Below w.heap.size w wr) (fun _ i _ => l - (intOf i).toNat)
  case atStart => exact ⟨0, none, 0, Nat.zero_le _, rfl, rfl, World.ownsRow_nil _ _ _ _, Below.refl _ _⟩
  case round =>
    obtain ⟨k, pa, pc, hk', rfl, rfl, hown, hbel⟩ := hrel
    have hsz := hbel.size
    have hk0 : (0 : Int) ≤ (k : Int) := Int.natCast_nonneg _
    by_cases hlt : k < l
    · obtain ⟨b, off, rfl, hbl, hcells⟩ := hr (by omega)
      have hkl : k < ks.length := by have := unhide HN; omega
      have fa : (Str.flat ks)[k]? = some (.string ks[k]) := by have := flatOf_get Str.flk ks k 0 hkl (by omega); simpa [Str.fl] using this
      have hc0 : wr.cell? ⟨b, off + k, none⟩ = some (.string ks[k]) := (hbel.cell (p := ⟨b, _, none⟩) hbl).trans (hcells k _ fa)
      have hmem : ks[k] ∈ ks := List.getElem_mem _
      have hMk := unhide HF _ hmem
      have hmcr := (hbel.cell (p := ⟨B, 1, none⟩) hB).trans hmc
      have hlk := ((unhide Hs).map.below hbel).look (s := ks[k]) (by have := unhide HSZ _ hmem; unfold maxLen; omega)
      rw [show (M ks[k]).map aggOf = some (aggOf (F ks[k])) by rw [hMk]; rfl] at hlk
      simp only [Option.getD_some, aggOf] at hlk
      have HPS := hide (show flatOf Row.cl ((ks.take (k + 1)).map F) = flatOf Row.cl ((ks.take k).map F) ++ [(F ks[k]).1, (F ks[k]).2] by rw [List.take_succ_eq_append_getElem hkl, List.map_append, flatOf_append]; rfl)
      obtain ⟨⟨p1, p2⟩, -⟩ := (unhide Hs).row _ _ hMk
      obtain ⟨c0, c1, hX⟩ : ∃ c0 c1, (c0, c1) = F ks[k] := ⟨_, _, rfl⟩
      rw [← hX] at hlk HPS p1 p2
      simp only at hlk HPS p1 p2
      obtain ⟨-, a0, q0, e0, -⟩ := lies_of_own p1
      obtain ⟨-, a1, q1, e1, -⟩ := lies_of_own p2
      generalize (R ks[k]).1.length = l0 at e0
      generalize (R ks[k]).2.length = l1 at e1
      clear hX hMk p1 p2
      subst e0 e1
      clear fa hmem
      generalize ks[k] = K at hc0 hlk
      have hk1 : (k : Int) < (l : Int) := by omega
      have hmx : 1 ≤ maxLen := by unfold maxLen; omega
      go_wp2_with (at_builtin; refine app_wp _ rfl _ _ _ rfl w.heap.size 44 i0 _ 2 48 Try.underlying23 hi hz0 hz1 hz2 rfl (by omega) _ k _ rfl (hown.alloc _) _ 1 [.slice a0 l0 q0, .slice a1 l1 q1] rfl (lies_new (by simp) rfl hmx) (by simp [Value.oneCell']) (by unfold maxLen; omega) (by omega) (by simp; omega) ?_; intro vn wn on gn an)
      have R9 : Below w.heap.size w wn := below_grown (hbel.alloc hsz _) (by simp; omega) gn (own_ge hown)
      have R2 := hide (show wn.ownsRow w.heap.size 44 2 vn (k + 1) (flatOf Row.cl ((ks.take (k + 1)).map F)) by rw [unhide HPS]; exact on)
      obtain ⟨an', cn, hvn⟩ : ∃ a c, vn = .slice a (k + 1) c := by obtain ⟨-, a, c, e, -⟩ := lies_of_own on; exact ⟨a, c, e⟩
      have HV := hide hvn
      clear on gn an hown hvn
      go_wp2_with fail
      go_roundw
      case rel => exact ⟨k + 1, an', cn, by omega, by go_num, unhide HV, unhide R2, R9⟩
      case measure => simp [intOf]; omega
    · obtain rfl : k = l := by omega
      rw [List.take_of_length_le (by have := unhide HN; omega)] at hown
      have hs := (unhide Hs).below hbel
      have HO := hide (show Row.Own lo wr.heap.size wr (.slice pa k pc) (ks.map R) from ⟨ks.map F, by simp, by rw [List.length_map, ← unhide HN]; exact own_mono hown hlow, own_block_lt hown, Nat.le_refl _, fun i j hij hj b hb => by
          rw [List.length_map] at hj
          have e1 : Row.cat (ks.map F) i = F (ks[i]'(by omega)) := by simp [Row.cat, List.getD, show i < ks.length by omega]
          have e2 : Row.cat (ks.map F) j = F ks[j] := by simp [Row.cat, List.getD, hj]
          simp only [e1, e2] at hb ⊢
          exact (hs.apart _ _ _ _ (fun e => by have := (List.getElem_inj (unhide HND)).1 e; omega) (unhide HF _ (List.getElem_mem _)) (unhide HF _ (List.getElem_mem _))).1 b hb, fun i j hij hj b hb => by
          rw [List.length_map] at hj
          have e1 : Row.cat (ks.map F) i = F (ks[i]'(by omega)) := by simp [Row.cat, List.getD, show i < ks.length by omega]
          have e2 : Row.cat (ks.map F) j = F ks[j] := by simp [Row.cat, List.getD, hj]
          simp only [e1, e2] at hb ⊢
          exact (hs.apart _ _ _ _ (fun e => by have := (List.getElem_inj (unhide HND)).1 e; omega) (unhide HF _ (List.getElem_mem _)) (unhide HF _ (List.getElem_mem _))).2 b hb, fun i hi' => by
          rw [List.length_map] at hi'
          have e1 : Row.cat (ks.map F) i = F ks[i] := by simp [Row.cat, List.getD, hi']
          have e2 : Row.at' (ks.map R) i = R ks[i] := by rw [Row.at_get _ _ (by rw [List.length_map]; exact hi')]; simp
          rw [e1, e2]
          have := (hs.row _ _ (unhide HF _ (List.getElem_mem hi'))).1
          exact ⟨this, own_block_lt this.1, own_block_lt this.2⟩⟩)
      clear hs hown
      go_wp2
      go_ret
      exact ⟨_, rfl, unhide HO, hbel⟩
end Go.Proofs.Ytncjagdnebpaaaa.RSet
