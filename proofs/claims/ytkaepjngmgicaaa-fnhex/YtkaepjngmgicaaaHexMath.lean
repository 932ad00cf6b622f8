/- Bytes in figures, as plain mathematics: what is put is read back, and what is read is put as just that. No condition. -/
namespace Go.Proofs.Ytkaepjngmgicaaa.HexMath

def fig (n : Nat) : UInt8 := UInt8.ofNat (if n < 10 then 48 + n else 87 + n)
def hexOf (l : List UInt8) : List UInt8 := l.flatMap fun c => [fig (c.toNat / 16), fig (c.toNat % 16)]
/-- a figure's value, -1 of another byte -/
def val (c : UInt8) : Int := if 48 ≤ c.toNat ∧ c.toNat ≤ 57 then (c.toNat : Int) - 48 else if 97 ≤ c.toNat ∧ c.toNat ≤ 102 then (c.toNat : Int) - 87 else -1
def figOk (c : UInt8) : Bool := decide (0 ≤ val c)
def two (a b : UInt8) : UInt8 := UInt8.ofNat (val a * 16 + val b).toNat
def dec : List UInt8 → List UInt8
  | a :: b :: r => two a b :: dec r
  | _ => []
def hexOk (l : List UInt8) : Bool := l.length % 2 == 0 && l.all figOk

theorem val_lt (c : UInt8) : val c < 16 := by unfold val; split <;> (try split) <;> omega
theorem val_ge (c : UInt8) : -1 ≤ val c := by unfold val; split <;> (try split) <;> omega
theorem hexOf_nil : hexOf [] = [] := rfl
theorem hexOf_cons (c : UInt8) (l : List UInt8) : hexOf (c :: l) = fig (c.toNat / 16) :: fig (c.toNat % 16) :: hexOf l := rfl
theorem hexOf_append (a b : List UInt8) : hexOf (a ++ b) = hexOf a ++ hexOf b := by simp [hexOf]
theorem hexOf_snoc (l : List UInt8) (c : UInt8) : hexOf (l ++ [c]) = hexOf l ++ [fig (c.toNat / 16), fig (c.toNat % 16)] := by simp [hexOf]
theorem hexOf_length (l : List UInt8) : (hexOf l).length = 2 * l.length := by
  induction l with
  | nil => rfl
  | cons c l ih => rw [hexOf_cons]; simp only [List.length_cons, ih]; omega

theorem fig_toNat {n : Nat} (h : n < 16) : (fig n).toNat = if n < 10 then 48 + n else 87 + n := by
  unfold fig
  rw [UInt8.toNat_ofNat']
  split <;> omega
theorem val_fig {n : Nat} (h : n < 16) : val (fig n) = n := by
  unfold val
  rw [fig_toNat h]
  by_cases h1 : n < 10
  · simp only [if_pos h1]; rw [if_pos (by omega)]; omega
  · simp only [if_neg h1]; rw [if_neg (by omega), if_pos (by omega)]; omega
theorem fig_val {c : UInt8} (h : 0 ≤ val c) : fig (val c).toNat = c := by
  apply UInt8.toNat_inj.1
  have hv := val_lt c
  rw [fig_toNat (by omega)]
  unfold val at h ⊢
  by_cases h1 : 48 ≤ c.toNat ∧ c.toNat ≤ 57
  · rw [if_pos h1]; split <;> omega
  · rw [if_neg h1] at h ⊢
    by_cases h2 : 97 ≤ c.toNat ∧ c.toNat ≤ 102
    · rw [if_pos h2]; split <;> omega
    · rw [if_neg h2] at h; omega
theorem two_figs (c : UInt8) : two (fig (c.toNat / 16)) (fig (c.toNat % 16)) = c := by
  have h := c.toNat_lt
  unfold two
  rw [val_fig (by omega), val_fig (by omega)]
  apply UInt8.toNat_inj.1
  rw [UInt8.toNat_ofNat']
  omega
theorem two_toNat {a b : UInt8} (ha : 0 ≤ val a) (hb : 0 ≤ val b) : ((two a b).toNat : Int) = val a * 16 + val b := by
  have h1 := val_lt a
  have h2 := val_lt b
  unfold two
  rw [UInt8.toNat_ofNat']
  omega

theorem dec_hexOf (l : List UInt8) : dec (hexOf l) = l := by
  induction l with
  | nil => rfl
  | cons c l ih => rw [hexOf_cons, dec, ih, two_figs]
theorem hexOk_hexOf (l : List UInt8) : hexOk (hexOf l) = true := by
  unfold hexOk
  rw [hexOf_length]
  have h : (hexOf l).all figOk = true := by
    induction l with
    | nil => rfl
    | cons c l ih =>
      have := c.toNat_lt
      rw [hexOf_cons, List.all_cons, List.all_cons, ih]
      unfold figOk
      rw [val_fig (by omega), val_fig (by omega)]
      simp only [Bool.and_true, Bool.and_eq_true, decide_eq_true_eq]
      omega
  rw [h]
  simp
theorem hexOf_dec : ∀ l : List UInt8, hexOk l = true → hexOf (dec l) = l
  | [], _ => rfl
  | [_], h => by simp [hexOk] at h
  | a :: b :: r, h => by
    have h' : hexOk r = true ∧ 0 ≤ val a ∧ 0 ≤ val b := by
      unfold hexOk figOk at h ⊢
      simp only [List.length_cons, List.all_cons, Bool.and_eq_true, beq_iff_eq, decide_eq_true_eq] at h ⊢
      exact ⟨⟨by omega, h.2.2.2⟩, h.2.1, h.2.2.1⟩
    have ht := two_toNat h'.2.1 h'.2.2
    have h1 := val_lt b
    have h2 := val_lt a
    rw [dec, hexOf_cons, hexOf_dec r h'.1]
    have e1 : (two a b).toNat / 16 = (val a).toNat := by omega
    have e2 : (two a b).toNat % 16 = (val b).toNat := by omega
    rw [e1, e2, fig_val h'.2.1, fig_val h'.2.2]

theorem dec_snoc2 : ∀ (k : Nat) (l : List UInt8) (a b : UInt8), l.length = 2 * k → dec (l ++ [a, b]) = dec l ++ [two a b]
  | 0, l, a, b, h => by
    obtain rfl : l = [] := List.eq_nil_of_length_eq_zero (by omega)
    rfl
  | k + 1, l, a, b, h => by
    match l, h with
    | x :: y :: r, h => rw [List.cons_append, List.cons_append, dec, dec, dec_snoc2 k r a b (by simp only [List.length_cons] at h; omega)]; rfl
    | [_], h => simp at h; omega
theorem dec_length : ∀ (k : Nat) (l : List UInt8), l.length = 2 * k → (dec l).length = k
  | 0, l, h => by
    obtain rfl : l = [] := List.eq_nil_of_length_eq_zero (by omega)
    rfl
  | k + 1, l, h => by
    match l, h with
    | x :: y :: r, h => rw [dec, List.length_cons, dec_length k r (by simp only [List.length_cons] at h; omega)]
    | [_], h => simp at h; omega
theorem dec_step (l : List UInt8) (k : Nat) (h : 2 * k + 1 < l.length) : dec (l.take (2 * k + 2)) = dec (l.take (2 * k)) ++ [two l[2 * k] l[2 * k + 1]] := by
  have e : l.take (2 * k + 2) = l.take (2 * k) ++ [l[2 * k], l[2 * k + 1]] := by
    have e1 : l.take (2 * k + 1 + 1) = l.take (2 * k + 1) ++ [l[2 * k + 1]] := List.take_succ_eq_append_getElem (by omega)
    have e2 : l.take (2 * k + 1) = l.take (2 * k) ++ [l[2 * k]] := List.take_succ_eq_append_getElem (by omega)
    show l.take (2 * k + 1 + 1) = _
    rw [e1, e2, List.append_assoc]
    rfl
  rw [e, dec_snoc2 k _ _ _ (by simp; omega)]
end Go.Proofs.Ytkaepjngmgicaaa.HexMath
