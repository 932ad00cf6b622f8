/- FnExactRowsOk returns true at every slice of rows. -/
import Derived.Test.YtpfllejfbmgbpaaRowTiny
import Derived.Test.YtpfllejfbmgbpaaRowOk
import Derived.Test.YtpfllejfbmgbpaaRowOk2
namespace Go.Proofs.Ytpfllejfbmgbpaa
open Go.RowKit Rw
set_option linter.unusedVariables false
set_option maxHeartbeats 4000000 in
theorem fnExactRowsOk.walk (a0 : Option Addr) (len0 cap0 : Nat) (z0 : List Row.E) (w : World) (w0 : z0.length = len0 ∧ len0 ≤ maxLen ∧ Row.Is w (.slice a0 len0 cap0) z0 ∧ ∀ x ∈ z0, Row.good x) :
    Calls Try.prog 3 #[.slice a0 len0 cap0] w fun e w' => e = .returned (.bool true) ∧ Below w.heap.size w w' := by
  obtain ⟨hl, hm, hI, hG⟩ := w0
  subst hl
  have HS := hide (fun W (hB : Below w.heap.size w W) => Row.sz_any 1048576 (hI.below hB) hm hG (by omega) (by omega))
  by_cases hb : (1048576 : Int) - (Row.tot z0 : Int) < 0
  · clear hI hG
    go_enter Try.func3, Try.ntmps3
    go_wp2_with fail
    refine (unhide HS _ (Below.refl _ _)).mono ?_
    rintro e w1 ⟨rfl, b1⟩
    rw [if_pos hb]
    go_wp2_with fail
    go_ret
    exact ⟨rfl, b1⟩
  have tn := Row.tiny_of (zs := z0) (by omega)
  have HTo := hide (fun W (hB : Below w.heap.size w W) => Row.to_any (hI.below hB) tn.1 tn.2)
  have HG := hide hG
  have HM := hide hm
  clear hI hG hm tn
  go_enter Try.func3, Try.ntmps3
  go_wp2_with fail
  refine (unhide HS _ (Below.refl _ _)).mono ?_
  rintro e w1 ⟨rfl, b1⟩
  rw [if_neg (show ¬ (1048576 : Int) - (Row.tot z0 : Int) < 0 by omega)]
  have hnn : decide ((1048576 : Int) - (Row.tot z0 : Int) < 0) = false := by simp; omega
  have c0 := b1
  clear b1
  go_wp2_with fail
  clear hnn hb
  refine (unhide HTo _ c0).mono ?_
  rintro e w2 ⟨rfl, i2, bn⟩
  have c2 := c0.trans (bn.mono c0.size)
  clear bn
  go_wp2_with fail
  refine (Row.spec_ok i2 (unhide HG) (unhide HM)).mono ?_
  rintro e w3 ⟨rfl, bn⟩
  have c3 := c2.trans (bn.mono c2.size)
  clear bn i2
  go_wp2_with fail
  refine (unhide HTo _ c3).mono ?_
  rintro e w4 ⟨rfl, i4, bn⟩
  have c4 := c3.trans (bn.mono c3.size)
  clear bn
  go_wp2_with fail
  refine (Row.impl_ok i4 (unhide HG) (unhide HM)).mono ?_
  rintro e w5 ⟨rfl, bn⟩
  have c5 := c4.trans (bn.mono c4.size)
  have i5 := i4.below bn
  clear bn i4
  go_wp2_with fail
  refine (unhide HTo _ c5).mono ?_
  rintro e w6 ⟨rfl, i6, bn⟩
  have c6 := c5.trans (bn.mono c5.size)
  have j6 := i5.below bn
  clear bn i5
  go_wp2_with fail
  refine (Row.eq_any j6 i6).mono ?_
  rintro e w7 ⟨rfl, bn⟩
  have c7 := c6.trans (bn.mono c6.size)
  clear bn
  go_wp2
  go_ret
  exact ⟨rfl, c7⟩
end Go.Proofs.Ytpfllejfbmgbpaa
