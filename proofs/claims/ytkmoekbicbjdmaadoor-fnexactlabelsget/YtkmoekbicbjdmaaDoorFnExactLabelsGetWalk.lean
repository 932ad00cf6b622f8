/- FnExactLabelsGet returns true at every text. What it asks: internal/bytealg.MaxLen holds some int, as in every world of a started program. -/
import Derived.Test.YtkmoekbicbjdmaaDoorLabGet3
import Derived.Test.YtkmoekbicbjdmaaDoorLabUni
namespace Go.Proofs.YtkmoekbicbjdmaaDoor
open Go.RowKit Rw
set_option linter.unusedVariables false
set_option maxRecDepth 100000 in
set_option maxHeartbeats 8000000 in
theorem fnExactLabelsGet.walk (a0 : ByteArray) (w : World) (w0 : a0.size ≤ maxLen) (hm : Lab.Mx w) : Calls Tryd.prog 5 #[.string a0] w fun e w' => e = .returned (.bool true) ∧ Below w.heap.size w w' := by
  unfold maxLen at w0
  by_cases hs0 : 1048576 < a0.size
  · go_enter Tryd.func5, Tryd.ntmps5
    go_wp2
    go_ret
    exact ⟨rfl, Below.refl _ _⟩
  have HS := hide (Lab.spec_get a0 w (by omega))
  have HI := hide (fun W (hb : Below w.heap.size w W) => Lab.impl_get a0 W (by omega) (hm.below hb))
  have HRL0 := Lab.getB_four a0
  unfold Lab.Got at HS HI
  obtain ⟨G, hG⟩ : ∃ G, G = Lab.getB a0 := ⟨_, rfl⟩
  rw [← hG] at HS HI HRL0
  obtain ⟨rz, bz⟩ := G
  dsimp only at HS HI HRL0
  have HRL := hide (show rz.length ≤ 2097152 by omega)
  have hbb : (bz != bz) = false := by simp
  clear hG HRL0 hm
  go_enter Tryd.func5, Tryd.ntmps5
  go_wp2_with fail
  refine (unhide HS).mono ?_
  rintro e w1 ⟨v_w, rfl, on0, b1⟩
  have F_w := Lab.Own.of on0
  obtain ⟨a_w, l_w, q_w, rfl⟩ := Lab.Own.form F_w
  have c1 := b1
  have z1 := b1.size
  clear on0 HS
  go_wp2_with fail
  refine (unhide HI w1 c1).mono ?_
  rintro e w2 ⟨v_g, rfl, on0, bn⟩
  have F_g := Lab.Own.of on0
  obtain ⟨a_g, l_g, q_g, rfl⟩ := Lab.Own.form F_g
  have c2 := c1.trans (bn.mono c1.size)
  have z2 := bn.size
  have F_w2 := F_w.below bn
  clear on0 bn F_w b1
  go_wp2_with fail
  refine (Lab.eqX F_g.is F_w2.is).mono ?_
  rintro e w3 ⟨rfl, bn⟩
  have c3 := c2.trans (bn.mono c2.size)
  have z3 := bn.size
  have F_w3 := F_w2.below bn
  have F_g3 := F_g.below bn
  clear bn F_w2 F_g
  go_wp2_with fail
  refine (Lab.markX 1 (by omega) (by omega) (unhide HRL) F_g3).mono ?_
  rintro e w4 ⟨km, rfl, ekm, on, zn⟩
  have c4 := c3.trans (zn.below (by omega) (by omega))
  have z4 := zn.size
  have F_w4 := F_w3.zone zn (by omega)
  have HKM := hide ekm
  clear zn F_w3 F_g3 ekm
  go_wp2_with fail
  refine (Lab.heldX 1 (by omega) (by omega) (unhide HRL) on.is).mono ?_
  rintro e w5 ⟨kq, rfl, ekq, bn⟩
  obtain rfl : kq = km := by rw [ekq, unhide HKM]
  have c5 := c4.trans (bn.mono c4.size)
  have z5 := bn.size
  have F_w5 := F_w4.below bn
  have F_g5 := on.below bn
  have hkn : decide ((kq : Int) < 0) = false := by simp
  clear bn ekq F_w4 on
  go_wp2_with fail
  refine (unhide HI w5 c5).mono ?_
  rintro e w6 ⟨v_h, rfl, on0, bn⟩
  have F_h := Lab.Own.of on0
  obtain ⟨a_h, l_h, q_h, rfl⟩ := Lab.Own.form F_h
  have c6 := c5.trans (bn.mono c5.size)
  have F_w6 := F_w5.below bn
  have F_g6 := F_g5.below bn
  clear on0 bn F_w5 F_g5
  go_wp2_with fail
  refine (Lab.eqX F_h.is F_w6.is).mono ?_
  rintro e w7 ⟨rfl, bn⟩
  have c7 := c6.trans (bn.mono c6.size)
  have F_g7 := F_g6.below bn
  clear bn F_w6 F_g6 F_h
  go_wp2_with fail
  refine (Lab.heldX 1 (by omega) (by omega) (unhide HRL) F_g7.is).mono ?_
  rintro e w8 ⟨kr, rfl, ekr, bn⟩
  obtain rfl : kr = kq := by rw [ekr, unhide HKM]
  have c8 := c7.trans (bn.mono c7.size)
  clear bn ekr
  go_wp2_with fail
  go_ret
  exact ⟨rfl, c8⟩
end Go.Proofs.YtkmoekbicbjdmaaDoor
