/- A region that draws its order, whose operations read old memory and whose calls only make new memory: one walk of the text's order serves every order. The class of worlds: those in which all that lay below a number of blocks lies as it lay. No condition. -/
import Derived.Test.YtkmoekbicbjdmaaDoorOwn
import Derived.Deep.QuietTactic
import Derived.BigQuiet
namespace Go.Proofs.YtkmoekbicbjdmaaDoor
open Go.RowKit
structure Cls (B : Nat) (W : World) where
  val : World
  isBelow : Below B W val
theorem Cls.cell {B : Nat} {W : World} (x : Cls B W) {b o : Nat} (h : b < B) : x.val.cell? ⟨b, o, none⟩ = W.cell? ⟨b, o, none⟩ := x.isBelow.cell (p := ⟨b, o, none⟩) h
theorem cls_nonempty (B : Nat) (W : World) : Nonempty (Cls B W) := ⟨⟨W, Below.refl _ _⟩⟩
theorem region_cls {P : Program} {id : Nat} {Q : Exit → Act → World → Prop} {a : Act} {w : World} {l : List Oper} (hm : P.follows .mixedOrders = true) (hB : Region.lexB .any l.toArray = true)
    (h : wpQuiet P l.toArray (fun w' => ∃ x : Cls w.heap.size w, w' = x.val) (fun a' => ∀ w', (∃ x : Cls w.heap.size w, w' = x.val) → Q .normal a' w') l a) : (Code.region id l.toArray true).wp P Q a w :=
  wp_region_quiet (C := fun w' => ∃ x : Cls w.heap.size w, w' = x.val) hm hB ⟨⟨w.drew, (Below.refl _ _).drew⟩, rfl⟩ (by simpa using h)
/-- a callee that only makes new memory -/
theorem cls_call {P : Program} {f : FuncId} {args : Array Value} {B : Nat} {W : World} {x : Cls B W} {v : Value} (hB : B ≤ W.heap.size)
    (h : Calls P f args x.val fun e w' => e = .returned v ∧ Below x.val.heap.size x.val w') : Calls P f args x.val fun e w'' => e = .returned v ∧ ∃ y : Cls B W, w'' = y.val :=
  h.mono fun _ w' ⟨he, hb⟩ => ⟨he, ⟨w', x.isBelow.trans (hb.mono (Nat.le_trans hB x.isBelow.size))⟩, rfl⟩
/-- a callee that makes nothing -/
theorem cls_same {P : Program} {f : FuncId} {args : Array Value} {B : Nat} {W : World} {x : Cls B W} {v : Value}
    (h : Calls P f args x.val fun e w' => e = .returned v ∧ w' = x.val) : Calls P f args x.val fun e w'' => e = .returned v ∧ ∃ y : Cls B W, w'' = y.val :=
  h.mono fun _ _ ⟨he, hb⟩ => ⟨he, x, hb⟩
end Go.Proofs.YtkmoekbicbjdmaaDoor
