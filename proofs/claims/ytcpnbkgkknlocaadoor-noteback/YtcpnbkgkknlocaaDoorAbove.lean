/-
  Worlds above a world: all that was there is as it was. A region that draws its order, whose operations only read, and whose callees turn nothing that was there: one walk.
-/
import Derived.Test.YtcpnbkgkknlocaaDoorGen
import Derived.BigQuiet
namespace Go.Proofs.YtcpnbkgkknlocaaDoor
open Go.RowKit
set_option linter.unusedVariables false

/-- the worlds above a world -/
def Above (w : World) : Type := { w' : World // Below w.heap.size w w' }

def Above.w {w : World} (u : Above w) : World := u.1
theorem Above.below {w : World} (u : Above w) : Below w.heap.size w u.w := u.2

def Above.start (w : World) : Above w := ⟨w, Below.refl _ _⟩

/-- on behind a call -/
def Above.next {w : World} (u : Above w) {w' : World} (h : Below u.w.heap.size u.w w') : Above w := ⟨w', u.2.trans (h.mono u.2.size)⟩

theorem Above.cell {w : World} {b o : Nat} {v : Value} (h : w.cell? ⟨b, o, none⟩ = some v) (u : Above w) : u.w.cell? ⟨b, o, none⟩ = some v := by
  have := World.block_lt_of_cell? w _ h
  exact ((bcell u.2).1 b o this).trans h

theorem wp_region_above {P : Program} {id : Nat} {Q : Exit → Act → World → Prop} {a : Act} {w : World} {l : List Oper} (hm : P.follows .mixedOrders = true) (hB : Region.lexB .any l.toArray = true)
    (h : wpQuiet P l.toArray (fun w' => ∃ u : Above w, w' = u.w) (fun a' => ∀ w', (∃ u : Above w, w' = u.w) → Q .normal a' w') l a) : (Code.region id l.toArray true).wp P Q a w :=
  wp_region_quiet (C := fun w' => ∃ u : Above w, w' = u.w) hm hB ⟨⟨w.drew, (Below.refl _ _).drew⟩, rfl⟩ (by simpa using h)

/-- a contract of a callee that turns nothing that was there -/
theorem Calls.above {P : Program} {f : FuncId} {args : Array Value} {w : World} {u : Above w} {v : Value} (h : Calls P f args u.w fun e w' => e = .returned v ∧ Below u.w.heap.size u.w w') :
    Calls P f args u.w fun e w'' => e = .returned v ∧ ∃ u' : Above w, w'' = u'.w :=
  h.mono fun _ w' ⟨he, hb⟩ => ⟨he, u.next hb, rfl⟩

end Go.Proofs.YtcpnbkgkknlocaaDoor
