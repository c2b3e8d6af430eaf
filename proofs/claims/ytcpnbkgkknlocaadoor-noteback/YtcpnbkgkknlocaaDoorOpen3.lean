/-
  A symbol that came in, opened: an int and a byte slice. Nothing of any program.
-/
import Derived.Test.YtcpnbkgkknlocaaDoorOpen2
namespace Go.Proofs.YtcpnbkgkknlocaaDoor
open Go.ChangeShapes Go.WideShapes Go.ChangeAt Go.RowKit
set_option linter.unusedVariables false

section
variable {H : Type} {enc : TypeId × Value → H} {P : Program} {w : World} {held : Bool}

theorem open_symbol {r : Reach} {b0 : Nat} {t e8 : TypeId} {f0 f1 : Field} {v : Value} {d : DataW H} {p : List MemPlace} (hs : P.underlying t = some (.struct #[f0, f1])) (hone : Go.Deep.oneCellFields P #[f0, f1] = true) (hC : P.cellsOf t = 2)
    (h0 : P.underlying f0.type = some (.int .i64)) (h1 : P.underlying f1.type = some (.slice e8)) (he : P.underlying e8 = some (.int .u8)) (hc8 : P.cellsOf e8 = 1)
    (hv : Value.okWide P w r b0 t v) (h : DataW.Trod enc P w 0 (fun _ => true) held t v d p) : ∃ (id : Int) (a : Option Addr) (cap : Nat) (l : List UInt8), v = .agg #[.int .i64 id, .slice a l.length cap] ∧ I64 id ∧ Lies w a (bs l) ∧ l.length ≤ maxLen ∧ l.length ≤ cap := by
  obtain ⟨c0, c1, y0, y1, m, rfl, rfl, rfl, hy0, hy1⟩ := Go.Joins.open_agg2 hs hone hC hv h
  obtain ⟨a, e0, rfl, wa⟩ := DataW.trod_int h0 hy0
  obtain ⟨a', cap, l, rfl, h2, h3, h4, _⟩ := open_bytes2 h1 he hc8 hy1
  simp at e0
  subst e0
  exact ⟨a, a', cap, l, rfl, i64_of_wf wa, h2, h3, h4⟩
end
end Go.Proofs.YtcpnbkgkknlocaaDoor
