/-
  A region that is walked in parts: the ways through its guarded operations meet again at each part's end.
-/
import Derived.Test.YtcpnbkgkknlocaaDoorGen
import Derived.Orders
namespace Go.Proofs.YtcpnbkgkknlocaaDoor
open Go.RowKit
set_option linter.unusedVariables false
set_option linter.unusedSimpArgs false

/-- at a part's end the relation R, else as ahead -/
def splitQ (R : Act → World → Prop) (Q : Exit → Act → World → Prop) : Exit → Act → World → Prop
  | .normal, a, w => R a w
  | e, a, w => Q e a w

theorem wp_of_split {P : Program} {o : Oper} {a : Act} {w : World} {K : Act → World → Prop} {R : Act → World → Prop} {Q : Exit → Act → World → Prop} (hh : o.wp P a w K (splitQ R Q)) : o.wp P a w K Q := by
  unfold Oper.wp at *
  generalize (execOp a.eval o).run P w = r at *
  cases r with
  | ok n w' => cases n <;> exact hh
  | halt x w' => cases x <;> exact hh

theorem letsOut_of_split {R : Act → World → Prop} {Q : Exit → Act → World → Prop} (h : LetsOut (splitQ R Q)) : LetsOut Q := h

theorem wpList_split {P : Program} {ops : Array Oper} {R : Act → World → Prop} {Q : Exit → Act → World → Prop} (l2 : List Oper) (h2 : ∀ a w, R a w → wpList P ops Q l2 a w) :
    ∀ (l1 : List Oper) (a : Act) (w : World), wpList P ops (splitQ R Q) l1 a w → wpList P ops Q (l1 ++ l2) a w
  | [], a, w, h => h2 a w h
  | o :: rest, a, w, h => by
    rw [List.cons_append]
    unfold wpList at h ⊢
    split
    · rename_i hw
      rw [if_pos hw] at h
      rcases h with h | ⟨h, h'⟩
      · exact .inl (Oper.wp_mono (fun a w hh => wpList_split l2 h2 rest a w hh) (wp_of_split h))
      · exact .inr ⟨h, letsOut_of_split h'⟩
    · rename_i hw
      rw [if_neg hw] at h
      exact wpList_split l2 h2 rest _ w h

/-- slots that a part has written -/
def puts (a : Act) (vs : List (Nat × Value)) : Act := { a with tmps := vs.foldl (fun t p => t.setIfInBounds p.1 p.2) a.tmps }

theorem part {P : Program} {ops : Array Oper} {Q : Exit → Act → World → Prop} {l : List Oper} {a : Act} {w : World} (k : Nat) (R : Act → Act → World → Prop)
    (h1 : wpList P ops (splitQ (R a) Q) (l.take k) a w) (h2 : ∀ a' w', R a a' w' → wpList P ops Q (l.drop k) a' w') : wpList P ops Q l a w := by
  have := wpList_split (l.drop k) h2 (l.take k) a w h1
  rwa [List.take_append_drop] at this

end Go.Proofs.YtcpnbkgkknlocaaDoor
