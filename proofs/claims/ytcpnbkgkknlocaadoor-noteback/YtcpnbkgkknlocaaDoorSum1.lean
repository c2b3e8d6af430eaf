/-
  Chapter 1's smaller functions: the contract of each.
-/
import Derived.Test.YtcpnbkgkknlocaaDoorRows
import Derived.Test.YtcpnbkgkknlocaaDoorSumPure
import Derived.Test.YtcpnbkgkknlocaaDoorIn
import Derived.Deep.OwnRows
import Derived.BigQuiet
import Derived.Deep.QuietTactic
namespace Go.Proofs.YtcpnbkgkknlocaaDoor
open Go.RowKit
set_option linter.unusedVariables false
set_option linter.unusedSimpArgs false

theorem AllIn.below {w w' : World} {bl : List Blk} (h : AllIn w bl) (hb : Below w.heap.size w w') : AllIn w' bl := fun b hm => ⟨(h b hm).1.below hb (Nat.le_refl _), (h b hm).2⟩

theorem lens_get {bl : List Blk} {k : Nat} (h : k < bl.length) : (lens bl)[k]'(by simpa [lens] using h) = bl[k].l.length := by simp [lens]

theorem chk_2 {bl : List Blk} {k : Nat} (hok : Hid (okTo ((lens bl).headD 0) (lens bl) k)) (h : k < bl.length) (hb : (bl[k].l.length : Int) < 1 ∨ 16 < (bl[k].l.length : Int)) : (2 : Int) = chk (lens bl) :=
  (((chkFrom_at hok.out (by simpa [lens] using h)).1 (by rw [lens_get h]; omega))).symm

theorem lens_head {bl : List Blk} (h : 0 < bl.length) : (lens bl).headD 0 = bl[0].l.length := by
  cases bl with
  | nil => simp at h
  | cons b r => simp [lens]

theorem chk_4 {bl : List Blk} {k : Nat} (hok : Hid (okTo ((lens bl).headD 0) (lens bl) k)) (h : k < bl.length) (h0 : 0 < bl.length) (h1 : 1 ≤ (bl[k].l.length : Int)) (h2 : (bl[k].l.length : Int) ≤ 16) (hne : ((bl[k].l.length : Int) != (bl[0].l.length : Int)) = true) : (4 : Int) = chk (lens bl) :=
  (((chkFrom_at hok.out (by simpa [lens] using h)).2 (by rw [lens_get h]; omega) (by
    rw [lens_get h, lens_head h0]
    simp at hne
    omega))).symm

theorem chk_go {bl : List Blk} {k : Nat} (hok : Hid (okTo ((lens bl).headD 0) (lens bl) k)) (h : k < bl.length) (h0 : 0 < bl.length) (h1 : 1 ≤ (bl[k].l.length : Int)) (h2 : (bl[k].l.length : Int) ≤ 16) (hne : ((bl[k].l.length : Int) != (bl[0].l.length : Int)) = false) : okTo ((lens bl).headD 0) (lens bl) (k + 1) :=
  okTo_succ hok.out (by simpa [lens] using h) (by rw [lens_get h]; omega) (by rw [lens_get h]; omega) (by
    rw [lens_get h, lens_head h0]
    simp at hne
    omega)

theorem chk_end {bl : List Blk} {k : Nat} (hok : Hid (okTo ((lens bl).headD 0) (lens bl) k)) (hk : k = bl.length) : (0 : Int) = chk (lens bl) := by
  subst hk
  exact (chkFrom_all (l := lens bl) (by simpa [lens] using hok.out)).symm

theorem okTo_prev {f : Nat} {l : List Nat} {k : Nat} (h : Hid (okTo f l k)) (hk : 0 < k) (hl : k ≤ l.length) : l[k - 1]'(by omega) = f := (h.out (k - 1) (by omega) (by omega)).2.2

theorem chk_4p {bl : List Blk} {k : Nat} (hok : Hid (okTo ((lens bl).headD 0) (lens bl) k)) (h : k < bl.length) (hp : k - 1 < bl.length) (h1 : 1 ≤ (bl[k].l.length : Int)) (h2 : (bl[k].l.length : Int) ≤ 16)
    (HP : Hid (bl[k - 1].l.length = (lens bl).headD 0)) (hne : ((bl[k].l.length : Int) != (bl[k - 1].l.length : Int)) = true) : (4 : Int) = chk (lens bl) :=
  (((chkFrom_at hok.out (by simpa [lens] using h)).2 (by rw [lens_get h]; omega) (by
    rw [lens_get h, ← HP.out]
    simp at hne
    omega))).symm

theorem chk_gop {bl : List Blk} {k : Nat} (hok : Hid (okTo ((lens bl).headD 0) (lens bl) k)) (h : k < bl.length) (hp : k - 1 < bl.length) (h1 : 1 ≤ (bl[k].l.length : Int)) (h2 : (bl[k].l.length : Int) ≤ 16)
    (HP : Hid (bl[k - 1].l.length = (lens bl).headD 0)) (hne : ((bl[k].l.length : Int) != (bl[k - 1].l.length : Int)) = false) : okTo ((lens bl).headD 0) (lens bl) (k + 1) :=
  okTo_succ hok.out (by simpa [lens] using h) (by rw [lens_get h]; omega) (by rw [lens_get h]; omega) (by
    rw [lens_get h, ← HP.out]
    simp at hne
    omega)

end Go.Proofs.YtcpnbkgkknlocaaDoor
