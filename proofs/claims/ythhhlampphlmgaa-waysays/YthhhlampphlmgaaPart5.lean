import Derived.Test.YthhhlampphlmgaaPart2
import Derived.Test.YthhhlampphlmgaaPart3
import Derived.Deep.CutBlock
import Derived.Test.YthhhlampphlmgaaPart4
import Derived.ChangeKeysEq
import Derived.Test.YthhhlampphlmgaaPart1
import Derived.BigQuiet
import Derived.Laws.BytesString
import Derived.Laws.Cells
import Derived.Test.YthhhlampphlmgaaRows
import Derived.Deep.QuietTactic
/-
  Chapter 10: mail, what is wrong with it, how it lies in memory; package way's checkShares, checkSymbol, checkFrame.
-/
namespace Go.Proofs.Ythhhlampphlmgaa
open Go.RowKit
set_option linter.unusedVariables false
set_option linter.unusedSimpArgs false

/-- a mail -/
structure Ml where
  f : Int
  t : Int
  k : Int
  h : Hd
  id : Int
  d : List UInt8
  n : Int
  y : Int
  deriving DecidableEq

/-- what is wrong with a frame's shares -/
def shCode (k n y : Int) : Int := if k = 2 ∨ k = 3 then (if n < 1 ∨ 64 < n ∨ y < 1 ∨ 9999 < y then 3 else 0) else if n ≠ 0 ∨ y ≠ 0 then 4 else 0

/-- what is wrong with a frame's symbol -/
def syCode (k : Int) (h : Hd) (id : Int) (dn : Nat) : Int := if k = 1 then chkS h.B h.K id dn else if id ≠ 0 ∨ 0 < dn then 4 else 0

/-- what is wrong with a frame -/
def frCode (k : Int) (h : Hd) (id : Int) (dn : Nat) (n y : Int) : Int :=
  if k < 1 ∨ 4 < k then 4 else if hdCode h ≠ 0 then hdCode h else if shCode k n y ≠ 0 then shCode k n y else syCode k h id dn

def Ml.code (m : Ml) : Int := if (m.f < 0 ∨ 3 < m.f) ∨ m.t < 0 ∨ 3 < m.t then 3 else frCode m.k m.h m.id m.d.length m.n m.y

/-- its numbers are ints -/
def Ml.ints (m : Ml) : Prop := I64 m.f ∧ I64 m.t ∧ I64 m.k ∧ m.h.ok ∧ I64 m.id ∧ I64 m.n ∧ I64 m.y

/-- the first fault -/
def firstBad : List Ml → Int
  | [] => 0
  | m :: r => if m.code ≠ 0 then m.code else firstBad r

/-- what is wrong with what is on its way -/
def wyCode (l : List Ml) : Int := if 40 < l.length then 2 else firstBad l

def ml0 : Ml := ⟨0, 0, 0, ⟨0, 0, 0, 0, 0, 0⟩, 0, [], 0, 0⟩

/-- a mail in memory -/
structure MMl where
  m : Ml
  da : Option Addr
  dc : Nat

def MMl.cells (y : MMl) : List Value := [.int .i64 y.m.f, .int .i64 y.m.t, .int .i64 y.m.k, .int .i64 y.m.h.F, .int .i64 y.m.h.Q, .int .i64 y.m.h.T, .int .i64 y.m.h.L, .int .i64 y.m.h.B, .int .i64 y.m.h.K, .int .i64 y.m.id, .slice y.da y.m.d.length y.dc, .int .i64 y.m.n, .int .i64 y.m.y]

def MMl.val (y : MMl) : Value := .agg #[.int .i64 y.m.f, .int .i64 y.m.t, .int .i64 y.m.k, .int .i64 y.m.h.F, .int .i64 y.m.h.Q, .int .i64 y.m.h.T, .int .i64 y.m.h.L, .int .i64 y.m.h.B, .int .i64 y.m.h.K, .int .i64 y.m.id, .slice y.da y.m.d.length y.dc, .int .i64 y.m.n, .int .i64 y.m.y]

def mailCells (l : List MMl) : List Value := l.flatMap MMl.cells

theorem mailCells_length (l : List MMl) : (mailCells l).length = 13 * l.length := by
  induction l with
  | nil => rfl
  | cons y l ih => rw [mailCells, List.flatMap_cons, List.length_append]; show 13 + (mailCells l).length = _; rw [ih, List.length_cons]; omega

theorem mailCells_append (a b : List MMl) : mailCells (a ++ b) = mailCells a ++ mailCells b := by simp [mailCells]

theorem mailCells_at : ∀ (l : List MMl) (i j : Nat) (y : MMl) (v : Value), l[i]? = some y → y.cells[j]? = some v → (mailCells l)[13 * i + j]? = some v
  | [], i, j, y, v, h, _ => by simp at h
  | z :: l, 0, j, y, v, h, hv => by
    simp at h
    subst h
    have hj : j < 13 := by
      rcases Nat.lt_or_ge j 13 with h | h
      · exact h
      · rw [List.getElem?_eq_none (by show 13 ≤ j; exact h)] at hv; cases hv
    rw [mailCells, List.flatMap_cons, Nat.mul_zero, Nat.zero_add, List.getElem?_append_left (by show j < 13; exact hj)]
    exact hv
  | z :: l, i + 1, j, y, v, h, hv => by
    have ih := mailCells_at l i j y v (by simpa using h) hv
    rw [mailCells, List.flatMap_cons, List.getElem?_append_right (by show 13 ≤ _; omega)]
    have e : 13 * (i + 1) + j - z.cells.length = 13 * i + j := by show 13 * (i + 1) + j - 13 = _; omega
    rw [e]
    exact ih

/-- its bytes are there -/
def MailIn (w : World) (y : MMl) : Prop := Lies w y.da (bs y.m.d)

theorem MailIn.below {w w' : World} {y : MMl} (h : MailIn w y) (hb : Below w.heap.size w w') : MailIn w' y := Lies.below hb h (Nat.le_refl _)

theorem mails_cell {w : World} {b o k : Nat} {l : List MMl} {x : MMl} {v : Value} (h : Lies w (some ⟨b, o, none⟩) (mailCells l) ∧ l[k]? = some x) (j : Nat) (hv : x.cells[j]? = some v) : w.cell? ⟨b, o + k * 13 + j, none⟩ = some v := by
  have h1 := h.1.at (mailCells_at l k j x v h.2 hv)
  have e : o + (13 * k + j) = o + k * 13 + j := by omega
  rw [e] at h1
  exact h1

theorem firstBad_step {l : List Ml} {q : Nat} {m : Ml} (h : l[q]? = some m) (h0 : m.code = 0) : firstBad (l.drop q) = firstBad (l.drop (q + 1)) := by
  obtain ⟨hq, rfl⟩ := List.getElem?_eq_some_iff.1 h
  rw [List.drop_eq_getElem_cons hq, firstBad, if_neg (by simp [h0])]

theorem firstBad_stop {l : List Ml} {q : Nat} {m : Ml} (h : l[q]? = some m) (h0 : m.code ≠ 0) : firstBad (l.drop q) = m.code := by
  obtain ⟨hq, rfl⟩ := List.getElem?_eq_some_iff.1 h
  rw [List.drop_eq_getElem_cons hq, firstBad, if_pos h0]

set_option maxHeartbeats 1000000 in
theorem wShares_any (k : Int) (h : Hd) (id : Int) (da : Option Addr) (dn dc : Nat) (n y : Int) (w : World) :
    Calls Try.prog 33 #[.agg #[.int .i64 k, .int .i64 h.F, .int .i64 h.Q, .int .i64 h.T, .int .i64 h.L, .int .i64 h.B, .int .i64 h.K, .int .i64 id, .slice da dn dc, .int .i64 n, .int .i64 y]] w fun e w' => e = .returned (.int .i64 (shCode k n y)) ∧ Below w.heap.size w w' := by
  obtain ⟨W, hW⟩ : ∃ W, w.alloc (.cells #[.int .i64 k, .int .i64 h.F, .int .i64 h.Q, .int .i64 h.T, .int .i64 h.L, .int .i64 h.B, .int .i64 h.K, .int .i64 id, .slice da dn dc, .int .i64 n, .int .i64 y] 32) = W := ⟨_, rfl⟩
  have hB : Below w.heap.size w W := by rw [← hW]; exact (Below.refl _ _).alloc (Nat.le_refl _) _
  have hk : W.heap[w.heap.size]? = some (.cells #[.int .i64 k, .int .i64 h.F, .int .i64 h.Q, .int .i64 h.T, .int .i64 h.L, .int .i64 h.B, .int .i64 h.K, .int .i64 id, .slice da dn dc, .int .i64 n, .int .i64 y] 32 (0, 0)) := by rw [← hW, heap_alloc_eq, if_pos rfl]
  have q0 : W.cell? ⟨w.heap.size, 0, none⟩ = some (.int .i64 k) := cellB hk 0 _ rfl
  have q1 : W.cell? ⟨w.heap.size, 1, none⟩ = some (.int .i64 h.F) := cellB hk 1 _ rfl
  have q2 : W.cell? ⟨w.heap.size, 2, none⟩ = some (.int .i64 h.Q) := cellB hk 2 _ rfl
  have q3 : W.cell? ⟨w.heap.size, 3, none⟩ = some (.int .i64 h.T) := cellB hk 3 _ rfl
  have q4 : W.cell? ⟨w.heap.size, 4, none⟩ = some (.int .i64 h.L) := cellB hk 4 _ rfl
  have q5 : W.cell? ⟨w.heap.size, 5, none⟩ = some (.int .i64 h.B) := cellB hk 5 _ rfl
  have q6 : W.cell? ⟨w.heap.size, 6, none⟩ = some (.int .i64 h.K) := cellB hk 6 _ rfl
  have q7 : W.cell? ⟨w.heap.size, 7, none⟩ = some (.int .i64 id) := cellB hk 7 _ rfl
  have q8 : W.cell? ⟨w.heap.size, 8, none⟩ = some (.slice da dn dc) := cellB hk 8 _ rfl
  have q9 : W.cell? ⟨w.heap.size, 9, none⟩ = some (.int .i64 n) := cellB hk 9 _ rfl
  have q10 : W.cell? ⟨w.heap.size, 10, none⟩ = some (.int .i64 y) := cellB hk 10 _ rfl
  clear hk
  obtain ⟨R, hR⟩ : ∃ R, shCode k n y = R := ⟨_, rfl⟩
  rw [hR]
  have HR := Shut.mk hR
  have HW := Shut.mk hW
  clear hR hW
  go_enter Try.func33, Try.ntmps33
  go_upto_region 1 with fail
  rw [HW.out]
  clear HW
  go_wp2
  all_goals
    go_ret
    refine ⟨?_, hB⟩
    rw [← HR.out]
    simp_all [shCode] <;> omega

set_option maxHeartbeats 1000000 in
theorem wSymbol_any (k : Int) (h : Hd) (id : Int) (da : Option Addr) (dn dc : Nat) (n y : Int) (w : World) (ho : h.ok) (hn : dn ≤ maxLen) :
    Calls Try.prog 34 #[.agg #[.int .i64 k, .int .i64 h.F, .int .i64 h.Q, .int .i64 h.T, .int .i64 h.L, .int .i64 h.B, .int .i64 h.K, .int .i64 id, .slice da dn dc, .int .i64 n, .int .i64 y]] w fun e w' => e = .returned (.int .i64 (syCode k h id dn)) ∧ Below w.heap.size w w' := by
  obtain ⟨W, hW⟩ : ∃ W, w.alloc (.cells #[.int .i64 k, .int .i64 h.F, .int .i64 h.Q, .int .i64 h.T, .int .i64 h.L, .int .i64 h.B, .int .i64 h.K, .int .i64 id, .slice da dn dc, .int .i64 n, .int .i64 y] 32) = W := ⟨_, rfl⟩
  have hB : Below w.heap.size w W := by rw [← hW]; exact (Below.refl _ _).alloc (Nat.le_refl _) _
  have hk : W.heap[w.heap.size]? = some (.cells #[.int .i64 k, .int .i64 h.F, .int .i64 h.Q, .int .i64 h.T, .int .i64 h.L, .int .i64 h.B, .int .i64 h.K, .int .i64 id, .slice da dn dc, .int .i64 n, .int .i64 y] 32 (0, 0)) := by rw [← hW, heap_alloc_eq, if_pos rfl]
  have q0 : W.cell? ⟨w.heap.size, 0, none⟩ = some (.int .i64 k) := cellB hk 0 _ rfl
  have q1 : W.cell? ⟨w.heap.size, 1, none⟩ = some (.int .i64 h.F) := cellB hk 1 _ rfl
  have q2 : W.cell? ⟨w.heap.size, 2, none⟩ = some (.int .i64 h.Q) := cellB hk 2 _ rfl
  have q3 : W.cell? ⟨w.heap.size, 3, none⟩ = some (.int .i64 h.T) := cellB hk 3 _ rfl
  have q4 : W.cell? ⟨w.heap.size, 4, none⟩ = some (.int .i64 h.L) := cellB hk 4 _ rfl
  have q5 : W.cell? ⟨w.heap.size, 5, none⟩ = some (.int .i64 h.B) := cellB hk 5 _ rfl
  have q6 : W.cell? ⟨w.heap.size, 6, none⟩ = some (.int .i64 h.K) := cellB hk 6 _ rfl
  have q7 : W.cell? ⟨w.heap.size, 7, none⟩ = some (.int .i64 id) := cellB hk 7 _ rfl
  have q8 : W.cell? ⟨w.heap.size, 8, none⟩ = some (.slice da dn dc) := cellB hk 8 _ rfl
  have q9 : W.cell? ⟨w.heap.size, 9, none⟩ = some (.int .i64 n) := cellB hk 9 _ rfl
  have q10 : W.cell? ⟨w.heap.size, 10, none⟩ = some (.int .i64 y) := cellB hk 10 _ rfl
  clear hk
  have hC := codeCheck_any h.B h.K id da dn dc W ho.2.2.2.2.1 ho.2.2.2.2.2 hn
  obtain ⟨R, hR⟩ : ∃ R, syCode k h id dn = R := ⟨_, rfl⟩
  rw [hR]
  have HR := Shut.mk hR
  have HW := Shut.mk hW
  have HO := Shut.mk hn
  clear hR hW ho hn
  by_cases h1 : k = 1
  · have HE : Shut (R = chkS h.B h.K id dn) := ⟨by rw [← HR.out, syCode, if_pos h1]⟩
    subst h1
    generalize chkS h.B h.K id dn = z at hC HE
    go_enter Try.func34, Try.ntmps34
    go_upto_region 1 with fail
    rw [HW.out]
    clear HW
    go_wp2_with fail
    refine hC.mono ?_
    rintro e W1 ⟨rfl, hb⟩
    have hB1 := hB.trans (hb.mono hB.size)
    clear hC hb
    go_wp2
    go_ret
    exact ⟨by rw [HE.out]; rfl, hB1⟩
  · have HE : Shut (R = if id ≠ 0 ∨ 0 < dn then 4 else 0) := ⟨by rw [← HR.out, syCode, if_neg h1]⟩
    clear hC
    go_enter Try.func34, Try.ntmps34
    go_upto_region 1 with fail
    rw [HW.out]
    clear HW
    go_wp2
    all_goals
      go_ret
      refine ⟨?_, hB⟩
      rw [HE.out]
      simp_all <;> omega

end Go.Proofs.Ythhhlampphlmgaa

/-
  Chapter 10: package way's checkFrame, checkMail, Check.
-/
namespace Go.Proofs.Ythhhlampphlmgaa
open Go.RowKit
set_option linter.unusedVariables false
set_option linter.unusedSimpArgs false

theorem frBox {W : World} {g : Nat} {k : Int} {hd : Hd} {id : Int} {da : Option Addr} {dn dc : Nat} {n y : Int} (h : W.heap[g]? = some (.cells #[.int .i64 k, .int .i64 hd.F, .int .i64 hd.Q, .int .i64 hd.T, .int .i64 hd.L, .int .i64 hd.B, .int .i64 hd.K, .int .i64 id, .slice da dn dc, .int .i64 n, .int .i64 y] 32 (0, 0))) : W.cell? ⟨g, 0, none⟩ = some (.int .i64 k) ∧ W.cell? ⟨g, 1, none⟩ = some (.int .i64 hd.F) ∧ W.cell? ⟨g, 2, none⟩ = some (.int .i64 hd.Q) ∧ W.cell? ⟨g, 3, none⟩ = some (.int .i64 hd.T) ∧ W.cell? ⟨g, 4, none⟩ = some (.int .i64 hd.L) ∧ W.cell? ⟨g, 5, none⟩ = some (.int .i64 hd.B) ∧ W.cell? ⟨g, 6, none⟩ = some (.int .i64 hd.K) ∧ W.cell? ⟨g, 7, none⟩ = some (.int .i64 id) ∧ W.cell? ⟨g, 8, none⟩ = some (.slice da dn dc) ∧ W.cell? ⟨g, 9, none⟩ = some (.int .i64 n) ∧ W.cell? ⟨g, 10, none⟩ = some (.int .i64 y) :=
  ⟨cellB h 0 _ rfl, cellB h 1 _ rfl, cellB h 2 _ rfl, cellB h 3 _ rfl, cellB h 4 _ rfl, cellB h 5 _ rfl, cellB h 6 _ rfl, cellB h 7 _ rfl, cellB h 8 _ rfl, cellB h 9 _ rfl, cellB h 10 _ rfl⟩

theorem mlBox {W : World} {g : Nat} {f t : Int} {k : Int} {hd : Hd} {id : Int} {da : Option Addr} {dn dc : Nat} {n y : Int} (h : W.heap[g]? = some (.cells #[.int .i64 f, .int .i64 t, .int .i64 k, .int .i64 hd.F, .int .i64 hd.Q, .int .i64 hd.T, .int .i64 hd.L, .int .i64 hd.B, .int .i64 hd.K, .int .i64 id, .slice da dn dc, .int .i64 n, .int .i64 y] 34 (0, 0))) : W.cell? ⟨g, 0, none⟩ = some (.int .i64 f) ∧ W.cell? ⟨g, 1, none⟩ = some (.int .i64 t) ∧ W.cell? ⟨g, 2, none⟩ = some (.int .i64 k) ∧ W.cell? ⟨g, 3, none⟩ = some (.int .i64 hd.F) ∧ W.cell? ⟨g, 4, none⟩ = some (.int .i64 hd.Q) ∧ W.cell? ⟨g, 5, none⟩ = some (.int .i64 hd.T) ∧ W.cell? ⟨g, 6, none⟩ = some (.int .i64 hd.L) ∧ W.cell? ⟨g, 7, none⟩ = some (.int .i64 hd.B) ∧ W.cell? ⟨g, 8, none⟩ = some (.int .i64 hd.K) ∧ W.cell? ⟨g, 9, none⟩ = some (.int .i64 id) ∧ W.cell? ⟨g, 10, none⟩ = some (.slice da dn dc) ∧ W.cell? ⟨g, 11, none⟩ = some (.int .i64 n) ∧ W.cell? ⟨g, 12, none⟩ = some (.int .i64 y) :=
  ⟨cellB h 0 _ rfl, cellB h 1 _ rfl, cellB h 2 _ rfl, cellB h 3 _ rfl, cellB h 4 _ rfl, cellB h 5 _ rfl, cellB h 6 _ rfl, cellB h 7 _ rfl, cellB h 8 _ rfl, cellB h 9 _ rfl, cellB h 10 _ rfl, cellB h 11 _ rfl, cellB h 12 _ rfl⟩

set_option maxHeartbeats 1000000 in
theorem wFrame_any (k : Int) (h : Hd) (id : Int) (da : Option Addr) (dn dc : Nat) (n y : Int) (w : World) (ho : h.ok) (hn : dn ≤ maxLen) :
    Calls Try.prog 27 #[.agg #[.int .i64 k, .int .i64 h.F, .int .i64 h.Q, .int .i64 h.T, .int .i64 h.L, .int .i64 h.B, .int .i64 h.K, .int .i64 id, .slice da dn dc, .int .i64 n, .int .i64 y]] w fun e w' => e = .returned (.int .i64 (frCode k h id dn n y)) ∧ Below w.heap.size w w' := by
  obtain ⟨W, hW⟩ : ∃ W, w.alloc (.cells #[.int .i64 k, .int .i64 h.F, .int .i64 h.Q, .int .i64 h.T, .int .i64 h.L, .int .i64 h.B, .int .i64 h.K, .int .i64 id, .slice da dn dc, .int .i64 n, .int .i64 y] 32) = W := ⟨_, rfl⟩
  have hB : Below w.heap.size w W := by rw [← hW]; exact (Below.refl _ _).alloc (Nat.le_refl _) _
  have hk : W.heap[w.heap.size]? = some (.cells #[.int .i64 k, .int .i64 h.F, .int .i64 h.Q, .int .i64 h.T, .int .i64 h.L, .int .i64 h.B, .int .i64 h.K, .int .i64 id, .slice da dn dc, .int .i64 n, .int .i64 y] 32 (0, 0)) := by rw [← hW, heap_alloc_eq, if_pos rfl]
  obtain ⟨q0, q1, q2, q3, q4, q5, q6, q7, q8, q9, q10⟩ := frBox hk
  obtain ⟨R, hR⟩ : ∃ R, frCode k h id dn n y = R := ⟨_, rfl⟩
  rw [hR]
  have HR := Shut.mk hR
  have HW := Shut.mk hW
  have hH := head_any h W ho
  simp only [Hd.val] at hH
  clear hR hW
  by_cases h1 : k < 1 ∨ 4 < k
  · have HE : Shut (R = 4) := ⟨by rw [← HR.out, frCode, if_pos h1]⟩
    clear hH hk
    go_enter Try.func27, Try.ntmps27
    go_upto_region 1 with fail
    rw [HW.out]
    clear HW HR
    go_wp2
    all_goals first
      | (exfalso; omega)
      | (go_ret
         exact ⟨by rw [HE.out]; rfl, hB⟩)
  · have h1a : ¬ k < 1 := fun e => h1 (Or.inl e)
    have h1b : ¬ k > 4 := fun e => h1 (Or.inr e)
    have HE : Shut (R = if hdCode h ≠ 0 then hdCode h else if shCode k n y ≠ 0 then shCode k n y else syCode k h id dn) := ⟨by rw [← HR.out, frCode, if_neg h1]⟩
    clear HR h1
    generalize hdCode h = z at hH HE
    go_enter Try.func27, Try.ntmps27
    go_upto_region 1 with fail
    rw [HW.out]
    clear HW
    go_wp2_with fail
    refine hH.mono ?_
    rintro e W1 ⟨rfl, hb⟩
    have hB1 := hB.trans (hb.mono hB.size)
    have hk1 := blkB hk hb
    clear hH hb hk hB q0 q1 q2 q3 q4 q5 q6 q7 q8 q9 q10
    obtain ⟨q0, q1, q2, q3, q4, q5, q6, q7, q8, q9, q10⟩ := frBox hk1
    by_cases hz : z = 0
    · subst hz
      have HE2 : Shut (R = if shCode k n y ≠ 0 then shCode k n y else syCode k h id dn) := ⟨by rw [HE.out, if_neg (by simp)]⟩
      have hS := wShares_any k h id da dn dc n y W1
      clear HE
      generalize shCode k n y = z at hS HE2
      go_wp2_with fail
      refine hS.mono ?_
      rintro e W2 ⟨rfl, hb⟩
      have hB2 := hB1.trans (hb.mono hB1.size)
      have hk2 := blkB hk1 hb
      clear hS hb hk1 hB1 q0 q1 q2 q3 q4 q5 q6 q7 q8 q9 q10
      obtain ⟨q0, q1, q2, q3, q4, q5, q6, q7, q8, q9, q10⟩ := frBox hk2
      by_cases hz : z = 0
      · subst hz
        have HE3 : Shut (R = syCode k h id dn) := ⟨by rw [HE2.out, if_neg (by simp)]⟩
        have hY := wSymbol_any k h id da dn dc n y W2 ho hn
        clear HE2
        generalize syCode k h id dn = z at hY HE3
        go_wp2_with fail
        refine hY.mono ?_
        rintro e W3 ⟨rfl, hb⟩
        have hB3 := hB2.trans (hb.mono hB2.size)
        clear hY hb hk2 hB2 q0 q1 q2 q3 q4 q5 q6 q7 q8 q9 q10
        go_wp2
        go_ret
        exact ⟨by rw [HE3.out]; rfl, hB3⟩
      · have bz : (z != 0) = true := by simpa using hz
        have HE3 : Shut (R = z) := ⟨by rw [HE2.out, if_pos hz]⟩
        clear HE2 hz hk2
        go_wp2
        go_ret
        exact ⟨by rw [HE3.out]; rfl, hB2⟩
    · have bz : (z != 0) = true := by simpa using hz
      have HE3 : Shut (R = z) := ⟨by rw [HE.out, if_pos hz]⟩
      clear HE hz hk1
      go_wp2
      go_ret
      exact ⟨by rw [HE3.out]; rfl, hB1⟩

theorem ends_any (f t : Int) (k : Int) (h : Hd) (id : Int) (da : Option Addr) (dn dc : Nat) (n y : Int) (w : World) :
    Calls Try.prog 26 #[.agg #[.int .i64 f, .int .i64 t, .int .i64 k, .int .i64 h.F, .int .i64 h.Q, .int .i64 h.T, .int .i64 h.L, .int .i64 h.B, .int .i64 h.K, .int .i64 id, .slice da dn dc, .int .i64 n, .int .i64 y]] w fun e w' => e = .returned (.agg #[.int .i64 f, .int .i64 t]) ∧ Below w.heap.size w w' := by
  obtain ⟨W, hW⟩ : ∃ W, (w.alloc (.cells #[.int .i64 f, .int .i64 t, .int .i64 k, .int .i64 h.F, .int .i64 h.Q, .int .i64 h.T, .int .i64 h.L, .int .i64 h.B, .int .i64 h.K, .int .i64 id, .slice da dn dc, .int .i64 n, .int .i64 y] 34)).alloc (.cells #[.int .i64 0, .int .i64 0] 57) = W := ⟨_, rfl⟩
  have hB : Below w.heap.size w W := by rw [← hW]; exact ((Below.refl _ _).alloc (Nat.le_refl _) _).alloc (by simp) _
  have hk : W.heap[w.heap.size]? = some (.cells #[.int .i64 f, .int .i64 t, .int .i64 k, .int .i64 h.F, .int .i64 h.Q, .int .i64 h.T, .int .i64 h.L, .int .i64 h.B, .int .i64 h.K, .int .i64 id, .slice da dn dc, .int .i64 n, .int .i64 y] 34 (0, 0)) := by rw [← hW, heap_alloc_eq, if_neg (by simp), heap_alloc_eq, if_pos rfl]
  have hr : W.heap[w.heap.size + 1]? = some (.cells #[.int .i64 0, .int .i64 0] 57 (0, 0)) := by rw [← hW, heap_alloc_eq, if_pos (by simp)]
  obtain ⟨q0, q1, q2, q3, q4, q5, q6, q7, q8, q9, q10, q11, q12⟩ := mlBox hk
  have d0 : W.cell? ⟨w.heap.size + 1, 0, none⟩ = some (.int .i64 0) := cellB hr 0 _ rfl
  have d1 : W.cell? ⟨w.heap.size + 1, 1, none⟩ = some (.int .i64 0) := cellB hr 1 _ rfl
  have g0 : W.frozen? ⟨w.heap.size + 1, 0, none⟩ = false := by simp [World.frozen?, hr]
  have g1 : W.frozen? ⟨w.heap.size + 1, 1, none⟩ = false := by simp [World.frozen?, hr]
  have HW := Shut.mk hW
  clear hW
  go_enter Try.func26, Try.ntmps26
  go_upto_region 1 with fail
  rw [HW.out]
  clear HW
  go_wp2
  obtain ⟨W9, hW9, hb9, hk9, hB9⟩ := box2K W (w.heap.size + 1) 57 _ _ (.int .i64 f) (.int .i64 t) hr
  rw [hW9]
  have hF := hB9 _ _ (by omega) hB
  clear hW9 hB9 hk9 d0 d1 g0 g1
  have d0 : W9.cell? ⟨w.heap.size + 1, 0, none⟩ = some (.int .i64 f) := cellB hb9 0 _ rfl
  have d1 : W9.cell? ⟨w.heap.size + 1, 1, none⟩ = some (.int .i64 t) := cellB hb9 1 _ rfl
  refine bodyPost_ret (v := .agg #[.int .i64 f, .int .i64 t]) (by simp [results, Try.results26, go_sem, d0, d1]) rfl ?_
  exact ⟨rfl, hF⟩

end Go.Proofs.Ythhhlampphlmgaa

/-
  Chapter 10: package way's checkMail, Check.
-/
namespace Go.Proofs.Ythhhlampphlmgaa
open Go.RowKit
set_option linter.unusedVariables false
set_option linter.unusedSimpArgs false

/-- what is wrong with a mail -/
def mlC (f t k : Int) (h : Hd) (id : Int) (dn : Nat) (n y : Int) : Int := if (f < 0 ∨ 3 < f) ∨ t < 0 ∨ 3 < t then 3 else frCode k h id dn n y

theorem mlC_code (m : Ml) : mlC m.f m.t m.k m.h m.id m.d.length m.n m.y = m.code := rfl

theorem wFrame_at (k : Int) (h : Hd) (id : Int) (da : Option Addr) (dn dc : Nat) (n y : Int) (w : World) (ho : h.ok) (hn : dn ≤ maxLen) {z : Int} (hz : frCode k h id dn n y = z) :
    Calls Try.prog 27 #[.agg #[.int .i64 k, .int .i64 h.F, .int .i64 h.Q, .int .i64 h.T, .int .i64 h.L, .int .i64 h.B, .int .i64 h.K, .int .i64 id, .slice da dn dc, .int .i64 n, .int .i64 y]] w fun e w' => e = .returned (.int .i64 z) ∧ Below w.heap.size w w' := by
  rw [← hz]
  exact wFrame_any k h id da dn dc n y w ho hn

set_option maxHeartbeats 1000000 in
theorem wMail_any (f t : Int) (k : Int) (h : Hd) (id : Int) (da : Option Addr) (dn dc : Nat) (n y : Int) (w : World) (ho : h.ok) (hn : dn ≤ maxLen) :
    Calls Try.prog 15 #[.agg #[.int .i64 f, .int .i64 t, .int .i64 k, .int .i64 h.F, .int .i64 h.Q, .int .i64 h.T, .int .i64 h.L, .int .i64 h.B, .int .i64 h.K, .int .i64 id, .slice da dn dc, .int .i64 n, .int .i64 y]] w fun e w' => e = .returned (.int .i64 (mlC f t k h id dn n y)) ∧ Below w.heap.size w w' := by
  obtain ⟨W, hW⟩ : ∃ W, w.alloc (.cells #[.int .i64 f, .int .i64 t, .int .i64 k, .int .i64 h.F, .int .i64 h.Q, .int .i64 h.T, .int .i64 h.L, .int .i64 h.B, .int .i64 h.K, .int .i64 id, .slice da dn dc, .int .i64 n, .int .i64 y] 34) = W := ⟨_, rfl⟩
  have hB : Below w.heap.size w W := by rw [← hW]; exact (Below.refl _ _).alloc (Nat.le_refl _) _
  have hk : W.heap[w.heap.size]? = some (.cells #[.int .i64 f, .int .i64 t, .int .i64 k, .int .i64 h.F, .int .i64 h.Q, .int .i64 h.T, .int .i64 h.L, .int .i64 h.B, .int .i64 h.K, .int .i64 id, .slice da dn dc, .int .i64 n, .int .i64 y] 34 (0, 0)) := by rw [← hW, heap_alloc_eq, if_pos rfl]
  obtain ⟨q0, q1, q2, q3, q4, q5, q6, q7, q8, q9, q10, q11, q12⟩ := mlBox hk
  obtain ⟨R, hR⟩ : ∃ R, mlC f t k h id dn n y = R := ⟨_, rfl⟩
  rw [hR]
  have HR := Shut.mk hR
  have HW := Shut.mk hW
  have HO := Shut.mk (And.intro ho hn)
  have hE := ends_any f t k h id da dn dc n y W
  have ix0 : ∀ W, (Instr.index 57 (.agg #[.int .i64 f, .int .i64 t]) (.int .i64 0)).run Try.prog W = .ok (.int .i64 f) W := fun W => by kernel_rfl
  have ix1 : ∀ W, (Instr.index 57 (.agg #[.int .i64 f, .int .i64 t]) (.int .i64 1)).run Try.prog W = .ok (.int .i64 t) W := fun W => by kernel_rfl
  clear hR hW ho hn
  go_enter Try.func15, Try.ntmps15
  go_upto_region 1 with fail
  rw [HW.out]
  clear HW
  go_wp2_with fail
  refine hE.mono ?_
  rintro e W1 ⟨rfl, hb⟩
  have hB1 := hB.trans (hb.mono hB.size)
  have hk1 := blkB hk hb
  clear hE hb hk hB q0 q1 q2 q3 q4 q5 q6 q7 q8 q9 q10 q11 q12
  go_wp2
  go_loopw [7] (fun i wr => wr = W1 ∧ (i = .int .i64 0 ∨ (i = .int .i64 1 ∧ Shut (¬ (f < 0 ∨ 3 < f))) ∨ (i = .int .i64 2 ∧ Shut (¬ ((f < 0 ∨ 3 < f) ∨ t < 0 ∨ 3 < t))))) (fun i _ => 2 - (intOf i).toNat)
  case atStart => exact ⟨rfl, Or.inl rfl⟩
  case round =>
    obtain ⟨rfl, hi⟩ := hrel
    rcases hi with rfl | ⟨rfl, H1⟩ | ⟨rfl, H2⟩
    · by_cases hf : f < 0 ∨ 3 < f
      · have HE : Shut (R = 3) := ⟨by rw [← HR.out, mlC, if_pos (Or.inl hf)]⟩
        clear HR
        go_wp2
        all_goals first
          | (exfalso; omega)
          | (go_ret
             exact ⟨by rw [HE.out]; rfl, hB1⟩)
      · have h1 : ¬ f < 0 := fun e => hf (Or.inl e)
        have h2 : ¬ f ≥ 4 := fun e => hf (Or.inr (by omega))
        have H1 := Shut.mk hf
        clear hf
        go_wp2
        go_roundw
        case rel => exact ⟨by trivial, Or.inr (Or.inl ⟨by first | rfl | go_num, H1⟩)⟩
        case measure => simp [intOf]
    · by_cases hf : t < 0 ∨ 3 < t
      · have HE : Shut (R = 3) := ⟨by rw [← HR.out, mlC, if_pos (Or.inr hf)]⟩
        clear HR
        go_wp2
        all_goals first
          | (exfalso; omega)
          | (go_ret
             exact ⟨by rw [HE.out]; rfl, hB1⟩)
      · have h1 : ¬ t < 0 := fun e => hf (Or.inl e)
        have h2 : ¬ t ≥ 4 := fun e => hf (Or.inr (by omega))
        have H2 : Shut (¬ ((f < 0 ∨ 3 < f) ∨ t < 0 ∨ 3 < t)) := ⟨fun e => e.elim H1.out hf⟩
        clear hf H1
        go_wp2
        go_roundw
        case rel => exact ⟨by trivial, Or.inr (Or.inr ⟨by first | rfl | go_num, H2⟩)⟩
        case measure => simp [intOf]
    · have hF := wFrame_at k h id da dn dc n y wr HO.out.1 HO.out.2 (z := R) (by rw [← HR.out, mlC, if_neg H2.out])
      obtain ⟨q0, q1, q2, q3, q4, q5, q6, q7, q8, q9, q10, q11, q12⟩ := mlBox hk1
      clear hk1
      go_wp2_with fail
      refine hF.mono ?_
      rintro e W2 ⟨rfl, hb⟩
      have hB2 := hB1.trans (hb.mono hB1.size)
      clear hF hb hB1 q0 q1 q2 q3 q4 q5 q6 q7 q8 q9 q10 q11 q12
      go_wp2
      go_ret
      exact ⟨rfl, hB2⟩

theorem mlWell_any (y : MMl) (w : World) (hi : y.m.ints) (hn : y.m.d.length ≤ maxLen) :
    Calls Try.prog 15 #[.agg #[.int .i64 y.m.f, .int .i64 y.m.t, .int .i64 y.m.k, .int .i64 y.m.h.F, .int .i64 y.m.h.Q, .int .i64 y.m.h.T, .int .i64 y.m.h.L, .int .i64 y.m.h.B, .int .i64 y.m.h.K, .int .i64 y.m.id, .slice y.da y.m.d.length y.dc, .int .i64 y.m.n, .int .i64 y.m.y]] w fun e w' => e = .returned (.int .i64 y.m.code) ∧ Below w.heap.size w w' :=
  wMail_any y.m.f y.m.t y.m.k y.m.h y.m.id y.da y.m.d.length y.dc y.m.n y.m.y w hi.2.2.2.1 hn

/-- a mail that may be asked -/
def MlOk (y : MMl) : Prop := y.m.ints ∧ y.m.d.length ≤ maxLen

set_option maxHeartbeats 2000000 in
set_option maxRecDepth 4000 in
theorem wCheck_any (a : Option Addr) (l : List MMl) (c : Nat) (w : World) (hl : Lies w a (mailCells l)) (hall : ∀ y ∈ l, MlOk y) (hc : l.length ≤ c) (hm : l.length ≤ maxLen) :
    Calls Try.prog 9 #[.slice a l.length c] w fun e w' => e = .returned (.int .i64 (wyCode (l.map MMl.m))) ∧ Below w.heap.size w w' := by
  obtain ⟨Z, hZ⟩ : ∃ Z, wyCode (l.map MMl.m) = Z := ⟨_, rfl⟩
  rw [hZ]
  have HZ := Shut.mk hZ
  obtain ⟨n, hn⟩ : ∃ n, l.length = n := ⟨_, rfl⟩
  have HX := Shut.mk (And.intro hn (And.intro hl hall))
  rw [hn] at hc hm ⊢
  unfold maxLen at hm
  clear hl hall hn hZ
  by_cases h40 : 40 < n
  · have HE : Shut (Z = 2) := ⟨by rw [← HZ.out, wyCode, if_pos (by rw [List.length_map, HX.out.1]; exact h40)]⟩
    have h40' : (n : Int) > 40 := by omega
    go_enter Try.func9, Try.ntmps9
    go_wp2
    go_ret
    exact ⟨by rw [HE.out]; rfl, Below.refl _ _⟩
  · have HE : Shut (Z = firstBad ((l.map MMl.m).drop 0)) := ⟨by rw [← HZ.out, wyCode, if_neg (by rw [List.length_map, HX.out.1]; exact h40), List.drop_zero]⟩
    have h40' : ¬ (n : Int) > 40 := by omega
    clear HZ
    go_enter Try.func9, Try.ntmps9
    go_wp2
    go_loopw [11] (fun i wr => ∃ q : Nat, q ≤ n ∧ i = .int .i64 q ∧ Shut (Below w.heap.size w wr ∧ Z = firstBad ((l.map MMl.m).drop q))) (fun i _ => n - (intOf i).toNat)
    case atStart => exact ⟨0, Nat.zero_le _, rfl, ⟨Below.refl _ _, HE.out⟩⟩
    case round =>
      clear HE
      obtain ⟨q, hq, rfl, HN⟩ := hrel
      have hbr := HN.out.1
      by_cases hlt : q < n
      · obtain ⟨x, hx⟩ : ∃ x, l[q]? = some x := ⟨_, List.getElem?_eq_getElem (by rw [HX.out.1]; exact hlt)⟩
        obtain ⟨b1, o1, rfl⟩ := HX.out.2.1.some (k := 0) (by rw [mailCells_length, HX.out.1]; omega)
        have h1 := And.intro (HX.out.2.1.below hbr (Nat.le_refl _)) hx
        have hxo := HX.out.2.2 x (List.mem_of_getElem? hx)
        have hxm : (l.map MMl.m)[q]? = some x.m := by rw [List.getElem?_map, hx]; rfl
        have HS : Shut ((x.m.code = 0 → Z = firstBad ((l.map MMl.m).drop (q + 1))) ∧ (x.m.code ≠ 0 → Z = x.m.code)) := ⟨fun h => by rw [HN.out.2, firstBad_step hxm h], fun h => by rw [HN.out.2, firstBad_stop hxm h]⟩
        clear hx hxm HN
        have p0 : wr.cell? ⟨b1, o1 + q * 13, none⟩ = some (.int .i64 x.m.f) := mails_cell h1 0 rfl
        have p1 : wr.cell? ⟨b1, o1 + q * 13 + 1, none⟩ = some (.int .i64 x.m.t) := mails_cell h1 1 rfl
        have p2 : wr.cell? ⟨b1, o1 + q * 13 + 2, none⟩ = some (.int .i64 x.m.k) := mails_cell h1 2 rfl
        have p3 : wr.cell? ⟨b1, o1 + q * 13 + 3, none⟩ = some (.int .i64 x.m.h.F) := mails_cell h1 3 rfl
        have p4 : wr.cell? ⟨b1, o1 + q * 13 + 4, none⟩ = some (.int .i64 x.m.h.Q) := mails_cell h1 4 rfl
        have p5 : wr.cell? ⟨b1, o1 + q * 13 + 5, none⟩ = some (.int .i64 x.m.h.T) := mails_cell h1 5 rfl
        have p6 : wr.cell? ⟨b1, o1 + q * 13 + 6, none⟩ = some (.int .i64 x.m.h.L) := mails_cell h1 6 rfl
        have p7 : wr.cell? ⟨b1, o1 + q * 13 + 7, none⟩ = some (.int .i64 x.m.h.B) := mails_cell h1 7 rfl
        have p8 : wr.cell? ⟨b1, o1 + q * 13 + 8, none⟩ = some (.int .i64 x.m.h.K) := mails_cell h1 8 rfl
        have p9 : wr.cell? ⟨b1, o1 + q * 13 + 9, none⟩ = some (.int .i64 x.m.id) := mails_cell h1 9 rfl
        have p10 : wr.cell? ⟨b1, o1 + q * 13 + 10, none⟩ = some (.slice x.da x.m.d.length x.dc) := mails_cell h1 10 rfl
        have p11 : wr.cell? ⟨b1, o1 + q * 13 + 11, none⟩ = some (.int .i64 x.m.n) := mails_cell h1 11 rfl
        have p12 : wr.cell? ⟨b1, o1 + q * 13 + 12, none⟩ = some (.int .i64 x.m.y) := mails_cell h1 12 rfl
        clear h1
        go_upto_region 6 with fail
        obtain ⟨W1, hW1⟩ : ∃ W1, wr.alloc (.cells #[.int .i64 x.m.f, .int .i64 x.m.t, .int .i64 x.m.k, .int .i64 x.m.h.F, .int .i64 x.m.h.Q, .int .i64 x.m.h.T, .int .i64 x.m.h.L, .int .i64 x.m.h.B, .int .i64 x.m.h.K, .int .i64 x.m.id, .slice x.da x.m.d.length x.dc, .int .i64 x.m.n, .int .i64 x.m.y] 34) = W1 := ⟨_, rfl⟩
        rw [hW1]
        have hb1 : Below wr.heap.size wr W1 := by rw [← hW1]; exact (Below.refl _ _).alloc (Nat.le_refl _) _
        have hk1 : W1.heap[wr.heap.size]? = some (.cells #[.int .i64 x.m.f, .int .i64 x.m.t, .int .i64 x.m.k, .int .i64 x.m.h.F, .int .i64 x.m.h.Q, .int .i64 x.m.h.T, .int .i64 x.m.h.L, .int .i64 x.m.h.B, .int .i64 x.m.h.K, .int .i64 x.m.id, .slice x.da x.m.d.length x.dc, .int .i64 x.m.n, .int .i64 x.m.y] 34 (0, 0)) := by rw [← hW1, heap_alloc_eq, if_pos rfl]
        have hB1 := hbr.trans (hb1.mono hbr.size)
        have hC := mlWell_any x W1 hxo.1 hxo.2
        clear hW1 hb1 hbr hxo p0 p1 p2 p3 p4 p5 p6 p7 p8 p9 p10 p11 p12
        obtain ⟨q0, q1, q2, q3, q4, q5, q6, q7, q8, q9, q10, q11, q12⟩ := mlBox hk1
        generalize x.m.code = z at hC HS
        clear hk1
        go_wp2_with fail
        refine hC.mono ?_
        rintro e W2 ⟨rfl, hb⟩
        have hB2 := hB1.trans (hb.mono hB1.size)
        clear hC hb hB1 q0 q1 q2 q3 q4 q5 q6 q7 q8 q9 q10 q11 q12
        by_cases hz : z = 0
        · subst hz
          have R : Shut (Below w.heap.size w W2 ∧ Z = firstBad ((l.map MMl.m).drop (q + 1))) := ⟨hB2, HS.out.1 rfl⟩
          clear HS hB2
          go_wp2
          go_roundw
          case rel => exact ⟨q + 1, by omega, by go_num, R⟩
          case measure => simp [intOf]; omega
        · have bz : (z != 0) = true := by simpa using hz
          have R : Shut (Z = z) := ⟨HS.out.2 hz⟩
          clear HS hz
          go_wp2
          go_ret
          exact ⟨by rw [R.out]; rfl, hB2⟩
      · have R : Shut (Z = 0) := ⟨by rw [HN.out.2, List.drop_eq_nil_of_le (by rw [List.length_map, HX.out.1]; omega)]; rfl⟩
        clear HN
        go_wp2
        go_ret
        exact ⟨by rw [R.out]; rfl, hbr⟩

end Go.Proofs.Ythhhlampphlmgaa

/-
  Worlds above a world: all that was there is as it was. A region that draws its order, whose operations only read, and whose callees turn nothing that was there: one walk.
-/
namespace Go.Proofs.Ythhhlampphlmgaa
open Go.RowKit
set_option linter.unusedVariables false

/-- the worlds above a world -/
def Above (w : World) : Type := { w' : World // Below w.heap.size w w' }

def Above.w {w : World} (u : Above w) : World := u.1
theorem Above.below {w : World} (u : Above w) : Below w.heap.size w u.w := u.2

def Above.start (w : World) : Above w := ⟨w, Below.refl _ _⟩

/-- on behind a call -/
def Above.next {w : World} (u : Above w) {w' : World} (h : Below u.w.heap.size u.w w') : Above w := ⟨w', u.2.trans (h.mono u.2.size)⟩

theorem Above.cell {w : World} {b o : Nat} {v : Value} (h : w.cell? ⟨b, o, none⟩ = some v) (u : Above w) : u.w.cell? ⟨b, o, none⟩ = some v := by
  have := World.block_lt_of_cell? w _ h
  exact ((bcell u.2).1 b o this).trans h

theorem wp_region_above {P : Program} {id : Nat} {Q : Exit → Act → World → Prop} {a : Act} {w : World} {l : List Oper} (hm : P.follows .mixedOrders = true) (hB : Region.lexB .any l.toArray = true)
    (h : wpQuiet P l.toArray (fun w' => ∃ u : Above w, w' = u.w) (fun a' => ∀ w', (∃ u : Above w, w' = u.w) → Q .normal a' w') l a) : (Code.region id l.toArray true).wp P Q a w :=
  wp_region_quiet (C := fun w' => ∃ u : Above w, w' = u.w) hm hB ⟨⟨w.drew, (Below.refl _ _).drew⟩, rfl⟩ (by simpa using h)

/-- a contract of a callee that turns nothing that was there -/
theorem Calls.above {P : Program} {f : FuncId} {args : Array Value} {w : World} {u : Above w} {v : Value} (h : Calls P f args u.w fun e w' => e = .returned v ∧ Below u.w.heap.size u.w w') :
    Calls P f args u.w fun e w'' => e = .returned v ∧ ∃ u' : Above w, w'' = u'.w :=
  h.mono fun _ w' ⟨he, hb⟩ => ⟨he, u.next hb, rfl⟩

end Go.Proofs.Ythhhlampphlmgaa

/-
  bytes.Equal and sum.Same: the contract of each.
-/
namespace Go.Proofs.Ythhhlampphlmgaa
open Go.RowKit
set_option linter.unusedVariables false
set_option linter.unusedSimpArgs false

theorem foldl_push (l : List UInt8) (s : ByteArray) : ((l.map fun x => (x.toNat : Int)).foldl (fun r n => r.push (UInt8.ofNat n.toNat)) s).data.toList = s.data.toList ++ l := by
  induction l generalizing s with
  | nil => simp
  | cons x r ih =>
    simp only [List.map_cons, List.foldl_cons]
    rw [ih]
    simp [ByteArray.push]

theorem conv_bytes {w : World} {a : Option Addr} {n c : Nat} {l : List UInt8} (h : Lies w a (bs l)) (hl : l.length = n) :
    (convert 27 9 (.slice a n c)).run Try.prog w = .ok (.string ⟨l.toArray⟩) w := by
  rw [run_convert_bytes_string w 27 9 5 a n c Try.underlying27 Try.underlying5 Try.underlying9]
  cases a with
  | none =>
    have : l = [] := by
      cases l with
      | nil => rfl
      | cons x r => obtain ⟨_, _, e, _⟩ := h 0 _ (by simp [bs]; rfl); simp at e
    subst this
    simp [Conv.bytesToString, Sem.run_pure]
    rfl
  | some ad =>
    have hlc : (loadCells ad n).run Try.prog w = .ok ((l.map fun x => (x.toNat : Int)).map (Value.int .u8)).toArray w := by
      have hh := run_loadCells_list (P := Try.prog) w ad ((l.map fun x => (x.toNat : Int)).map (Value.int .u8)) (fun j v hj => by
        obtain ⟨b, off, e, hc⟩ := h j v (by simpa [bs] using hj)
        simp at e
        subst e
        simpa [Addr.add_lit] using hc)
      simpa [hl] using hh
    rw [run_bytesToString w ad n c _ hlc]
    congr 2
    have := foldl_push l ByteArray.empty
    simp at this
    cases hh : ((l.map fun x => (x.toNat : Int)).foldl (fun r n => r.push (UInt8.ofNat n.toNat)) ByteArray.empty) with
    | mk d =>
      rw [hh] at this
      simp at this
      subst this
      simp


theorem beq_dec (xs ys : List UInt8) : (xs == ys) = decide (xs = ys) := by
  by_cases h : xs = ys
  · simp [h]
  · simp [h]

theorem bytesEqual_any (a b : Option Addr) (ca cb : Nat) (xs ys : List UInt8) (w : World) (ha : Lies w a (bs xs)) (hb : Lies w b (bs ys)) :
    Calls Try.prog 41 #[.slice a xs.length ca, .slice b ys.length cb] w fun e w' => e = .returned (.bool (decide (xs = ys))) ∧ w = w' := by
  have h1 := conv_bytes (c := ca) ha rfl
  have h2 := conv_bytes (c := cb) hb rfl
  clear ha hb
  go_enter Try.func41, Try.ntmps41
  go_wp2
  go_ret
  exact ⟨ret_bool (beq_dec xs ys), rfl⟩

theorem same_any (a b : Option Addr) (n m ca cb : Nat) (xs ys : List UInt8) (w : World) (hn : xs.length = n) (hm : ys.length = m) (ha : Lies w a (bs xs)) (hb : Lies w b (bs ys)) :
    Calls Try.prog 37 #[.slice a n ca, .slice b m cb] w fun e w' => e = .returned (.bool (decide (xs = ys))) ∧ w = w' := by
  subst hn hm
  go_enter Try.func37, Try.ntmps37
  go_wp2_with fail
  refine (bytesEqual_any _ _ _ _ xs ys _ ha hb).mono ?_
  rintro e w' ⟨rfl, rfl⟩
  go_wp2
  go_ret
  exact ⟨rfl, rfl⟩

end Go.Proofs.Ythhhlampphlmgaa

/-
  slices.Equal at integers: the contract of each instance.
-/
namespace Go.Proofs.Ythhhlampphlmgaa
open Go.RowKit
set_option linter.unusedVariables false
set_option linter.unusedSimpArgs false

theorem take_eq_succ {xs ys : List Int} {k : Nat} (h : xs.take k = ys.take k) (h1 : k < xs.length) (h2 : k < ys.length) (e : xs[k] = ys[k]) : xs.take (k + 1) = ys.take (k + 1) := by
  rw [List.take_succ_eq_append_getElem h1, List.take_succ_eq_append_getElem h2, h, e]

set_option maxHeartbeats 400000 in
theorem equalBlock0 {w : World} (a b : Option Addr) (ca cb : Nat) (xs ys : List Int) (hx : xs.length ≤ maxLen) (hy : ys.length ≤ maxLen)
    (ha : Lies w a (xs.map (Value.int .u8))) (hb : Lies w b (ys.map (Value.int .u8))) :
    Calls Try.prog 31 #[.slice a xs.length ca, .slice b ys.length cb] w fun e w' => e = .returned (.bool (decide (xs = ys))) ∧ ∃ n, w' = w.drewN n := by
  unfold maxLen at hx hy
  by_cases hl : xs.length = ys.length
  · have hne : ((xs.length : Int) != (ys.length : Int)) = false := by simp [hl]
    have HL : Hid (xs.length = ys.length) := hl
    have hle : xs.length ≤ ys.length := by omega
    clear hl
    go_enter Try.func31, Try.ntmps31
    go_wp2
    go_loopw [13] (fun i wr => ∃ k nq : Nat, k ≤ xs.length ∧ i = .int .i64 k ∧ wr = w.drewN nq ∧ xs.take k = ys.take k) (fun i _ => xs.length - (intOf i).toNat)
    case atStart => exact ⟨0, 0, Nat.zero_le _, rfl, rfl, rfl⟩
    case round =>
      obtain ⟨k, nq, hk, rfl, rfl, heq⟩ := hrel
      have HE : Hid (xs.take k = ys.take k) := heq
      clear heq
      by_cases hlt : k < xs.length
      · obtain ⟨b1, o1, rfl⟩ := ha.some (k := k) (by simpa using hlt)
        obtain ⟨b2, o2, rfl⟩ := hb.some (k := k) (by simp; omega)
        have hlt2 : k < ys.length := by omega
        have h1 : w.cell? ⟨b1, o1 + k, none⟩ = some (.int .u8 xs[k]) := ha.at (by simp [hlt])
        have h2 : w.cell? ⟨b2, o2 + k, none⟩ = some (.int .u8 ys[k]) := hb.at (by simp [hlt2])
        clear ha hb
        go_wp2
        go_quiet (fail)
        go_wp2
        · go_ret
          have hd : ¬ xs = ys := fun e => by
            have h : (xs[k] != ys[k]) = true := by assumption
            subst e
            simp at h
          exact ⟨by simp [hd], _, World.drewN_drewN ..⟩
        · have hd : xs[k] = ys[k] := by
            have h : (xs[k] != ys[k]) = false := by assumption
            simpa using h
          go_roundw
          case rel => exact ⟨k + 1, _, by omega, by go_num, rfl, take_eq_succ HE.out hlt hlt2 hd⟩
          case measure => simp [intOf]; omega
      · have HD : Hid (xs = ys) := by
          have h := HE.out
          have hL := HL.out
          rw [List.take_of_length_le (by omega), List.take_of_length_le (by omega)] at h
          exact h
        clear ha hb
        go_wp2
        go_ret
        exact ⟨by simp [HD.out], _, rfl⟩
  · have hne : ((xs.length : Int) != (ys.length : Int)) = true := by simp; omega
    have hd : ¬ xs = ys := fun e => hl (by rw [e])
    have HD : Hid (¬ xs = ys) := hd
    clear hd hl ha hb
    go_enter Try.func31, Try.ntmps31
    go_wp2
    go_ret
    exact ⟨by simp [HD.out], 0, rfl⟩

theorem bs_map (l : List UInt8) : bs l = (l.map fun x => (x.toNat : Int)).map (Value.int .u8) := by simp [bs]

theorem nats_inj {l m : List UInt8} : (l.map fun x => (x.toNat : Int)) = (m.map fun x => (x.toNat : Int)) ↔ l = m := by
  constructor
  · intro h
    have : ∀ (l m : List UInt8), (l.map fun x => (x.toNat : Int)) = (m.map fun x => (x.toNat : Int)) → l = m := by
      intro l
      induction l with
      | nil => intro m h; cases m <;> simp_all
      | cons x l ih =>
        intro m h
        cases m with
        | nil => simp at h
        | cons y m =>
          simp only [List.map_cons, List.cons.injEq] at h
          rw [ih m h.2]
          have : x = y := UInt8.toNat_inj.1 (by omega)
          rw [this]
    exact this l m h
  · intro h; rw [h]

theorem equalBlock {w : World} (a b : Option Addr) (ca cb : Nat) (xs ys : List UInt8) (hx : xs.length ≤ maxLen) (hy : ys.length ≤ maxLen)
    (ha : Lies w a (bs xs)) (hb : Lies w b (bs ys)) :
    Calls Try.prog 31 #[.slice a xs.length ca, .slice b ys.length cb] w fun e w' => e = .returned (.bool (decide (xs = ys))) ∧ ∃ n, w' = w.drewN n := by
  have h := equalBlock0 (w := w) a b ca cb (xs.map fun x => (x.toNat : Int)) (ys.map fun x => (x.toNat : Int)) (by simpa using hx) (by simpa using hy) (by rw [← bs_map]; exact ha) (by rw [← bs_map]; exact hb)
  simp only [List.length_map, nats_inj] at h
  exact h

end Go.Proofs.Ythhhlampphlmgaa
