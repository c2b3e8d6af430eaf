/-
  Chapter 7, of no program: Check, as package note goes about it.
-/
import Derived.Test.YtcpnbkgkknlocaaDoorNoteQ
namespace Go.Proofs.YtcpnbkgkknlocaaDoor
open Go.RowKit
set_option linter.unusedVariables false
set_option linter.unusedSimpArgs false

/-- is it one of these kinds? -/
def inK (k : Int) (l : List Int) : Bool := l.any (· == k)

/-- has the record something that its kind has no use for? -/
def needless (k p n y : Int) (h : Hd) (id : Int) (dn cn : Nat) : Bool :=
  (!(p == 0) && !inK k [4, 6]) || (!(n == 0) && !inK k [1, 4, 6, 8]) || (!(y == 0) && !inK k [4, 5, 6]) || (!decide (h = ⟨0, 0, 0, 0, 0, 0⟩) && inK k [8]) || ((!(id == 0) || decide ((0 : Int) < dn)) && !inK k [2]) || (decide ((0 : Int) < cn) && !inK k [1, 3])

theorem uses_none {k : Int} : usesL k = none ↔ ¬ (1 ≤ k ∧ k ≤ 8) := by
  constructor
  · intro h hk
    have : k = 1 ∨ k = 2 ∨ k = 3 ∨ k = 4 ∨ k = 5 ∨ k = 6 ∨ k = 7 ∨ k = 8 := by omega
    rcases this with rfl | rfl | rfl | rfl | rfl | rfl | rfl | rfl <;> cases h
  · intro hk
    have h1 : ∀ p ∈ usesT, ¬ (p.1 == k) = true := by
      intro p hp
      simp only [usesT, List.mem_cons, List.not_mem_nil, or_false] at hp
      rcases hp with rfl | rfl | rfl | rfl | rfl | rfl | rfl | rfl <;> simp <;> omega
    simp only [usesL, List.find?_eq_none.2 h1, Option.map_none]

theorem uses_eight {k : Int} {u : List UInt8} (h : usesL k = some u) : (k = 1 ∧ u = [78, 72, 67]) ∨ (k = 2 ∧ u = [72, 83]) ∨ (k = 3 ∧ u = [72, 67]) ∨ (k = 4 ∧ u = [80, 78, 84, 72]) ∨ (k = 5 ∧ u = [84, 72]) ∨ (k = 6 ∧ u = [80, 78, 84, 72]) ∨ (k = 7 ∧ u = [72]) ∨ (k = 8 ∧ u = [78]) := by
  by_cases hk : 1 ≤ k ∧ k ≤ 8
  · have : k = 1 ∨ k = 2 ∨ k = 3 ∨ k = 4 ∨ k = 5 ∨ k = 6 ∨ k = 7 ∨ k = 8 := by omega
    rcases this with rfl | rfl | rfl | rfl | rfl | rfl | rfl | rfl <;> (simp only [usesL, usesT] at h; injection h with h; subst h; simp)
  · rw [uses_none.2 hk] at h; cases h

theorem needless_form {k p n y : Int} {h : Hd} {id : Int} {dn cn : Nat} {u : List UInt8} (hu : usesL k = some u) : needless k p n y h id dn cn = !formB u p n y h id dn cn := by
  have hd : decide ((0 : Int) < dn) = !((dn : Int) == 0) := by
    by_cases e : dn = 0
    · subst e; rfl
    · have h1 : ¬ (dn : Int) = 0 := by omega
      have h2 : (0 : Int) < dn := by omega
      rw [decide_eq_true h2, beq_eq_false_iff_ne.2 h1]; rfl
  have hc : decide ((0 : Int) < cn) = !((cn : Int) == 0) := by
    by_cases e : cn = 0
    · subst e; rfl
    · have h1 : ¬ (cn : Int) = 0 := by omega
      have h2 : (0 : Int) < cn := by omega
      rw [decide_eq_true h2, beq_eq_false_iff_ne.2 h1]; rfl
  have b1 : ∀ a : UInt8, a ∈ ([80, 78, 84, 72, 83, 67] : List UInt8) → True := fun _ _ => trivial
  simp only [needless, formB, hd, hc]
  generalize (p == 0) = z1
  generalize (n == 0) = z2
  generalize (y == 0) = z3
  generalize decide (h = ⟨0, 0, 0, 0, 0, 0⟩) = z4
  generalize (id == 0) = z5
  generalize ((dn : Int) == 0) = z6
  generalize ((cn : Int) == 0) = z7
  clear hd hc b1
  rcases uses_eight hu with ⟨rfl, rfl⟩ | ⟨rfl, rfl⟩ | ⟨rfl, rfl⟩ | ⟨rfl, rfl⟩ | ⟨rfl, rfl⟩ | ⟨rfl, rfl⟩ | ⟨rfl, rfl⟩ | ⟨rfl, rfl⟩ <;> (clear hu; revert z1 z2 z3 z4 z5 z6 z7; decide)

/-- what note.Check answers, in its own order -/
def ownCode (k p n y : Int) (h : Hd) (id : Int) (dn cn : Nat) : Int :=
  if ¬ (1 ≤ k ∧ k ≤ 8) then 4
  else if needless k p n y h id dn cn = true then 4
  else if ¬ ((0 ≤ p ∧ p ≤ 3) ∧ (0 ≤ y ∧ y ≤ 9999) ∧ (0 ≤ n ∧ n ≤ 1000000)) then 3
  else if k = 8 then 0
  else if hdCode h ≠ 0 then hdCode h
  else if k = 2 then chkS h.B h.K id dn
  else if (k = 1 ∨ k = 3) ∧ (cn : Int) ≠ h.B then 4
  else 0

theorem ownCode_rec (k p n y : Int) (h : Hd) (id : Int) (dn cn : Nat) : ownCode k p n y h id dn cn = recCode k p n y h id dn cn := by
  unfold ownCode recCode
  cases hu : usesL k with
  | none => rw [if_pos (uses_none.1 hu)]
  | some u =>
    have hk : 1 ≤ k ∧ k ≤ 8 := Classical.byContradiction fun hn => by rw [uses_none.2 hn] at hu; cases hu
    rw [if_neg (by simpa using hk), needless_form hu]
    simp only
    by_cases hf : formB u p n y h id dn cn = true
    · rw [if_neg (by simp [hf]), if_pos hf]
      simp only [restCode]
      by_cases hr : (0 ≤ p ∧ p ≤ 3) ∧ (0 ≤ y ∧ y ≤ 9999) ∧ (0 ≤ n ∧ n ≤ 1000000)
      · have hr' : ¬ ¬ ((0 ≤ p ∧ p ≤ 3) ∧ (0 ≤ y ∧ y ≤ 9999) ∧ (0 ≤ n ∧ n ≤ 1000000)) := fun hh => hh hr
        rw [if_neg hr', if_neg hr']
        generalize hdCode h = e
        generalize chkS h.B h.K id dn = s
        by_cases he : e = 0
        · subst he
          rcases uses_eight hu with ⟨rfl, rfl⟩ | ⟨rfl, rfl⟩ | ⟨rfl, rfl⟩ | ⟨rfl, rfl⟩ | ⟨rfl, rfl⟩ | ⟨rfl, rfl⟩ | ⟨rfl, rfl⟩ | ⟨rfl, rfl⟩ <;> simp [show hasB [78, 72, 67] 72 = true by decide, show hasB [78, 72, 67] 83 = false by decide, show hasB [78, 72, 67] 67 = true by decide, show hasB [72, 83] 72 = true by decide, show hasB [72, 83] 83 = true by decide, show hasB [72, 83] 67 = false by decide, show hasB [72, 67] 72 = true by decide, show hasB [72, 67] 83 = false by decide, show hasB [72, 67] 67 = true by decide, show hasB [80, 78, 84, 72] 72 = true by decide, show hasB [80, 78, 84, 72] 83 = false by decide, show hasB [80, 78, 84, 72] 67 = false by decide, show hasB [84, 72] 72 = true by decide, show hasB [84, 72] 83 = false by decide, show hasB [84, 72] 67 = false by decide, show hasB [72] 72 = true by decide, show hasB [72] 83 = false by decide, show hasB [72] 67 = false by decide, show hasB [78] 72 = false by decide, show hasB [78] 83 = false by decide, show hasB [78] 67 = false by decide]
        · rcases uses_eight hu with ⟨rfl, rfl⟩ | ⟨rfl, rfl⟩ | ⟨rfl, rfl⟩ | ⟨rfl, rfl⟩ | ⟨rfl, rfl⟩ | ⟨rfl, rfl⟩ | ⟨rfl, rfl⟩ | ⟨rfl, rfl⟩ <;> simp [he, show hasB [78, 72, 67] 72 = true by decide, show hasB [78, 72, 67] 83 = false by decide, show hasB [78, 72, 67] 67 = true by decide, show hasB [72, 83] 72 = true by decide, show hasB [72, 83] 83 = true by decide, show hasB [72, 83] 67 = false by decide, show hasB [72, 67] 72 = true by decide, show hasB [72, 67] 83 = false by decide, show hasB [72, 67] 67 = true by decide, show hasB [80, 78, 84, 72] 72 = true by decide, show hasB [80, 78, 84, 72] 83 = false by decide, show hasB [80, 78, 84, 72] 67 = false by decide, show hasB [84, 72] 72 = true by decide, show hasB [84, 72] 83 = false by decide, show hasB [84, 72] 67 = false by decide, show hasB [72] 72 = true by decide, show hasB [72] 83 = false by decide, show hasB [72] 67 = false by decide, show hasB [78] 72 = false by decide, show hasB [78] 83 = false by decide, show hasB [78] 67 = false by decide]
      · rw [if_pos hr, if_pos hr]
    · rw [if_pos (by simpa using hf), if_neg hf]

end Go.Proofs.YtcpnbkgkknlocaaDoor
