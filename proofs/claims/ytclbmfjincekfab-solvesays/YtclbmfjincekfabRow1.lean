/-
  Rows in memory; the reference's FirstOf: its contract.
-/
import Derived.Test.YtclbmfjincekfabSum2
namespace Go.Proofs.Ytclbmfjincekfab
open Go.RowKit
set_option linter.unusedVariables false
set_option linter.unusedSimpArgs false

/-- a row in memory: its bools, its bytes, and where they lie -/
structure MRow where
  ha : Option Addr
  hc : Nat
  h : List Bool
  da : Option Addr
  dc : Nat
  d : List UInt8

def MRow.hv (r : MRow) : Value := .slice r.ha r.h.length r.hc
def MRow.dv (r : MRow) : Value := .slice r.da r.d.length r.dc
def MRow.val (r : MRow) : Value := .agg #[r.hv, r.dv]

/-- it lies there -/
def RowIn (w : World) (r : MRow) : Prop := Lies w r.ha (r.h.map Value.bool) ∧ Lies w r.da (bs r.d) ∧ r.h.length ≤ maxLen ∧ r.d.length ≤ maxLen

theorem RowIn.below {w w' : World} {r : MRow} (h : RowIn w r) (hb : Below w.heap.size w w') : RowIn w' r := ⟨h.1.below hb (Nat.le_refl _), h.2.1.below hb (Nat.le_refl _), h.2.2⟩

/-- the cells of rows that stand in a list -/
def rowCells (l : List MRow) : List Value := l.flatMap fun r => [r.hv, r.dv]

theorem rowCells_length (l : List MRow) : (rowCells l).length = 2 * l.length := by
  induction l with
  | nil => rfl
  | cons r l ih => simp only [rowCells, List.flatMap_cons, List.length_append, List.length_cons, List.length_nil] at ih ⊢; omega

theorem rowCells_append (l m : List MRow) : rowCells (l ++ m) = rowCells l ++ rowCells m := by simp [rowCells]

theorem rowCells_get {l : List MRow} : ∀ {j : Nat} (hj : j < l.length), (rowCells l)[2 * j]? = some l[j].hv ∧ (rowCells l)[2 * j + 1]? = some l[j].dv := by
  induction l with
  | nil => intro j hj; simp at hj
  | cons r l ih =>
    intro j hj
    have e : rowCells (r :: l) = r.hv :: r.dv :: rowCells l := rfl
    cases j with
    | zero => rw [e]; exact ⟨rfl, rfl⟩
    | succ j =>
      have := ih (j := j) (by simpa using hj)
      rw [e, show 2 * (j + 1) = 2 * j + 1 + 1 by omega]
      simpa using this

/-- where the first true one is; -1, if there is none -/
def firstI (h : List Bool) : Int := if h.findIdx id < h.length then (h.findIdx id : Nat) else -1

theorem firstI_at {h : List Bool} {k : Nat} (hk : k < h.length) (ht : h[k] = true) (hn : ∀ j (hj : j < k), h[j]'(by omega) = false) : firstI h = k := by
  have e : h.findIdx id = k := by
    rw [List.findIdx_eq hk]
    exact ⟨by simpa using ht, fun j hj => by simpa using hn j hj⟩
  rw [firstI, e, if_pos hk]

theorem firstI_none {h : List Bool} (hn : ∀ j (hj : j < h.length), h[j] = false) : firstI h = -1 := by
  rw [firstI, if_neg]
  intro hl
  have := List.findIdx_getElem (w := hl)
  rw [hn _ hl] at this
  simp at this

theorem firstOf_any (r : MRow) (w : World) (hr : RowIn w r) : Calls Try.prog 27 #[.agg #[r.hv, r.dv]] w fun e w' => e = .returned (.int .i64 (firstI r.h)) ∧ Below w.heap.size w w' := by
  obtain ⟨h1, h2, h3, h4⟩ := hr
  unfold maxLen at h3
  have hla := h1.alloc (.cells #[r.hv, r.dv] 29)
  have hb : Below w.heap.size w (w.alloc (.cells #[r.hv, r.dv] 29)) := (Below.refl _ _).alloc (Nat.le_refl _) _
  clear h1 h2 h4
  unfold MRow.hv at *
  obtain ⟨ha, hc, h, da, dc, d⟩ := r
  simp only at *
  generalize MRow.dv ⟨ha, hc, h, da, dc, d⟩ = dv at *
  go_enter Try.func27, Try.ntmps27
  go_wp2
  generalize w.alloc (.cells #[.slice ha h.length hc, dv] 29) = w1 at *
  go_loopw [8] (fun i wr => ∃ k : Nat, k ≤ h.length ∧ i = .int .i64 k ∧ wr = w1 ∧ Shut (∀ j (hj : j < h.length), j < k → h[j] = false)) (fun i _ => h.length - (intOf i).toNat)
  case atStart => exact ⟨0, Nat.zero_le _, rfl, rfl, ⟨fun j _ hj => by omega⟩⟩
  case round =>
    obtain ⟨k, hk, rfl, rfl, HN⟩ := hrel
    by_cases hlt : k < h.length
    · obtain ⟨b1, o1, rfl⟩ := hla.some (k := k) (by simpa using hlt)
      have c1 : wr.cell? ⟨b1, o1 + k, none⟩ = some (.bool h[k]) := hla.at (by simp [hlt])
      clear hla
      cases hx : h[k]
      · have HN2 : Shut (∀ j (hj : j < h.length), j < k + 1 → h[j] = false) := ⟨fun j hj hjk => by
          by_cases e : j = k
          · subst e; exact hx
          · exact HN.out j hj (by omega)⟩
        rw [hx] at c1
        clear hx HN
        go_wp2
        exact ⟨⟨k + 1, by omega, by go_num, trivial, HN2⟩, by simp [intOf]; omega⟩
      · have HF : Shut (firstI h = k) := ⟨firstI_at hlt hx fun j hj => HN.out j (by omega) hj⟩
        rw [hx] at c1
        clear hx HN
        go_wp2
        go_ret
        exact ⟨ret_int HF.out.symm, hb⟩
    · have HF : Shut (firstI h = -1) := ⟨firstI_none fun j hj => HN.out j hj (by omega)⟩
      clear hla HN
      go_wp2
      go_ret
      exact ⟨ret_int HF.out.symm, hb⟩

end Go.Proofs.Ytclbmfjincekfab
