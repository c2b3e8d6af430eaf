/-
  Chapter 7, the reference: CheckRec's table of uses, and what a look-up in it answers.
-/
import Derived.Test.YtcpnbkgkknlocaaDoorNote1
import Derived.Shelf.Abstract
import Derived.Deep.CutBlock
import Derived.Maps.OwnSet
import Derived.Maps.StringElems
namespace Go.Proofs.YtcpnbkgkknlocaaDoor
open Go.RowKit Go.Maps
set_option linter.unusedVariables false
set_option linter.unusedSimpArgs false

theorem keyI : Keyed Tryd.prog 3 := int_keyed Tryd.underlying3

/-- the reference's table: which fields each kind uses -/
def usesT : List (Int × List UInt8) := [(1, [78, 72, 67]), (2, [72, 83]), (3, [72, 67]), (4, [80, 78, 84, 72]), (5, [84, 72]), (6, [80, 78, 84, 72]), (7, [72]), (8, [78])]

/-- .. of one kind -/
def usesL (k : Int) : Option (List UInt8) := (usesT.find? fun p => p.1 == k).map Prod.snd

/-- a table filled so far -/
def mapTo (l : List (Int × List UInt8)) : DataW Unit := l.foldl (fun m p => m.put (.int .i64 p.1) (.lit (.string p.2))) (.map [])

theorem insertK {w : World} {b n : Nat} {D : DataW Unit} (h : w.ownsMap Tryd.prog 3 (plainElem Tryd.prog 9) b n D) (hn : n ≤ 8) (k : Int) (hk : (Lit.int .i64 k).wf = true) (s : ByteArray) (hs : s.size ≤ 8) :
    ∃ w', (Instr.mapUpdate 82 (.map (some b)) (.int .i64 k) (.string s)).run Tryd.prog w = .ok () w' ∧ w'.ownsMap Tryd.prog 3 (plainElem Tryd.prog 9) b (n + 1) (D.put (.int .i64 k) (.lit (.string s.data.toList))) ∧ w.grownBy w' (some b) :=
  h.update keyI Tryd.underlying82 (by unfold maxLen; omega) (keyOf_int_mk Tryd.underlying3 hk) (plainElem_string Tryd.underlying9 (by unfold maxLen; omega))

theorem mapTo_all : mapTo usesT = .map (usesT.map fun p => (.int .i64 p.1, .lit (.string p.2))) := by rfl

theorem has_pairs (k : Int) : ∀ l : List (Int × List UInt8), Maps.has (H := Unit) (.map (l.map fun p => (.int .i64 p.1, .lit (.string p.2)))) (.int .i64 k) = (l.find? fun p => p.1 == k).isSome := by
  intro l
  induction l with
  | nil => rfl
  | cons p l ih =>
    simp only [Maps.has, List.map_cons, List.any_cons, Lit.sameKey, true_and] at ih ⊢
    rw [ih, List.find?_cons]
    by_cases e : p.1 = k
    · simp [e]
    · have e2 : (p.1 == k) = false := by simpa using e
      simp [e, e2]

theorem at_pairs (k : Int) : ∀ l : List (Int × List UInt8), DataW.atKey (H := Unit) (.map (l.map fun p => (.int .i64 p.1, .lit (.string p.2)))) (.int .i64 k) (.lit (.string [])) = .lit (.string (((l.find? fun p => p.1 == k).map Prod.snd).getD [])) := by
  intro l
  induction l with
  | nil => rfl
  | cons p l ih =>
    simp only [DataW.atKey, List.map_cons, List.find?_cons, Lit.sameKey, true_and] at ih ⊢
    by_cases e : p.1 = k
    · have e2 : (p.1 == k) = true := by simpa using e
      simp [e, e2]
    · have e2 : (p.1 == k) = false := by simpa using e
      simp only [e, e2, decide_false]
      exact ih

/-- what a look-up of a kind answers -/
theorem lookK {w : World} {b n : Nat} (h : w.ownsMap Tryd.prog 3 (plainElem Tryd.prog 9) b n (mapTo usesT)) (k : Int) (hk : (Lit.int .i64 k).wf = true) :
    ∃ s : ByteArray, (Instr.lookup 82 (.map (some b)) (.int .i64 k) true).run Tryd.prog w = .ok (.tuple #[.string s, .bool (usesL k).isSome]) w ∧ s.data.toList = (usesL k).getD [] := by
  obtain ⟨v, ps, hrun, hv⟩ := h.look_ok (e := 9) keyI Tryd.underlying82 (z := .string ByteArray.empty) (by kernel_rfl) (zd := .lit (.string [])) (zp := []) (plainElem_string Tryd.underlying9 (by simp [maxLen])) (keyOf_int_mk Tryd.underlying3 hk)
  obtain ⟨s, rfl, hz, _⟩ := plainElem_string_inv Tryd.underlying9 hv
  rw [mapTo_all] at hrun hz
  rw [has_pairs] at hrun
  rw [at_pairs] at hz
  refine ⟨s, ?_, ?_⟩
  · rw [hrun, usesL, Option.isSome_map]
  · have h3 := congrArg Prod.fst hz
    simp only [DataW.lit.injEq, Lit.string.injEq] at h3
    rw [usesL]
    exact h3.symm

/-- the table, filled: eight stores, one behind the other -/
theorem table_run (W : World) : ∃ w1 w2 w3 w4 w5 w6 w7 w8,
    (Instr.mapUpdate 82 (.map (some W.heap.size)) (.int .i64 1) (.string ⟨#[78, 72, 67]⟩)).run Tryd.prog (W.alloc (.map #[] 0)) = .ok () w1 ∧
    (Instr.mapUpdate 82 (.map (some W.heap.size)) (.int .i64 2) (.string ⟨#[72, 83]⟩)).run Tryd.prog w1 = .ok () w2 ∧
    (Instr.mapUpdate 82 (.map (some W.heap.size)) (.int .i64 3) (.string ⟨#[72, 67]⟩)).run Tryd.prog w2 = .ok () w3 ∧
    (Instr.mapUpdate 82 (.map (some W.heap.size)) (.int .i64 4) (.string ⟨#[80, 78, 84, 72]⟩)).run Tryd.prog w3 = .ok () w4 ∧
    (Instr.mapUpdate 82 (.map (some W.heap.size)) (.int .i64 5) (.string ⟨#[84, 72]⟩)).run Tryd.prog w4 = .ok () w5 ∧
    (Instr.mapUpdate 82 (.map (some W.heap.size)) (.int .i64 6) (.string ⟨#[80, 78, 84, 72]⟩)).run Tryd.prog w5 = .ok () w6 ∧
    (Instr.mapUpdate 82 (.map (some W.heap.size)) (.int .i64 7) (.string ⟨#[72]⟩)).run Tryd.prog w6 = .ok () w7 ∧
    (Instr.mapUpdate 82 (.map (some W.heap.size)) (.int .i64 8) (.string ⟨#[78]⟩)).run Tryd.prog w7 = .ok () w8 ∧
    w8.ownsMap Tryd.prog 3 (plainElem Tryd.prog 9) W.heap.size 8 (mapTo usesT) ∧ Below W.heap.size W w8 := by
  have h0 := World.ownsMap_made (H := Unit) W Tryd.prog 3 (plainElem Tryd.prog 9)
  obtain ⟨w1, r1, h1, g1⟩ := insertK h0 (by decide) 1 rfl ⟨#[78, 72, 67]⟩ (by decide)
  obtain ⟨w2, r2, h2, g2⟩ := insertK h1 (by decide) 2 rfl ⟨#[72, 83]⟩ (by decide)
  obtain ⟨w3, r3, h3, g3⟩ := insertK h2 (by decide) 3 rfl ⟨#[72, 67]⟩ (by decide)
  obtain ⟨w4, r4, h4, g4⟩ := insertK h3 (by decide) 4 rfl ⟨#[80, 78, 84, 72]⟩ (by decide)
  obtain ⟨w5, r5, h5, g5⟩ := insertK h4 (by decide) 5 rfl ⟨#[84, 72]⟩ (by decide)
  obtain ⟨w6, r6, h6, g6⟩ := insertK h5 (by decide) 6 rfl ⟨#[80, 78, 84, 72]⟩ (by decide)
  obtain ⟨w7, r7, h7, g7⟩ := insertK h6 (by decide) 7 rfl ⟨#[72]⟩ (by decide)
  obtain ⟨w8, r8, h8, g8⟩ := insertK h7 (by decide) 8 rfl ⟨#[78]⟩ (by decide)
  have bd : Below W.heap.size W (W.alloc (.map #[] 0)) := (Below.refl _ _).alloc (Nat.le_refl _) _
  have gr := grown_trans (grown_trans (grown_trans (grown_trans (grown_trans (grown_trans (grown_trans g1 g2) g3) g4) g5) g6) g7) g8
  refine ⟨w1, w2, w3, w4, w5, w6, w7, w8, r1, r2, r3, r4, r5, r6, r7, r8, h8, ?_⟩
  exact bd.grown gr (by simp) fun g hg => by cases hg; exact Nat.le_refl _

end Go.Proofs.YtcpnbkgkknlocaaDoor
