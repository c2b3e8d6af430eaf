import Derived.Test.YtakkajjoeimkdaaGreatDoorPart5
import Derived.Test.YtakkajjoeimkdaaGreatDoorPart4
namespace Go.Proofs.YtakkajjoeimkdaaGreatDoor
open Go.RowKit
set_option linter.unusedVariables false
set_option linter.unusedSimpArgs false

def RowsAt (w : World) (g : Nat) (R : List MRow) : Prop := Lies w (some ⟨g, 0, none⟩) (rowCells R) ∧ ∀ j, w.frozen? ⟨g, j, none⟩ = false

theorem RowsAt.cells {w : World} {g j : Nat} {R : List MRow} (h : RowsAt w g R) (hj : j < R.length) : w.cell? ⟨g, j * 2, none⟩ = some R[j].hv ∧ w.cell? ⟨g, j * 2 + 1, none⟩ = some R[j].dv := by
 have := row_at h.1 hj
 simpa using this

theorem RowsAt.of {w : World} {g : Nat} {R : List MRow} (h : ∀ j (hj : j < R.length), w.cell? ⟨g, j * 2, none⟩ = some R[j].hv ∧ w.cell? ⟨g, j * 2 + 1, none⟩ = some R[j].dv) (hf : ∀ j, w.frozen? ⟨g, j, none⟩ = false) : RowsAt w g R := by
 refine ⟨?_, hf⟩
 intro k u hu
 have hk : k < 2 * R.length := by
  have := (List.getElem?_eq_some_iff.1 hu).1
  rwa [rowCells_length] at this
 obtain ⟨c0, c1⟩ := rowCells_get (l := R) (j := k / 2) (by omega)
 obtain ⟨h0, h1⟩ := h (k / 2) (by omega)
 refine ⟨g, 0, rfl, ?_⟩
 rcases Nat.mod_two_eq_zero_or_one k with e | e
 ·rw [show 2 * (k / 2) = k by omega, hu] at c0
  rw [show 0 + k = k / 2 * 2 by omega, h0, c0]
 ·rw [show 2 * (k / 2) + 1 = k by omega, hu] at c1
  rw [show 0 + k = k / 2 * 2 + 1 by omega, h1, c1]

theorem RowsAt.set {w : World} {g i : Nat} {R : List MRow} (h : RowsAt w g R) (hi : i < R.length) (r : MRow) : RowsAt ((w.setCell ⟨g, i * 2, none⟩ r.hv).setCell ⟨g, i * 2 + 1, none⟩ r.dv) g (R.set i r) := by
 refine RowsAt.of ?_ (fun j => by simpa using h.2 j)
 intro j hj
 simp only [List.length_set] at hj
 obtain ⟨c0, c1⟩ := h.cells hj
 obtain ⟨d0, d1⟩ := h.cells hi
 by_cases e : j = i
 ·subst e
  rw [List.getElem_set_self]
  refine ⟨?_, ?_⟩
  ·rw [World.cell?_setCell_other _ _ _ _ (by intro e; injection e; omega)]
   exact World.cell?_setCell_same _ _ _ d0
  ·have d2 : (w.setCell ⟨g, j * 2, none⟩ r.hv).cell? ⟨g, j * 2 + 1, none⟩ = some R[j].dv := by
    rw [World.cell?_setCell_other _ _ _ _ (by intro e; injection e; omega)]
    exact d1
   exact World.cell?_setCell_same _ _ _ d2
 ·rw [List.getElem_set_ne (Ne.symm e)]
  refine ⟨?_, ?_⟩
  ·rw [World.cell?_setCell_other _ _ _ _ (by intro e'; injection e'; omega), World.cell?_setCell_other _ _ _ _ (by intro e'; injection e'; omega)]
   exact c0
  ·rw [World.cell?_setCell_other _ _ _ _ (by intro e'; injection e'; omega), World.cell?_setCell_other _ _ _ _ (by intro e'; injection e'; omega)]
   exact c1

theorem RowsAt.below {w w' : World} {g : Nat} {R : List MRow} (h : RowsAt w g R) (hb : Below w.heap.size w w') (hg : g < w.heap.size) : RowsAt w' g R :=
 ⟨h.1.below hb (Nat.le_refl _), fun j => by rw [hb.frozen (p := ⟨g, j, none⟩) hg]; exact h.2 j⟩

def Vof (R : List MRow) (j : Nat) : V := LRow.v ((R[j]?.map MRow.says).getD ([], []))

theorem Vof_at {R : List MRow} {j : Nat} (hj : j < R.length) : Vof R j = LRow.v R[j].says := by simp [Vof, hj]

theorem Vof_set {R : List MRow} {i j : Nat} {r : MRow} (hi : i < R.length) : Vof (R.set i r) j = if j = i then LRow.v r.says else Vof R j := by
  by_cases e : j = i
  · subst e; simp [Vof, hi]
  · rw [if_neg e]; simp [Vof, List.getElem?_set_ne (Ne.symm e)]

def Good3 (w : World) (g n k : Nat) (x : MRow) : Prop := RowIn w x ∧ Fits n k x.says ∧ (∀ b o, x.ha = some ⟨b, o, none⟩ → b ≠ g) ∧ ∀ b o, x.da = some ⟨b, o, none⟩ → b ≠ g

theorem Good3.below {w w' : World} {g n k : Nat} {x : MRow} (h : Good3 w g n k x) (hb : Below w.heap.size w w') : Good3 w' g n k x := ⟨h.1.below hb, h.2⟩

theorem Good3.set {w : World} {g n k o : Nat} {x : MRow} {v : Value} (h : Good3 w g n k x) : Good3 (w.setCell ⟨g, o, none⟩ v) g n k x :=
  ⟨⟨lies_grown (grown_setCell w g o v) h.1.1 h.2.2.1, lies_grown (grown_setCell w g o v) h.1.2.1 h.2.2.2, h.1.2.2⟩, h.2⟩

theorem xor_v {n k : Nat} {r s : LRow} (hr : Fits n k r) (hs : Fits n k s) : LRow.v (xorH r.1 s.1, xorl r.2 s.2) = (LRow.v r).add (LRow.v s) := by
  refine V.ext' (fun j => ?_) (fun j => ?_)
  · show (xorH r.1 s.1).getD j false = (r.1.getD j false != s.1.getD j false)
    unfold xorH
    simp only [List.getD_eq_getElem?_getD, List.getElem?_zipWith]
    by_cases hj : j < n
    · simp [hr.1, hs.1, hj]
    · simp [show r.1.length ≤ j by rw [hr.1]; omega, show s.1.length ≤ j by rw [hs.1]; omega]
  · show (xorl r.2 s.2).getD j 0 = r.2.getD j 0 ^^^ s.2.getD j 0
    unfold xorl
    simp only [List.getD_eq_getElem?_getD, List.getElem?_zipWith]
    by_cases hj : j < k
    · simp [hr.2, hs.2, hj]
    · simp [show r.2.length ≤ j by rw [hr.2]; omega, show s.2.length ≤ j by rw [hs.2]; omega]

def AInv (W0 wr : World) (g n k N : Nat) (S : List V) (c a : Nat) : Prop :=
  Below W0.heap.size W0 wr ∧ W0.heap.size ≤ g ∧ g < wr.heap.size ∧ ∃ (R : List MRow) (L : Nat → Nat), R.length = N ∧ RowsAt wr g R ∧ (∀ x ∈ R, Good3 wr g n k x) ∧ El (Vof R) N a c L ∧ ∀ v, Span (rowsOf (Vof R) N) v ↔ Span S v

theorem AInv.start {W0 w : World} {g n k N : Nat} {R : List MRow} (hb : Below W0.heap.size W0 w) (hW : W0.heap.size ≤ g) (hg : g < w.heap.size) (h : RowsAt w g R) (hN : R.length = N) (n1 : 1 ≤ n) (k1 : 1 ≤ k) (hR : ∀ x ∈ R, RowIn W0 x ∧ Fits n k x.says) :
    AInv W0 w g n k N (R.map fun x => LRow.v x.says) 0 0 := by
  refine ⟨hb, hW, hg, R, fun _ => 0, hN, h, ?_, El.start _ _, ?_⟩
  · intro x hx
    obtain ⟨h1, h2⟩ := hR x hx
    have hl1 : 0 < (x.h.map Value.bool).length := by have := h2.1; simp only [MRow.says] at this; simp; omega
    have hl2 : 0 < (bs x.d).length := by have := h2.2; simp only [MRow.says] at this; simp [bs]; omega
    refine ⟨h1.below hb, h2, ?_, ?_⟩
    · intro b o e
      have h3 := h1.1
      rw [e] at h3
      have := World.block_lt_of_cell? W0 _ (h3.at (k := 0) (List.getElem?_eq_getElem hl1))
      simp at this
      omega
    · intro b o e
      have h3 := h1.2.1
      rw [e] at h3
      have := World.block_lt_of_cell? W0 _ (h3.at (k := 0) (List.getElem?_eq_getElem hl2))
      simp at this
      omega
  · intro v
    have e : rowsOf (Vof R) N = R.map fun x => LRow.v x.says := by
      unfold rowsOf
      apply List.ext_getElem
      · simp [hN]
      · intro i p1 p2
        simp at p2
        simp [Vof_at p2]
    rw [e]

def CInv (W0 wr : World) (g n k N : Nat) (V0 : Nat → V) (c a i : Nat) : Prop :=
  Below W0.heap.size W0 wr ∧ W0.heap.size ≤ g ∧ g < wr.heap.size ∧ ∃ R : List MRow, R.length = N ∧ RowsAt wr g R ∧ (∀ x ∈ R, Good3 wr g n k x) ∧ ∀ j, j < N → Vof R j = if j < i then clrR V0 a c j else V0 j

theorem RowsAt.set' {W0 w : World} {g n k i N : Nat} {R : List MRow} {r : MRow} (hb : Below W0.heap.size W0 w) (hW : W0.heap.size ≤ g) (hg : g < w.heap.size) (hN : R.length = N) (h : RowsAt w g R) (hG : ∀ x ∈ R, Good3 w g n k x) (hi : i < N) (hr : Good3 w g n k r) :
    Below W0.heap.size W0 ((w.setCell ⟨g, i * 2, none⟩ r.hv).setCell ⟨g, i * 2 + 1, none⟩ r.dv) ∧ g < ((w.setCell ⟨g, i * 2, none⟩ r.hv).setCell ⟨g, i * 2 + 1, none⟩ r.dv).heap.size ∧ (R.set i r).length = N ∧
    RowsAt ((w.setCell ⟨g, i * 2, none⟩ r.hv).setCell ⟨g, i * 2 + 1, none⟩ r.dv) g (R.set i r) ∧ ∀ x ∈ R.set i r, Good3 ((w.setCell ⟨g, i * 2, none⟩ r.hv).setCell ⟨g, i * 2 + 1, none⟩ r.dv) g n k x := by
  refine ⟨(hb.setCell (p := ⟨g, i * 2, none⟩) (by simpa using hW) _).setCell (p := ⟨g, i * 2 + 1, none⟩) (by simpa using hW) _, by simpa using hg, by simpa using hN, h.set (by omega) r, ?_⟩
  intro x hx
  rcases List.mem_or_eq_of_mem_set hx with hm | rfl
  · exact ((hG x hm).set).set
  · exact (hr.set).set

theorem CInv.put {W0 w : World} {g n k N a c i : Nat} {V0 : Nat → V} {R : List MRow} {r : MRow} (hb : Below W0.heap.size W0 w) (hW : W0.heap.size ≤ g) (hg : g < w.heap.size) (hN : R.length = N) (h : RowsAt w g R) (hG : ∀ x ∈ R, Good3 w g n k x) (hi : i < N) (hr : Good3 w g n k r)
    (hv : ∀ j, j < N → Vof R j = if j < i then clrR V0 a c j else V0 j) (hrv : LRow.v r.says = clrR V0 a c i) : CInv W0 ((w.setCell ⟨g, i * 2, none⟩ r.hv).setCell ⟨g, i * 2 + 1, none⟩ r.dv) g n k N V0 c a (i + 1) := by
  obtain ⟨b1, b2, b3, b4, b5⟩ := RowsAt.set' hb hW hg hN h hG hi hr
  refine ⟨b1, hW, b2, _, b3, b4, b5, ?_⟩
  intro j hj
  rw [Vof_set (by omega)]
  by_cases e : j = i
  · subst e; rw [if_pos rfl, if_pos (by omega)]; exact hrv
  · rw [if_neg e, hv j hj]
    by_cases h2 : j < i
    · rw [if_pos h2, if_pos (by omega)]
    · rw [if_neg h2, if_neg (by omega)]

theorem CInv.stay {W0 w : World} {g n k N a c i : Nat} {V0 : Nat → V} (h : CInv W0 w g n k N V0 c a i) (hi : i < N) (hc : clrR V0 a c i = V0 i) : CInv W0 w g n k N V0 c a (i + 1) := by
  obtain ⟨b1, b2, b3, R, b4, b5, b6, b7⟩ := h
  refine ⟨b1, b2, b3, R, b4, b5, b6, ?_⟩
  intro j hj
  rw [b7 j hj]
  by_cases e : j = i
  · subst e; rw [if_neg (by omega), if_pos (by omega), hc]
  · by_cases h2 : j < i
    · rw [if_pos h2, if_pos (by omega)]
    · rw [if_neg h2, if_neg (by omega)]

theorem rowsOf_congr {R R' : Nat → V} {n : Nat} (h : ∀ j, j < n → R j = R' j) : rowsOf R n = rowsOf R' n := by
  unfold rowsOf
  exact List.map_congr_left fun j hj => h j (List.mem_range.1 hj)

theorem El.congr {R R' : Nat → V} {N a c : Nat} {L : Nat → Nat} (h : El R N a c L) (e : ∀ j, j < N → R j = R' j) : El R' N a c L := by
  have hle := h.le
  refine ⟨h.le, fun i hi => by rw [← e i (by omega)]; exact h.lead i hi, h.mono, fun i hi j hj hne => by rw [← e j hj]; exact h.apart i hi j hj hne, fun j h1 h2 m hm => by rw [← e j h2]; exact h.rest j h1 h2 m hm⟩

theorem AInv.below {W0 wr w' : World} {g n k N c a : Nat} {S : List V} (h : AInv W0 wr g n k N S c a) (hb : Below wr.heap.size wr w') : AInv W0 w' g n k N S c a := by
  obtain ⟨i1, i2, i3, R, L, i4, i5, i6, i7, i8⟩ := h
  exact ⟨i1.trans (hb.mono i1.size), i2, by have := hb.size; omega, R, L, i4, i5.below hb i3, fun x hx => (i6 x hx).below hb, i7, i8⟩

theorem RowsAt.drop {w : World} {g a : Nat} {R : List MRow} (h : RowsAt w g R) : Lies w (some ⟨g, a * 2, none⟩) (rowCells (R.drop a)) := by
  intro j u hu
  have e : (rowCells (R.drop a))[j]? = (rowCells R)[a * 2 + j]? := by
    have h1 : rowCells R = rowCells (R.take a) ++ rowCells (R.drop a) := by rw [← rowCells_append, List.take_append_drop]
    by_cases hl : a ≤ R.length
    · rw [h1, List.getElem?_append_right (by rw [rowCells_length, List.length_take]; omega)]
      congr 1
      rw [rowCells_length, List.length_take]
      omega
    · rw [List.drop_eq_nil_of_le (by omega)]
      have : (rowCells R).length ≤ a * 2 + j := by rw [rowCells_length]; omega
      rw [List.getElem?_eq_none this]
      simp [rowCells]
  rw [e] at hu
  obtain ⟨b, o, e', hc⟩ := h.1 _ _ hu
  cases e'
  exact ⟨g, a * 2, rfl, by simpa using hc⟩

theorem AInv.pass {W0 w : World} {g n k N c a : Nat} {S : List V} {R : List MRow} {L : Nat → Nat} (i1 : Below W0.heap.size W0 w) (i2 : W0.heap.size ≤ g) (i3 : g < w.heap.size) (i4 : R.length = N) (i5 : RowsAt w g R) (i6 : ∀ x ∈ R, Good3 w g n k x) (i7 : El (Vof R) N a c L) (i8 : ∀ v, Span (rowsOf (Vof R) N) v ↔ Span S v)
    (hn : ∀ j (hj : j < (R.drop a).length), (LRow.v (R.drop a)[j].says).has c = false) : AInv W0 w g n k N S (c + 1) a := by
  refine ⟨i1, i2, i3, R, L, i4, i5, i6, i7.pass ?_, i8⟩
  intro j h1 h2
  have := hn (j - a) (by simp; omega)
  rw [List.getElem_drop] at this
  rw [Vof_at (by omega)]
  simpa [show a + (j - a) = j by omega] using this

theorem CInv.below {W0 w w' : World} {g n k N a c i : Nat} {V0 : Nat → V} (h : CInv W0 w g n k N V0 c a i) (hb : Below w.heap.size w w') : CInv W0 w' g n k N V0 c a i := by
  obtain ⟨b1, b2, b3, R, b4, b5, b6, b7⟩ := h
  exact ⟨b1.trans (hb.mono b1.size), b2, by have := hb.size; omega, R, b4, b5.below hb b3, fun x hx => (b6 x hx).below hb, b7⟩

theorem CInv.start {W0 w : World} {g n k N a c t : Nat} {R : List MRow} {Ra Rt : MRow} (hb : Below W0.heap.size W0 w) (hW : W0.heap.size ≤ g) (hg : g < w.heap.size) (hN : R.length = N) (h : RowsAt w g R) (hG : ∀ x ∈ R, Good3 w g n k x) (ha : a < R.length) (ht : a + t < R.length) (ea : R[a] = Ra) (et : R[a + t] = Rt) :
    CInv W0 ((((w.setCell ⟨g, a * 2, none⟩ Rt.hv).setCell ⟨g, a * 2 + 1, none⟩ Rt.dv).setCell ⟨g, (a + t) * 2, none⟩ Ra.hv).setCell ⟨g, (a + t) * 2 + 1, none⟩ Ra.dv) g n k N (swapR (Vof R) a (a + t)) c a 0 := by
  have hGt : Good3 w g n k Rt := hG _ (by rw [← et]; exact List.getElem_mem ht)
  have hGa : Good3 w g n k Ra := hG _ (by rw [← ea]; exact List.getElem_mem ha)
  obtain ⟨b1, b2, b3, b4, b5⟩ := RowsAt.set' hb hW hg hN h hG (by omega) hGt (i := a)
  obtain ⟨d1, d2, d3, d4, d5⟩ := RowsAt.set' b1 hW b2 b3 b4 b5 (by omega) (hGa.set.set) (i := a + t)
  refine ⟨d1, hW, d2, _, d3, d4, d5, ?_⟩
  intro j hj
  rw [if_neg (by omega), Vof_set (by rw [b3]; omega), Vof_set (by omega)]
  have ea' : Vof R a = LRow.v Ra.says := by rw [Vof_at ha, ea]
  have et' : Vof R (a + t) = LRow.v Rt.says := by rw [Vof_at ht, et]
  unfold swapR
  by_cases e1 : j = a + t
  · rw [if_pos e1, e1]
    by_cases e2 : a + t = a
    · rw [if_pos e2, e2, ea']
    · rw [if_neg e2, if_pos rfl, ea']
  · rw [if_neg e1]
    by_cases e2 : j = a
    · rw [if_pos e2, if_pos e2, et']
    · rw [if_neg e2, if_neg e2, if_neg e1]

theorem CInv.done {W0 w : World} {g n k N a c t : Nat} {S : List V} {V1 : Nat → V} {L : Nat → Nat} (h : CInv W0 w g n k N (swapR V1 a (a + t)) c a N) (h7 : El V1 N a c L) (h8 : ∀ v, Span (rowsOf V1 N) v ↔ Span S v) (ht : a + t < N) (hy : (V1 (a + t)).has c = true) : AInv W0 w g n k N S (c + 1) (a + 1) := by
  obtain ⟨b1, b2, b3, R, b4, b5, b6, b7⟩ := h
  have e : ∀ j, j < N → clrR (swapR V1 a (a + t)) a c j = Vof R j := fun j hj => by rw [b7 j hj, if_pos hj]
  refine ⟨b1, b2, b3, R, _, b4, b5, b6, (h7.take (by omega) ht hy).congr e, ?_⟩
  intro v
  rw [← rowsOf_congr e, take_span (by omega) ht]
  exact h8 v

theorem cell_far2 {w : World} {g b o o1 o2 : Nat} {v u1 u2 : Value} (h : w.cell? ⟨b, o, none⟩ = some v) (hne : b ≠ g) : ((w.setCell ⟨g, o1, none⟩ u1).setCell ⟨g, o2, none⟩ u2).cell? ⟨b, o, none⟩ = some v := by
  rw [World.cell?_setCell_other _ _ _ _ (by intro e; injection e; omega), World.cell?_setCell_other _ _ _ _ (by intro e; injection e; omega)]
  exact h

theorem CInv.both {W0 w w5 : World} {g n k N a c i : Nat} {V0 : Nat → V} {R : List MRow} {t : MRow} (b1 : Below W0.heap.size W0 w) (b2 : W0.heap.size ≤ g) (b3 : g < w.heap.size) (b4 : R.length = N) (b5 : RowsAt w g R) (b6 : ∀ x ∈ R, Good3 w g n k x) (b7 : ∀ j, j < N → Vof R j = if j < i then clrR V0 a c j else V0 j)
    (hi : i < R.length) (ha : a < R.length) (hia : i ≠ a) (hx : (LRow.v R[i].says).has c = true) (hb : Below w.heap.size w w5) (ht : RowIn w5 t) (h1 : t.h = xorH R[i].h R[a].h) (h2 : t.d = xorl R[i].d R[a].d) (f1 : ∀ b o, t.ha = some ⟨b, o, none⟩ → w.heap.size ≤ b) (f2 : ∀ b o, t.da = some ⟨b, o, none⟩ → w.heap.size ≤ b) :
    CInv W0 ((w5.setCell ⟨g, i * 2, none⟩ t.hv).setCell ⟨g, i * 2 + 1, none⟩ t.dv) g n k N V0 c a (i + 1) := by
  have hGi := b6 _ (List.getElem_mem hi)
  have hGa := b6 _ (List.getElem_mem ha)
  have fi := hGi.2.1
  have fa := hGa.2.1
  have hfit : Fits n k t.says := by
    refine ⟨?_, ?_⟩
    · show t.h.length = n
      rw [h1, xorH_length (by have := fi.1; have := fa.1; simp only [MRow.says] at *; omega)]
      exact fi.1
    · show t.d.length = k
      rw [h2, xorl_length _ _ (by have := fi.2; have := fa.2; simp only [MRow.says] at *; omega)]
      exact fi.2
  refine CInv.put (b1.trans (hb.mono b1.size)) b2 (by have := hb.size; omega) b4 (b5.below hb b3) (fun x hx => (b6 x hx).below hb) (by omega) ⟨ht, hfit, fun b o e => by have := f1 b o e; omega, fun b o e => by have := f2 b o e; omega⟩ b7 ?_
  have e0 : LRow.v t.says = (LRow.v R[i].says).add (LRow.v R[a].says) := by
    have := xor_v fi fa
    rw [← this]
    show LRow.v (t.h, t.d) = _
    rw [h1, h2]
    rfl
  have ei : V0 i = LRow.v R[i].says := by have := b7 i (by omega); rw [if_neg (by omega), Vof_at hi] at this; exact this.symm
  have ea : V0 a = LRow.v R[a].says := by
    have := b7 a (by omega)
    rw [Vof_at ha] at this
    rw [this]
    by_cases h : a < i
    · rw [if_pos h]; simp [clrR]
    · rw [if_neg h]
  rw [e0, clrR, if_neg hia, clr, ei, if_pos hx, ea]

theorem Good3.off {w : World} {g g2 n k : Nat} {x : MRow} (h : Good3 w g n k x) (n1 : 1 ≤ n) (k1 : 1 ≤ k) (hz : ∀ j v, w.cell? ⟨g2, j, none⟩ = some v → v = .int .i64 0 ∨ v = .slice none 0 0) : (∀ b o, x.ha = some ⟨b, o, none⟩ → b ≠ g2) ∧ ∀ b o, x.da = some ⟨b, o, none⟩ → b ≠ g2 := by
  obtain ⟨⟨h1, h2, _⟩, ⟨l1, l2⟩, _⟩ := h
  have e1 : 0 < x.h.length := by simp only [MRow.says] at l1; omega
  have e2 : 0 < x.d.length := by simp only [MRow.says] at l2; omega
  refine ⟨?_, ?_⟩
  · rintro b o e rfl
    rw [e] at h1
    have := hz _ _ (h1.at (k := 0) (u := .bool x.h[0]) (by simp [e1]))
    simp at this
  · rintro b o e rfl
    rw [e] at h2
    have := hz _ _ (h2.at (k := 0) (u := .int .u8 x.d[0].toNat) (by simp [bs, e2]))
    simp at this

theorem RowIn.grown {w w' : World} {g2 : Nat} {x : MRow} (hg : w.grownBy w' (some g2)) (h : RowIn w x) (ho : (∀ b o, x.ha = some ⟨b, o, none⟩ → b ≠ g2) ∧ ∀ b o, x.da = some ⟨b, o, none⟩ → b ≠ g2) : RowIn w' x :=
  ⟨lies_grown hg h.1 ho.1, lies_grown hg h.2.1 ho.2, h.2.2⟩

theorem set3 {w : World} {g : Nat} {a b c : Value} (h0 : w.cell? ⟨g, 0, none⟩ = some a) (h1 : w.cell? ⟨g, 1, none⟩ = some b) (h2 : w.cell? ⟨g, 2, none⟩ = some c) (u0 u1 u2 : Value) :
    Box3 (((w.setCell ⟨g, 0, none⟩ u0).setCell ⟨g, 1, none⟩ u1).setCell ⟨g, 2, none⟩ u2) g u0 u1 u2 := by
  have e0 : (w.setCell ⟨g, 0, none⟩ u0).cell? ⟨g, 0, none⟩ = some u0 := World.cell?_setCell_same _ _ _ h0
  have e1 : (w.setCell ⟨g, 0, none⟩ u0).cell? ⟨g, 1, none⟩ = some b := by rw [World.cell?_setCell_other _ _ _ _ (by intro e; cases e)]; exact h1
  have e2 : (w.setCell ⟨g, 0, none⟩ u0).cell? ⟨g, 2, none⟩ = some c := by rw [World.cell?_setCell_other _ _ _ _ (by intro e; cases e)]; exact h2
  have f0 : ((w.setCell ⟨g, 0, none⟩ u0).setCell ⟨g, 1, none⟩ u1).cell? ⟨g, 0, none⟩ = some u0 := by rw [World.cell?_setCell_other _ _ _ _ (by intro e; cases e)]; exact e0
  have f1 : ((w.setCell ⟨g, 0, none⟩ u0).setCell ⟨g, 1, none⟩ u1).cell? ⟨g, 1, none⟩ = some u1 := World.cell?_setCell_same _ _ _ e1
  have f2 : ((w.setCell ⟨g, 0, none⟩ u0).setCell ⟨g, 1, none⟩ u1).cell? ⟨g, 2, none⟩ = some c := by rw [World.cell?_setCell_other _ _ _ _ (by intro e; cases e)]; exact e2
  refine ⟨?_, ?_, World.cell?_setCell_same _ _ _ f2⟩
  · rw [World.cell?_setCell_other _ _ _ _ (by intro e; cases e)]; exact f0
  · rw [World.cell?_setCell_other _ _ _ _ (by intro e; cases e)]; exact f1

def AddPost (w w' : World) (n k N : Nat) (S : List V) (e : Ending) : Prop :=
  Below w.heap.size w w' ∧ ∃ (R : List MRow) (a : Nat) (L : Nat → Nat), R.length = N ∧ (∀ x ∈ R, RowIn w' x ∧ Fits n k x.says) ∧ El (Vof R) N a n L ∧ (∀ v, Span (rowsOf (Vof R) N) v ↔ Span S v) ∧
    ((a = N ∧ ∃ g cap, e = .returned (.tuple #[.agg #[.int .i64 n, .int .i64 k, .slice (some ⟨g, 0, none⟩) N cap], .bool true, .int .i64 0]) ∧ Lies w' (some ⟨g, 0, none⟩) (rowCells R)) ∨
     (a < N ∧ (∃ j, (Vof R a).dat j ≠ 0) ∧ e = .returned (.tuple #[.agg #[.int .i64 0, .int .i64 0, .slice none 0 0], .bool false, .int .i64 9])) ∨
     (a < N ∧ (∀ j, (Vof R a).dat j = 0) ∧ ∃ g cap, e = .returned (.tuple #[.agg #[.int .i64 n, .int .i64 k, .slice (some ⟨g, 0, none⟩) a cap], .bool false, .int .i64 0]) ∧ Lies w' (some ⟨g, 0, none⟩) (rowCells (R.take a))))

theorem AInv.box {W0 wr w' w : World} {g g2 n k N a : Nat} {S : List V} {R : List MRow} (i2 : W0.heap.size ≤ g) (o3 : g2 < W0.heap.size) (i5 : RowsAt wr g R) (i6 : ∀ x ∈ R, Good3 wr g n k x) (n1 : 1 ≤ n) (k1 : 1 ≤ k) (hz : ∀ j v, wr.cell? ⟨g2, j, none⟩ = some v → v = .int .i64 0 ∨ v = .slice none 0 0) (hg : wr.grownBy w' (some g2)) :
    Lies w' (some ⟨g, 0, none⟩) (rowCells R) ∧ ∀ x ∈ R, RowIn w' x ∧ Fits n k x.says :=
  ⟨lies_grown hg i5.1 (fun b o e => by cases e; omega), fun x hx => ⟨(i6 x hx).1.grown hg ((i6 x hx).off n1 k1 hz), (i6 x hx).2.1⟩⟩

def LRow.add (a b : LRow) : LRow := (xorH a.1 b.1, xorl a.2 b.2)

theorem LRow.v_add {n k : Nat} {a b : LRow} (ha : Fits n k a) (hb : Fits n k b) : LRow.v (LRow.add a b) = (LRow.v a).add (LRow.v b) := xor_v ha hb

theorem LRow.fits_add {n k : Nat} {a b : LRow} (ha : Fits n k a) (hb : Fits n k b) : Fits n k (LRow.add a b) := by
 refine ⟨?_, ?_⟩
 ·show (xorH a.1 b.1).length = n
  rw [xorH_length (by rw [ha.1, hb.1]), ha.1]
 ·show (xorl a.2 b.2).length = k
  rw [xorl_length _ _ (by rw [ha.2, hb.2]), ha.2]

def redStep (r s : LRow) : LRow := if r.1.getD (firstI s.1).toNat false = true then LRow.add r s else r

def redL (A : List LRow) (r : LRow) : LRow := A.foldl redStep r

theorem redL_snoc (A : List LRow) (s r : LRow) : redL (A ++ [s]) r = redStep (redL A r) s := by simp [redL, List.foldl_append]

theorem fst_firstI {n k : Nat} {s : LRow} (hs : Fits n k s) (hl : ∃ m, Lead (LRow.v s) m) : fst n (LRow.v s) = (firstI s.1).toNat := by
 obtain ⟨m, hm⟩ := hl
 rw [fst_lead hm ((LRow.v_of hs).lead hm), firstI_lead.2 hm]
 simp

theorem redL_fits {n k : Nat} {A : List LRow} (hA : ∀ s ∈ A, Fits n k s) : ∀ {r : LRow}, Fits n k r → Fits n k (redL A r) := by
 induction A with
 | nil => intro r hr; exact hr
 | cons s A ih =>
  intro r hr
  show Fits n k (redL A (redStep r s))
  refine ih (fun x hx => hA x (List.mem_cons_of_mem _ hx)) ?_
  unfold redStep
  split
  ·exact LRow.fits_add hr (hA s List.mem_cons_self)
  ·exact hr

theorem redL_v {n k : Nat} {A : List LRow} (hA : ∀ s ∈ A, Fits n k s) (hl : ∀ s ∈ A, ∃ m, Lead (LRow.v s) m) : ∀ {r : LRow}, Fits n k r → LRow.v (redL A r) = red n (A.map LRow.v) (LRow.v r) := by
 induction A with
 | nil => intro r _; rfl
 | cons s A ih =>
  intro r hr
  have hs := hA s List.mem_cons_self
  rw [List.map_cons, red_cons, fst_firstI hs (hl s List.mem_cons_self)]
  show LRow.v (redL A (redStep r s)) = _
  have e : LRow.v (redStep r s) = if (LRow.v r).has (firstI s.1).toNat = true then (LRow.v r).add (LRow.v s) else LRow.v r := by
   unfold redStep
   show LRow.v (if r.1.getD (firstI s.1).toNat false = true then _ else _) = if r.1.getD (firstI s.1).toNat false = true then _ else _
   split
   ·exact LRow.v_add hr hs
   ·rfl
  rw [← e]
  refine ih (fun x hx => hA x (List.mem_cons_of_mem _ hx)) (fun x hx => hl x (List.mem_cons_of_mem _ hx)) ?_
  unfold redStep
  split
  ·exact LRow.fits_add hr hs
  ·exact hr

theorem Right.redL {n k : Nat} {A : List LRow} (h : Right n k A) {r : LRow} (hr : Fits n k r) : LRow.v (redL A r) = red n (A.map LRow.v) (LRow.v r) :=
 redL_v h.fits (fun s hs => h.sys.lead _ (List.mem_map_of_mem hs)) hr

def clrL (p : LRow) (s : LRow) : LRow := if s.1.getD (firstI p.1).toNat false = true then LRow.add s p else s

theorem clrL_fits {n k : Nat} {p s : LRow} (hp : Fits n k p) (hs : Fits n k s) : Fits n k (clrL p s) := by
 unfold clrL
 split
 ·exact LRow.fits_add hs hp
 ·exact hs

theorem clrL_v {n k f : Nat} {p s : LRow} (hp : Fits n k p) (hs : Fits n k s) (hf : firstI p.1 = f) : LRow.v (clrL p s) = clr (LRow.v p) f (LRow.v s) := by
 unfold clrL clr
 rw [hf]
 simp only [Int.toNat_natCast]
 show LRow.v (if s.1.getD f false = true then _ else _) = if s.1.getD f false = true then _ else _
 split
 ·exact LRow.v_add hs hp
 ·rfl

def insL (X Y : List LRow) (p : LRow) : List LRow := X.map (clrL p) ++ p :: Y.map (clrL p)

theorem insL_v {n k f : Nat} {X Y : List LRow} {p : LRow} (hX : ∀ s ∈ X ++ Y, Fits n k s) (hp : Fits n k p) (hf : firstI p.1 = f) : (insL X Y p).map LRow.v = (X.map LRow.v).map (clr (LRow.v p) f) ++ LRow.v p :: (Y.map LRow.v).map (clr (LRow.v p) f) := by
 have h : ∀ (Z : List LRow), (∀ s ∈ Z, Fits n k s) → (Z.map (clrL p)).map LRow.v = (Z.map LRow.v).map (clr (LRow.v p) f) := by
  intro Z hZ
  rw [List.map_map, List.map_map]
  exact List.map_congr_left fun s hs => clrL_v hp (hZ s hs) hf
 unfold insL
 rw [List.map_append, List.map_cons, h X (fun s hs => hX s (List.mem_append_left _ hs)), h Y (fun s hs => hX s (List.mem_append_right _ hs))]

theorem Right.insL {n k f : Nat} {X Y : List LRow} {p r : LRow} (h : Right n k (X ++ Y)) (hr : Fits n k r) (hp : Go.Proofs.YtakkajjoeimkdaaGreatDoor.redL (X ++ Y) r = p) (hf : firstI p.1 = f) (hX : ∀ s ∈ X, firstI s.1 < f) (hY : ∀ s ∈ Y, (f : Int) < firstI s.1) :
  Right n k (Go.Proofs.YtakkajjoeimkdaaGreatDoor.insL X Y p) ∧ ∀ v, Span ((Go.Proofs.YtakkajjoeimkdaaGreatDoor.insL X Y p).map LRow.v) v ↔ Span (((X ++ Y) ++ [r]).map LRow.v) v := by
 have hpf : Fits n k p := by rw [← hp]; exact redL_fits h.fits hr
 have hv : LRow.v p = red n ((X ++ Y).map LRow.v) (LRow.v r) := by rw [← hp]; exact h.redL hr
 have hl : Lead (LRow.v p) f := firstI_lead.1 hf
 have hlead : ∀ s ∈ X ++ Y, ∃ j : Nat, Lead (LRow.v s) j ∧ firstI s.1 = j := fun s hs => by
  obtain ⟨j, hj⟩ := h.sys.lead _ (List.mem_map_of_mem hs)
  exact ⟨j, hj, firstI_lead.2 hj⟩
 have hsys := h.sys
 rw [List.map_append] at hsys
 have hS : Sys ((X.map LRow.v).map (clr (LRow.v p) f) ++ LRow.v p :: (Y.map LRow.v).map (clr (LRow.v p) f)) := by
  refine hsys.insert hl ?_ ?_ ?_
  ·intro s hs j hj
   rw [hv]
   exact red_clear h.sys h.of _ s (by rw [List.map_append]; exact hs) j hj
  ·intro s hs
   obtain ⟨t, ht, rfl⟩ := List.mem_map.1 hs
   obtain ⟨j, hj, e⟩ := hlead t (List.mem_append_left _ ht)
   have := hX t ht
   exact ⟨j, by omega, hj⟩
  ·intro s hs
   obtain ⟨t, ht, rfl⟩ := List.mem_map.1 hs
   obtain ⟨j, hj, e⟩ := hlead t (List.mem_append_right _ ht)
   have := hY t ht
   exact ⟨j, by omega, hj⟩
 refine ⟨⟨h.n1, h.n2, h.k1, h.k2, ?_, ?_⟩, ?_⟩
 ·intro s hs
  rcases List.mem_append.1 hs with hs | hs
  ·obtain ⟨t, ht, rfl⟩ := List.mem_map.1 hs
   exact clrL_fits hpf (h.fits t (List.mem_append_left _ ht))
  ·rcases List.mem_cons.1 hs with rfl | hs
   ·exact hpf
   ·obtain ⟨t, ht, rfl⟩ := List.mem_map.1 hs
    exact clrL_fits hpf (h.fits t (List.mem_append_right _ ht))
 ·rw [insL_v h.fits hpf hf]
  exact hS
 ·intro v
  rw [insL_v h.fits hpf hf, insert_span, List.map_append (l₁ := X ++ Y), List.map_append, List.map_cons, List.map_nil]
  rw [red_same n (X.map LRow.v ++ Y.map LRow.v) (LRow.v r) v]
  rw [hv, List.map_append]

theorem unit_has {r : LRow} {j : Nat} (hc : r.1.count true = 1) (hj : firstI r.1 = j) : ∀ i, (LRow.v r).has i = decide (i = j) := by
 obtain ⟨h, d⟩ := r
 simp only at hc hj
 have hl : Lead (LRow.v (h, d)) j := firstI_lead.1 hj
 intro i
 by_cases e : i = j
 ·subst e; simpa using hl.1
 ·rw [decide_eq_false e]
  rcases Bool.eq_false_or_eq_true ((LRow.v (h, d)).has i) with hi | hi
  ·exfalso
   have hij : j < i := by
    rcases Nat.lt_or_ge i j with h1 | h1
    ·have := hl.2 i h1
     rw [hi] at this
     cases this
    ·omega
   have lt : ∀ m, (LRow.v (h, d)).has m = true → ∃ hm : m < h.length, h[m] = true := by
    intro m hm
    have hm' : h.getD m false = true := hm
    by_cases hlt : m < h.length
    ·refine ⟨hlt, ?_⟩
     rw [List.getD_eq_getElem?_getD, List.getElem?_eq_getElem hlt] at hm'
     exact hm'
    ·rw [List.getD_eq_getElem?_getD, List.getElem?_eq_none (by omega)] at hm'
     cases hm'
   obtain ⟨l1, e1⟩ := lt j hl.1
   obtain ⟨l2, e2⟩ := lt i hi
   have hs : h = h.take i ++ h[i] :: h.drop (i + 1) := by rw [List.getElem_cons_drop, List.take_append_drop]
   have m1 : true ∈ h.take i := by
    have : (h.take i)[j]'(by simp; omega) = true := by rw [List.getElem_take]; exact e1
    rw [← this]
    exact List.getElem_mem _
   have c1 : 1 ≤ (h.take i).count true := List.one_le_count_iff.2 m1
   rw [hs, List.count_append, e2, List.count_cons_self] at hc
   omega
  ·exact hi

theorem red_true {n k : Nat} {A : List LRow} {B : Nat → Nat → UInt8} {r : LRow} (hA : Right n k A) (hT : ∀ r ∈ A, Tr n B (LRow.v r)) (hr : Fits n k r) (ht : Tr n B (LRow.v r)) : Tr n B (LRow.v (redL A r)) := by
 rw [hA.redL hr]
 have h := red_span n (A.map LRow.v) (LRow.v r)
 have h2 : Tr n B ((red n (A.map LRow.v) (LRow.v r)).add (LRow.v r)) := h.tr fun s hs => by
  obtain ⟨t, ht', rfl⟩ := List.mem_map.1 hs
  exact hT t ht'
 have := h2.add ht
 rwa [V.add_add] at this

def lowL (A : List LRow) (f : Int) : List LRow := A.takeWhile fun s => decide (firstI s.1 < f)
def highL (A : List LRow) (f : Int) : List LRow := A.dropWhile fun s => decide (firstI s.1 < f)

theorem low_high (A : List LRow) (f : Int) : lowL A f ++ highL A f = A := List.takeWhile_append_dropWhile

def addL (A : List LRow) (r : LRow) : Option (List LRow) :=
 if firstI (redL A r).1 = -1 then (if (redL A r).2.all (· == 0) = true then some A else none) else some (insL (lowL A (firstI (redL A r).1)) (highL A (firstI (redL A r).1)) (redL A r))

theorem nought_of {n k : Nat} {p : LRow} (hp : Fits n k p) (h : firstI p.1 = -1) (hz : p.2.all (· == 0) = true) : LRow.v p = V.o := by
 refine V.ext' (fun j => firstI_no.1 h j) (fun j => ?_)
 show p.2.getD j 0 = 0
 by_cases hj : j < p.2.length
 ·have := List.all_eq_true.1 hz _ (List.getElem_mem hj)
  rw [List.getD_eq_getElem?_getD, List.getElem?_eq_getElem hj]
  simpa using this
 ·rw [List.getD_eq_getElem?_getD, List.getElem?_eq_none (by omega)]
  rfl

theorem not_nought {p : LRow} (h : LRow.v p = V.o) : firstI p.1 = -1 ∧ p.2.all (· == 0) = true := by
 refine ⟨firstI_no.2 fun j => by rw [h]; rfl, List.all_eq_true.2 fun x hx => ?_⟩
 obtain ⟨i, hi, rfl⟩ := List.getElem_of_mem hx
 have : (LRow.v p).dat i = 0 := by rw [h]; rfl
 have e : (LRow.v p).dat i = p.2[i] := by
  show p.2.getD i 0 = _
  rw [List.getD_eq_getElem?_getD, List.getElem?_eq_getElem hi]
  rfl
 rw [e] at this
 simpa using this

theorem Right.split {n k f : Nat} {A : List LRow} (h : Right n k A) (hf : ∀ s ∈ A, firstI s.1 ≠ f) : (∀ s ∈ lowL A f, firstI s.1 < f) ∧ ∀ s ∈ highL A f, (f : Int) < firstI s.1 := by
 refine ⟨fun s hs => by simpa using List.all_eq_true.1 (List.all_takeWhile (p := fun s : LRow => decide (firstI s.1 < f)) (l := A)) s hs, ?_⟩
 intro s hs
 have hmem : ∀ x ∈ highL A f, x ∈ A := fun x hx => by rw [← low_high A f]; exact List.mem_append_right _ hx
 cases hY : highL A f with
 | nil => rw [hY] at hs; cases hs
 | cons y Y =>
  have hy : ¬ firstI y.1 < f := by
   have := List.head_dropWhile_not (fun s : LRow => decide (firstI s.1 < f)) (l := A) (by show highL A f ≠ []; rw [hY]; simp)
   have e : (List.dropWhile (fun s : LRow => decide (firstI s.1 < f)) A).head (by show highL A f ≠ []; rw [hY]; simp) = y := by
    have h2 : List.dropWhile (fun s : LRow => decide (firstI s.1 < f)) A = y :: Y := hY
    simp [h2]
   rw [e] at this
   simpa using this
  have hyA : y ∈ A := hmem y (by rw [hY]; exact List.mem_cons_self)
  have hy2 : (f : Int) < firstI y.1 := by have := hf y hyA; omega
  rw [hY] at hs
  rcases List.mem_cons.1 hs with rfl | hs
  ·exact hy2
  ·have hp := h.sys.pair
   rw [← low_high A f, hY, List.map_append] at hp
   have hp2 := (List.pairwise_append.1 hp).2.1
   rw [List.map_cons] at hp2
   obtain ⟨a, b, ha, hb, hab, _⟩ := (List.pairwise_cons.1 hp2).1 _ (List.mem_map_of_mem hs)
   have e1 := firstI_lead.2 ha
   have e2 := firstI_lead.2 hb
   omega

theorem Right.left {n k f : Nat} {A : List LRow} (h : Right n k A) {r : LRow} (hr : Fits n k r) (hf : firstI (Go.Proofs.YtakkajjoeimkdaaGreatDoor.redL A r).1 = f) : ∀ s ∈ A, firstI s.1 ≠ f := by
 intro s hs e
 have h1 : Lead (LRow.v s) f := firstI_lead.1 e
 have h2 : Lead (LRow.v (Go.Proofs.YtakkajjoeimkdaaGreatDoor.redL A r)) f := firstI_lead.1 hf
 have h3 := red_clear h.sys h.of (LRow.v r) _ (List.mem_map_of_mem hs) f h1
 rw [← h.redL hr, h2.1] at h3
 cases h3

theorem addL_right {n k : Nat} {A P : List LRow} {r : LRow} (h : Right n k A) (hr : Fits n k r) (ha : addL A r = some P) : Right n k P ∧ ∀ v, Span (P.map LRow.v) v ↔ Span ((A ++ [r]).map LRow.v) v := by
 unfold addL at ha
 by_cases h1 : firstI (redL A r).1 = -1
 ·rw [if_pos h1] at ha
  by_cases h2 : (redL A r).2.all (· == 0) = true
  ·rw [if_pos h2] at ha
   cases ha
   refine ⟨h, fun v => ?_⟩
   have h0 := nought_of (redL_fits h.fits hr) h1 h2
   rw [h.redL hr] at h0
   have hs := red_span n (A.map LRow.v) (LRow.v r)
   rw [h0, V.o_add] at hs
   rw [List.map_append]
   constructor
   ·intro hv; exact hv.mono fun x hx => List.mem_append_left _ hx
   ·intro hv
    refine hv.sub fun x hx => ?_
    rcases List.mem_append.1 hx with hx | hx
    ·exact .mem hx
    ·simp at hx
     rw [hx]
     exact hs
  ·rw [if_neg h2] at ha
   cases ha
 ·rw [if_neg h1] at ha
  cases ha
  obtain ⟨f, hf⟩ : ∃ f : Nat, firstI (redL A r).1 = f := by
   rcases firstI_range (redL A r).1 with e | ⟨f, e, _⟩
   ·exact absurd e h1
   ·exact ⟨f, e⟩
  obtain ⟨hX, hY⟩ := h.split (h.left hr hf)
  have hA : Right n k (lowL A f ++ highL A f) := by rw [low_high]; exact h
  have := hA.insL hr (p := redL A r) (by rw [low_high]) hf hX hY
  rw [low_high] at this
  rw [hf]
  exact this

theorem addL_true {n k : Nat} {A : List LRow} {B : Nat → Nat → UInt8} {r : LRow} (h : Right n k A) (hT : ∀ s ∈ A, Tr n B (LRow.v s)) (hr : Fits n k r) (ht : Tr n B (LRow.v r)) : ∃ P, addL A r = some P ∧ ∀ s ∈ P, Tr n B (LRow.v s) := by
 have hsome : ∃ P, addL A r = some P := by
  unfold addL
  by_cases h1 : firstI (redL A r).1 = -1
  ·have h2 := (red_true h hT hr ht).none (firstI_no.1 h1)
   rw [if_pos h1, if_pos (not_nought h2).2]
   exact ⟨_, rfl⟩
  ·rw [if_neg h1]
   exact ⟨_, rfl⟩
 obtain ⟨P, hP⟩ := hsome
 refine ⟨P, hP, fun s hs => ?_⟩
 have hsp := (addL_right h hr hP).2 (LRow.v s)
 have := hsp.1 (.mem (List.mem_map_of_mem hs))
 refine this.tr fun x hx => ?_
 rw [List.map_append] at hx
 rcases List.mem_append.1 hx with hx | hx
 ·obtain ⟨t, ht', rfl⟩ := List.mem_map.1 hx
  exact hT t ht'
 ·simp at hx
  rw [hx]
  exact ht

def blkAt (k : Nat) (c : List UInt8) (j t : Nat) : UInt8 := (piece k j c).getD t 0

noncomputable def maskL (nb i : Nat) : List Bool := (List.range nb).map (mask (chosen nb i))

noncomputable def symRow (nb k : Nat) (c : List UInt8) (i : Nat) : LRow := (maskL nb i, symL nb k c i)

theorem maskL_length (nb i : Nat) : (maskL nb i).length = nb := by simp [maskL]

theorem symRow_fits (nb k : Nat) (c : List UInt8) (i : Nat) : Fits nb k (symRow nb k c i) := ⟨maskL_length nb i, symL_length nb k c i⟩

theorem maskL_has {nb i : Nat} (d : List UInt8) (h1 : 1 ≤ nb) (hb : nb ≤ 24) (j : Nat) : (LRow.v (maskL nb i, d)).has j = mask (chosen nb i) j := by
 show (maskL nb i).getD j false = _
 unfold maskL
 rw [List.getD_eq_getElem?_getD, List.getElem?_map]
 by_cases hj : j < nb
 ·rw [List.getElem?_range hj]; rfl
 ·rw [List.getElem?_eq_none (by simp; omega)]
  symm
  show mask (chosen nb i) j = false
  simp only [mask, decide_eq_false_iff_not]
  intro hm
  exact hj (chosen_lt h1 hb j hm)

theorem sumAt_zero {B : Nat → Nat → UInt8} {h : Nat → Bool} {n t : Nat} (hB : ∀ j, B j t = 0) : sumAt B h n t = 0 := by
 rw [sumAt_congr (B' := fun _ _ => 0) fun j _ => hB j]
 induction n with
 | zero => rfl
 | succ n ih => rw [sumAt, ih]; cases h n <;> rfl

theorem symRow_true {nb k : Nat} {c : List UInt8} {i : Nat} (h1 : 1 ≤ nb) (hb : nb ≤ 24) : Tr nb (blkAt k c) (LRow.v (symRow nb k c i)) := by
 intro t
 have e : (LRow.v (symRow nb k c i)).has = mask (chosen nb i) := funext fun j => maskL_has _ h1 hb j
 rw [e]
 show (symL nb k c i).getD t 0 = _
 by_cases ht : t < k
 ·rw [getD_of (by rw [symL_length]; exact ht)]
  simp only [symL, List.getElem_map, List.getElem_range]
  rfl
 ·rw [List.getD_eq_getElem?_getD, List.getElem?_eq_none (by rw [symL_length]; omega)]
  symm
  refine sumAt_zero fun j => ?_
  show (piece k j c).getD t 0 = 0
  rw [piece_getD, if_neg ht]

def addAll (A : List LRow) : List LRow → Option (List LRow)
 | [] => some A
 | r :: l => (addL A r).bind fun P => addAll P l

theorem addAll_right {n k : Nat} : ∀ {l A P : List LRow}, Right n k A → (∀ r ∈ l, Fits n k r) → addAll A l = some P → Right n k P ∧ ∀ v, Span (P.map LRow.v) v ↔ Span ((A ++ l).map LRow.v) v := by
 intro l
 induction l with
 | nil => intro A P h _ ha; cases ha; exact ⟨h, fun v => by simp⟩
 | cons r l ih =>
  intro A P h hl ha
  simp only [addAll] at ha
  cases hA : addL A r with
  | none => rw [hA] at ha; cases ha
  | some Q =>
   rw [hA] at ha
   obtain ⟨q1, q2⟩ := addL_right h (hl r List.mem_cons_self) hA
   obtain ⟨p1, p2⟩ := ih q1 (fun x hx => hl x (List.mem_cons_of_mem _ hx)) ha
   refine ⟨p1, fun v => (p2 v).trans ?_⟩
   have key : ∀ (S T : List V), (∀ v, Span S v ↔ Span T v) → ∀ (U : List V) v, Span (S ++ U) v → Span (T ++ U) v := by
    intro S T hST U v hv
    refine hv.sub fun x hx => ?_
    rcases List.mem_append.1 hx with hx | hx
    ·exact ((hST x).1 (.mem hx)).mono fun y hy => List.mem_append_left _ hy
    ·exact .mem (List.mem_append_right _ hx)
   rw [List.map_append, show A ++ r :: l = (A ++ [r]) ++ l by simp, List.map_append (l₁ := A ++ [r])]
   exact ⟨key _ _ q2 _ v, key _ _ (fun v => (q2 v).symm) _ v⟩

theorem addAll_true {n k : Nat} {B : Nat → Nat → UInt8} : ∀ {l A : List LRow}, Right n k A → (∀ s ∈ A, Tr n B (LRow.v s)) → (∀ r ∈ l, Fits n k r ∧ Tr n B (LRow.v r)) → ∃ P, addAll A l = some P ∧ ∀ s ∈ P, Tr n B (LRow.v s) := by
 intro l
 induction l with
 | nil => intro A _ hT _; exact ⟨A, rfl, hT⟩
 | cons r l ih =>
  intro A h hT hl
  obtain ⟨Q, hQ, hQT⟩ := addL_true h hT (hl r List.mem_cons_self).1 (hl r List.mem_cons_self).2
  obtain ⟨P, hP, hPT⟩ := ih (addL_right h (hl r List.mem_cons_self).1 hQ).1 hQT (fun x hx => hl x (List.mem_cons_of_mem _ hx))
  exact ⟨P, by simp only [addAll, hQ]; exact hP, hPT⟩

theorem Right.uniq {n k : Nat} {P Q : List LRow} (hP : Right n k P) (hQ : Right n k Q) (h : ∀ v, Span (P.map LRow.v) v ↔ Span (Q.map LRow.v) v) : P = Q :=
 rows_inj hP.fits hQ.fits (hP.sys.uniq hQ.sys h)

abbrev LSym := Int × List UInt8

noncomputable def rowOf (nb : Nat) (y : LSym) : LRow := (maskL nb y.1.toNat, y.2)

noncomputable def stepL (B K : Int) (nb : Nat) (A : List LRow) (y : LSym) : Int × List LRow :=
 if chkS B K y.1 y.2.length ≠ 0 then (chkS B K y.1 y.2.length, []) else match addL A (rowOf nb y) with
  | none => (9, [])
  | some P => (0, P)

noncomputable def allL (B K : Int) (nb : Nat) : List LRow → List LSym → Int × List LRow
 | A, [] => (0, A)
 | A, y :: l => if (stepL B K nb A y).1 ≠ 0 then ((stepL B K nb A y).1, []) else allL B K nb (stepL B K nb A y).2 l

noncomputable def decCode (B K : Int) (l : List LSym) : Int :=
 if chkP B K ≠ 0 then chkP B K else if 60 < l.length then 2 else if (allL B K (nB B K).toNat [] l).1 ≠ 0 then (allL B K (nB B K).toNat [] l).1 else
  if (allL B K (nB B K).toNat [] l).2.length < (nB B K).toNat then 8 else joinCode B K (knownL (nB B K).toNat (allL B K (nB B K).toNat [] l).2)

noncomputable def decRes (B K : Int) (l : List LSym) : List UInt8 :=
 if chkP B K ≠ 0 then [] else if 60 < l.length then [] else if (allL B K (nB B K).toNat [] l).1 ≠ 0 then [] else
  if (allL B K (nB B K).toNat [] l).2.length < (nB B K).toNat then [] else joinRes B K (knownL (nB B K).toNat (allL B K (nB B K).toNat [] l).2)

theorem stepL_chk {B K : Int} {nb : Nat} {A : List LRow} {y : LSym} (h : chkS B K y.1 y.2.length ≠ 0) : stepL B K nb A y = (chkS B K y.1 y.2.length, []) := if_pos h
theorem stepL_torn {B K : Int} {nb : Nat} {A : List LRow} {y : LSym} (h : chkS B K y.1 y.2.length = 0) (ha : addL A (rowOf nb y) = none) : stepL B K nb A y = (9, []) := by
 unfold stepL
 rw [if_neg (by rw [h]; simp), ha]
theorem stepL_ok {B K : Int} {nb : Nat} {A P : List LRow} {y : LSym} (h : chkS B K y.1 y.2.length = 0) (ha : addL A (rowOf nb y) = some P) : stepL B K nb A y = (0, P) := by
 unfold stepL
 rw [if_neg (by rw [h]; simp), ha]

theorem allL_bad {B K : Int} {nb : Nat} {A : List LRow} {y : LSym} {l : List LSym} (h : (stepL B K nb A y).1 ≠ 0) : allL B K nb A (y :: l) = ((stepL B K nb A y).1, []) := if_pos h
theorem allL_go {B K : Int} {nb : Nat} {A : List LRow} {y : LSym} {l : List LSym} (h : (stepL B K nb A y).1 = 0) : allL B K nb A (y :: l) = allL B K nb (stepL B K nb A y).2 l := if_neg (by rw [h]; simp)

theorem chkS_zero {B K id : Int} {m n k nb : Nat} (g : Good B K n k nb) (h : chkS B K id m = 0) : ∃ i : Nat, id = i ∧ i ≤ 9999 ∧ m = k := by
 have hp := chkP_good g
 unfold chkS at h
 rw [if_neg (by rw [hp]; simp)] at h
 split at h
 ·omega
 ·rename_i h1
  split at h
  ·omega
  ·rename_i h2
   refine ⟨id.toNat, by omega, by omega, ?_⟩
   have := g.eK
   omega

end Go.Proofs.YtakkajjoeimkdaaGreatDoor
