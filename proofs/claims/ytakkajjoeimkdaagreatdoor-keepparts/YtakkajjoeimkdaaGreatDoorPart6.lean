import Derived.Test.YtakkajjoeimkdaaGreatDoorPart5
import Derived.Deep.RegionWith
import Derived.Shelf.Abstract
import Derived.Test.YtakkajjoeimkdaaGreatDoorPart3
import Derived.Lib.RabinKarpLaws
import Derived.Deep.AppendLies
import Derived.Deep.RegionLaw
import Derived.Deep.RegionHeldLaw
import Derived.Deep.CutBlock
namespace Go.Proofs.YtakkajjoeimkdaaGreatDoor
open Go.RowKit
set_option linter.unusedVariables false
set_option linter.unusedSimpArgs false

def kSet (l : List (List UInt8)) (r : LRow) : List (List UInt8) := if r.1.count true = 1 then l.set (firstI r.1).toNat r.2 else l

def knownL (n : Nat) (A : List LRow) : List (List UInt8) := A.foldl kSet (List.replicate n [])

theorem kSet_length (l : List (List UInt8)) (r : LRow) : (kSet l r).length = l.length := by
 unfold kSet
 split <;> simp

theorem knownL_snoc (n : Nat) (A : List LRow) (r : LRow) : knownL n (A ++ [r]) = kSet (knownL n A) r := by simp [knownL, List.foldl_append]

theorem knownL_length (n : Nat) (A : List LRow) : (knownL n A).length = n := by
 unfold knownL
 have h : ∀ (A : List LRow) (l : List (List UInt8)), (A.foldl kSet l).length = l.length := by
  intro A
  induction A with
  | nil => intro l; rfl
  | cons r A ih => intro l; rw [List.foldl_cons, ih, kSet_length]
 rw [h, List.length_replicate]

def nilB : Blk := ⟨none, 0, []⟩

def KInv (w wr : World) (g n : Nat) (A : List LRow) : Prop :=
 Below w.heap.size w wr ∧ w.heap.size ≤ g ∧ g < wr.heap.size ∧ ∃ bl : List Blk, bl.length = n ∧ wr.rowIs g 36 n (fun j => (bl[j]?.getD nilB).val) ∧ AllIn w bl ∧ bl.map Blk.l = knownL n A

theorem rowIs_below {w w' : World} {g n : Nat} {t : TypeId} {f : Nat → Value} (h : w.rowIs g t n f) (hb : Below w.heap.size w w') (hg : g < w.heap.size) : w'.rowIs g t n f := by
 unfold World.rowIs at *
 rw [hb.block g hg]
 exact h

theorem KInv.start {w W0 : World} {n : Nat} (hb : Below w.heap.size w W0) : KInv w (W0.alloc (.cells (madeCells #[Value.slice none 0 0] n) 36)) W0.heap.size n [] := by
 refine ⟨hb.alloc hb.size _, hb.size, by simp, List.replicate n nilB, by simp, ?_, ?_, ?_⟩
 ·refine (World.rowIs_made W0 _ n _).congr fun j hj => ?_
  simp [hj, nilB, Blk.val]
 ·intro b hb'
  obtain rfl := List.eq_of_mem_replicate hb'
  exact ⟨Lies.nil _ _, by simp [nilB, maxLen]⟩
 ·simp [knownL, nilB]

theorem KInv.below {w wr w' : World} {g n : Nat} {A : List LRow} (h : KInv w wr g n A) (hb : Below wr.heap.size wr w') : KInv w w' g n A := by
 obtain ⟨h1, h2, h3, bl, h4, h5, h6, h7⟩ := h
 exact ⟨h1.trans (hb.mono h1.size), h2, by have := hb.size; omega, bl, h4, rowIs_below h5 hb h3, h6, h7⟩

theorem KInv.put {w wr : World} {g n F : Nat} {A : List LRow} {r : MRow} (h : KInv w wr g n A) (hc : r.h.count true = 1) (hF : firstI r.h = F) (hr : RowIn w r) :
  KInv w (wr.setCell ⟨g, F, none⟩ r.dv) g n (A ++ [r.says]) := by
 obtain ⟨h1, h2, h3, bl, h4, h5, h6, h7⟩ := h
 have hb : Below w.heap.size w (wr.setCell ⟨g, F, none⟩ r.dv) := h1.setCell (p := ⟨g, F, none⟩) (by simpa using h2) _
 refine ⟨hb, h2, by simpa using h3, bl.set F ⟨r.da, r.dc, r.d⟩, by simpa using h4, ?_, ?_, ?_⟩
 ·refine (h5.set F _).congr fun j hj => ?_
  by_cases e : j = F
  ·subst e
   simp [h4, hj, Blk.val, MRow.dv]
  ·rw [if_neg e, List.getElem?_set_ne (Ne.symm e)]
 ·intro b hb'
  rcases List.mem_or_eq_of_mem_set hb' with hm | rfl
  ·exact h6 b hm
  ·exact ⟨hr.2.1, hr.2.2.2⟩
 ·rw [knownL_snoc, kSet, show r.says.1.count true = 1 from hc, if_pos rfl, List.map_set, h7]
  show _ = (knownL n A).set (firstI r.h).toNat r.d
  rw [hF]
  simp

theorem KInv.pass {w wr : World} {g n : Nat} {A : List LRow} {r : MRow} (h : KInv w wr g n A) (hc : ¬ r.h.count true = 1) : KInv w wr g n (A ++ [r.says]) := by
 obtain ⟨h1, h2, h3, bl, h4, h5, h6, h7⟩ := h
 refine ⟨h1, h2, h3, bl, h4, h5, h6, ?_⟩
 rw [knownL_snoc, kSet, if_neg (by exact hc), h7]

theorem count_first {h : List Bool} (hc : h.count true = 1) : ∃ F : Nat, firstI h = F ∧ F < h.length := by
 rcases firstI_range h with e | ⟨k, e, hk, _⟩
 ·exfalso
  have := (firstI_no (r := (h, []))).1 e
  have h0 : h.count true = 0 := List.count_eq_zero.2 fun hm => by
   obtain ⟨i, hi, hx⟩ := List.getElem_of_mem hm
   have h2 := this i
   rw [LRow.v_has hi] at h2
   simp only at h2
   rw [hx] at h2
   simp at h2
  omega
 ·exact ⟨k, e, hk⟩

def idx (c : Nat) (l : List MRow) : Int := if l.findIdx (fun r => (LRow.v r.says).has c) < l.length then (l.findIdx (fun r => (LRow.v r.says).has c) : Nat) else -1



theorem infoBool : (Tryz.prog.info? 4).map (fun i => (i.zero, i.size, i.bytes)) = some (some (.bool false), 1, 1) := by kernel_rfl

def xorH (a b : List Bool) : List Bool := List.zipWith (fun x y => x != y) a b

theorem xorH_length {a b : List Bool} (h : b.length = a.length) : (xorH a b).length = a.length := by simp [xorH, h]

theorem cellA' {w : World} {b o : Nat} {v : Value} (h : w.cell? ⟨b, o, none⟩ = some v) (ob : Obj) : (w.alloc ob).cell? ⟨b, o, none⟩ = some v := by
 have := World.block_lt_of_cell? w _ h
 rw [(bcell ((Below.refl w.heap.size w).alloc (Nat.le_refl _) ob)).1 b o this]
 exact h

theorem set2' {w1 : World} {g : Nat} {u v : Value} (h0 : w1.cell? ⟨g, 0, none⟩ = some u) (h1 : w1.cell? ⟨g, 1, none⟩ = some v) (u' v' : Value) :
  ((w1.setCell ⟨g, 0, none⟩ u').setCell ⟨g, 1, none⟩ v').cell? ⟨g, 0, none⟩ = some u' ∧ ((w1.setCell ⟨g, 0, none⟩ u').setCell ⟨g, 1, none⟩ v').cell? ⟨g, 1, none⟩ = some v' := by
 have e0 : (w1.setCell ⟨g, 0, none⟩ u').cell? ⟨g, 0, none⟩ = some u' := World.cell?_setCell_same _ _ _ h0
 have e1 : (w1.setCell ⟨g, 0, none⟩ u').cell? ⟨g, 1, none⟩ = some v := by rw [World.cell?_setCell_other _ _ _ _ (by intro e; cases e)]; exact h1
 exact ⟨by rw [World.cell?_setCell_other _ _ _ _ (by intro e; cases e)]; exact e0, World.cell?_setCell_same _ _ _ e1⟩

theorem own_set {w : World} {B b o : Nat} {e : TypeId} {v u : Value} {n : Nat} {xs : List Value} (h : w.ownsRow B e 1 v n xs) (hb : b < B) : (w.setCell ⟨b, o, none⟩ u).ownsRow B e 1 v n xs := by
 refine ⟨h.1, ?_⟩
 rcases h.2 with h0 | ⟨g, cap, cur, rfl, hbg, hg, hnc, hcm, hcs, htake⟩
 ·exact .inl h0
 ·exact .inr ⟨g, cap, cur, rfl, hbg, by rw [Below.heap_setCell _ _ _ _ (by simp; omega)]; exact hg, hnc, hcm, hcs, htake⟩

def BothInv (W0 wr : World) (g : Nat) (x y : List Bool) (q : Nat) : Prop :=
 Below g W0 wr ∧ g < wr.heap.size ∧ (∃ v, wr.cell? ⟨g, 0, none⟩ = some v ∧ wr.ownsRow (g + 1) 4 1 v q (((xorH x y).map Value.bool).take q)) ∧ wr.cell? ⟨g, 1, none⟩ = some (.slice none 0 0) ∧ (∀ j, wr.frozen? ⟨g, j, none⟩ = false)

theorem BothInv.next {W0 wr w1 : World} {g q cap g' : Nat} {x y : List Bool} {v u : Value} {o : Obj} (hI : BothInv W0 wr g x y q) (hx : ((xorH x y).map Value.bool).take (q + 1) = ((xorH x y).map Value.bool).take q ++ [u]) (hg : g + 1 ≤ wr.heap.size)
  (ho : w1.ownsRow (g + 1) 4 1 (.slice (some ⟨g', 0, none⟩) (q + 1) cap) (q + 1) (((xorH x y).map Value.bool).take q ++ [u])) (hgr : ((wr.alloc o).drew).grownBy w1 v.ownBlock) (hv : wr.cell? ⟨g, 0, none⟩ = some v) (hvb : some g ≠ v.ownBlock) (hlo : ∀ b, v.ownBlock = some b → g < b) :
  BothInv W0 (w1.setCell ⟨g, 0, none⟩ (.slice (some ⟨g', 0, none⟩) (q + 1) cap)) g x y (q + 1) := by
 obtain ⟨i1, i2, ⟨v0, i3, i4⟩, i5, i6⟩ := hI
 have hb1 : Below wr.heap.size wr (wr.alloc o).drew := ((Below.refl _ _).alloc (Nat.le_refl _) o).drew
 have e0 : w1.cell? ⟨g, 0, none⟩ = some v := (hgr.cell_far ⟨g, 0, none⟩ (by simp; omega) hvb).trans (((bcell hb1).1 g 0 i2).trans hv)
 have e1 : w1.cell? ⟨g, 1, none⟩ = some (.slice none 0 0) := (hgr.cell_far ⟨g, 1, none⟩ (by simp; omega) hvb).trans (((bcell hb1).1 g 1 i2).trans i5)
 have e2 : ∀ j, w1.frozen? ⟨g, j, none⟩ = false := fun j => (hgr.frozen_far ⟨g, j, none⟩ (by simp; omega) hvb).trans (((bcell hb1).2 g j i2).trans (i6 j))
 refine ⟨?_, ?_, ⟨_, World.cell?_setCell_same _ _ _ e0, ?_⟩, ?_, fun j => by simpa using e2 j⟩
 ·refine Below.setCell ?_ (by simp) _
  refine (i1.trans (hb1.mono (by omega))).grown hgr (by have := i1.size; simp; omega) fun b hb => by have := hlo b hb; omega
 ·have := hgr.size
  simp at this ⊢
  omega
 ·rw [hx]
  exact own_set ho (by omega)
 ·rw [World.cell?_setCell_other _ _ _ _ (by intro e; cases e)]; exact e1

def RowsAt (w : World) (g : Nat) (R : List MRow) : Prop := Lies w (some ⟨g, 0, none⟩) (rowCells R) ∧ ∀ j, w.frozen? ⟨g, j, none⟩ = false

theorem RowsAt.cells {w : World} {g j : Nat} {R : List MRow} (h : RowsAt w g R) (hj : j < R.length) : w.cell? ⟨g, j * 2, none⟩ = some R[j].hv ∧ w.cell? ⟨g, j * 2 + 1, none⟩ = some R[j].dv := by
 have := row_at h.1 hj
 simpa using this

theorem RowsAt.of {w : World} {g : Nat} {R : List MRow} (h : ∀ j (hj : j < R.length), w.cell? ⟨g, j * 2, none⟩ = some R[j].hv ∧ w.cell? ⟨g, j * 2 + 1, none⟩ = some R[j].dv) (hf : ∀ j, w.frozen? ⟨g, j, none⟩ = false) : RowsAt w g R := by
 refine ⟨?_, hf⟩
 intro k u hu
 have hk : k < 2 * R.length := by
  have := (List.getElem?_eq_some_iff.1 hu).1
  rwa [rowCells_length] at this
 obtain ⟨c0, c1⟩ := rowCells_get (l := R) (j := k / 2) (by omega)
 obtain ⟨h0, h1⟩ := h (k / 2) (by omega)
 refine ⟨g, 0, rfl, ?_⟩
 rcases Nat.mod_two_eq_zero_or_one k with e | e
 ·rw [show 2 * (k / 2) = k by omega, hu] at c0
  rw [show 0 + k = k / 2 * 2 by omega, h0, c0]
 ·rw [show 2 * (k / 2) + 1 = k by omega, hu] at c1
  rw [show 0 + k = k / 2 * 2 + 1 by omega, h1, c1]

theorem RowsAt.set {w : World} {g i : Nat} {R : List MRow} (h : RowsAt w g R) (hi : i < R.length) (r : MRow) : RowsAt ((w.setCell ⟨g, i * 2, none⟩ r.hv).setCell ⟨g, i * 2 + 1, none⟩ r.dv) g (R.set i r) := by
 refine RowsAt.of ?_ (fun j => by simpa using h.2 j)
 intro j hj
 simp only [List.length_set] at hj
 obtain ⟨c0, c1⟩ := h.cells hj
 obtain ⟨d0, d1⟩ := h.cells hi
 by_cases e : j = i
 ·subst e
  rw [List.getElem_set_self]
  refine ⟨?_, ?_⟩
  ·rw [World.cell?_setCell_other _ _ _ _ (by intro e; injection e; omega)]
   exact World.cell?_setCell_same _ _ _ d0
  ·have d2 : (w.setCell ⟨g, j * 2, none⟩ r.hv).cell? ⟨g, j * 2 + 1, none⟩ = some R[j].dv := by
    rw [World.cell?_setCell_other _ _ _ _ (by intro e; injection e; omega)]
    exact d1
   exact World.cell?_setCell_same _ _ _ d2
 ·rw [List.getElem_set_ne (Ne.symm e)]
  refine ⟨?_, ?_⟩
  ·rw [World.cell?_setCell_other _ _ _ _ (by intro e'; injection e'; omega), World.cell?_setCell_other _ _ _ _ (by intro e'; injection e'; omega)]
   exact c0
  ·rw [World.cell?_setCell_other _ _ _ _ (by intro e'; injection e'; omega), World.cell?_setCell_other _ _ _ _ (by intro e'; injection e'; omega)]
   exact c1

theorem RowsAt.below {w w' : World} {g : Nat} {R : List MRow} (h : RowsAt w g R) (hb : Below w.heap.size w w') (hg : g < w.heap.size) : RowsAt w' g R :=
 ⟨h.1.below hb (Nat.le_refl _), fun j => by rw [hb.frozen (p := ⟨g, j, none⟩) hg]; exact h.2 j⟩

def Vof (R : List MRow) (j : Nat) : V := LRow.v ((R[j]?.map MRow.says).getD ([], []))

theorem Vof_at {R : List MRow} {j : Nat} (hj : j < R.length) : Vof R j = LRow.v R[j].says := by simp [Vof, hj]

theorem Vof_set {R : List MRow} {i j : Nat} {r : MRow} (hi : i < R.length) : Vof (R.set i r) j = if j = i then LRow.v r.says else Vof R j := by
  by_cases e : j = i
  · subst e; simp [Vof, hi]
  · rw [if_neg e]; simp [Vof, List.getElem?_set_ne (Ne.symm e)]

def Good3 (w : World) (g n k : Nat) (x : MRow) : Prop := RowIn w x ∧ Fits n k x.says ∧ (∀ b o, x.ha = some ⟨b, o, none⟩ → b ≠ g) ∧ ∀ b o, x.da = some ⟨b, o, none⟩ → b ≠ g

theorem Good3.below {w w' : World} {g n k : Nat} {x : MRow} (h : Good3 w g n k x) (hb : Below w.heap.size w w') : Good3 w' g n k x := ⟨h.1.below hb, h.2⟩

theorem Good3.set {w : World} {g n k o : Nat} {x : MRow} {v : Value} (h : Good3 w g n k x) : Good3 (w.setCell ⟨g, o, none⟩ v) g n k x :=
  ⟨⟨lies_grown (grown_setCell w g o v) h.1.1 h.2.2.1, lies_grown (grown_setCell w g o v) h.1.2.1 h.2.2.2, h.1.2.2⟩, h.2⟩

theorem xor_v {n k : Nat} {r s : LRow} (hr : Fits n k r) (hs : Fits n k s) : LRow.v (xorH r.1 s.1, xorl r.2 s.2) = (LRow.v r).add (LRow.v s) := by
  refine V.ext' (fun j => ?_) (fun j => ?_)
  · show (xorH r.1 s.1).getD j false = (r.1.getD j false != s.1.getD j false)
    unfold xorH
    simp only [List.getD_eq_getElem?_getD, List.getElem?_zipWith]
    by_cases hj : j < n
    · simp [hr.1, hs.1, hj]
    · simp [show r.1.length ≤ j by rw [hr.1]; omega, show s.1.length ≤ j by rw [hs.1]; omega]
  · show (xorl r.2 s.2).getD j 0 = r.2.getD j 0 ^^^ s.2.getD j 0
    unfold xorl
    simp only [List.getD_eq_getElem?_getD, List.getElem?_zipWith]
    by_cases hj : j < k
    · simp [hr.2, hs.2, hj]
    · simp [show r.2.length ≤ j by rw [hr.2]; omega, show s.2.length ≤ j by rw [hs.2]; omega]

def AInv (W0 wr : World) (g n k N : Nat) (S : List V) (c a : Nat) : Prop :=
  Below W0.heap.size W0 wr ∧ W0.heap.size ≤ g ∧ g < wr.heap.size ∧ ∃ (R : List MRow) (L : Nat → Nat), R.length = N ∧ RowsAt wr g R ∧ (∀ x ∈ R, Good3 wr g n k x) ∧ El (Vof R) N a c L ∧ ∀ v, Span (rowsOf (Vof R) N) v ↔ Span S v

theorem AInv.start {W0 w : World} {g n k N : Nat} {R : List MRow} (hb : Below W0.heap.size W0 w) (hW : W0.heap.size ≤ g) (hg : g < w.heap.size) (h : RowsAt w g R) (hN : R.length = N) (n1 : 1 ≤ n) (k1 : 1 ≤ k) (hR : ∀ x ∈ R, RowIn W0 x ∧ Fits n k x.says) :
    AInv W0 w g n k N (R.map fun x => LRow.v x.says) 0 0 := by
  refine ⟨hb, hW, hg, R, fun _ => 0, hN, h, ?_, El.start _ _, ?_⟩
  · intro x hx
    obtain ⟨h1, h2⟩ := hR x hx
    have hl1 : 0 < (x.h.map Value.bool).length := by have := h2.1; simp only [MRow.says] at this; simp; omega
    have hl2 : 0 < (bs x.d).length := by have := h2.2; simp only [MRow.says] at this; simp [bs]; omega
    refine ⟨h1.below hb, h2, ?_, ?_⟩
    · intro b o e
      have h3 := h1.1
      rw [e] at h3
      have := World.block_lt_of_cell? W0 _ (h3.at (k := 0) (List.getElem?_eq_getElem hl1))
      simp at this
      omega
    · intro b o e
      have h3 := h1.2.1
      rw [e] at h3
      have := World.block_lt_of_cell? W0 _ (h3.at (k := 0) (List.getElem?_eq_getElem hl2))
      simp at this
      omega
  · intro v
    have e : rowsOf (Vof R) N = R.map fun x => LRow.v x.says := by
      unfold rowsOf
      apply List.ext_getElem
      · simp [hN]
      · intro i p1 p2
        simp at p2
        simp [Vof_at p2]
    rw [e]

def CInv (W0 wr : World) (g n k N : Nat) (V0 : Nat → V) (c a i : Nat) : Prop :=
  Below W0.heap.size W0 wr ∧ W0.heap.size ≤ g ∧ g < wr.heap.size ∧ ∃ R : List MRow, R.length = N ∧ RowsAt wr g R ∧ (∀ x ∈ R, Good3 wr g n k x) ∧ ∀ j, j < N → Vof R j = if j < i then clrR V0 a c j else V0 j

theorem RowsAt.set' {W0 w : World} {g n k i N : Nat} {R : List MRow} {r : MRow} (hb : Below W0.heap.size W0 w) (hW : W0.heap.size ≤ g) (hg : g < w.heap.size) (hN : R.length = N) (h : RowsAt w g R) (hG : ∀ x ∈ R, Good3 w g n k x) (hi : i < N) (hr : Good3 w g n k r) :
    Below W0.heap.size W0 ((w.setCell ⟨g, i * 2, none⟩ r.hv).setCell ⟨g, i * 2 + 1, none⟩ r.dv) ∧ g < ((w.setCell ⟨g, i * 2, none⟩ r.hv).setCell ⟨g, i * 2 + 1, none⟩ r.dv).heap.size ∧ (R.set i r).length = N ∧
    RowsAt ((w.setCell ⟨g, i * 2, none⟩ r.hv).setCell ⟨g, i * 2 + 1, none⟩ r.dv) g (R.set i r) ∧ ∀ x ∈ R.set i r, Good3 ((w.setCell ⟨g, i * 2, none⟩ r.hv).setCell ⟨g, i * 2 + 1, none⟩ r.dv) g n k x := by
  refine ⟨(hb.setCell (p := ⟨g, i * 2, none⟩) (by simpa using hW) _).setCell (p := ⟨g, i * 2 + 1, none⟩) (by simpa using hW) _, by simpa using hg, by simpa using hN, h.set (by omega) r, ?_⟩
  intro x hx
  rcases List.mem_or_eq_of_mem_set hx with hm | rfl
  · exact ((hG x hm).set).set
  · exact (hr.set).set

theorem CInv.put {W0 w : World} {g n k N a c i : Nat} {V0 : Nat → V} {R : List MRow} {r : MRow} (hb : Below W0.heap.size W0 w) (hW : W0.heap.size ≤ g) (hg : g < w.heap.size) (hN : R.length = N) (h : RowsAt w g R) (hG : ∀ x ∈ R, Good3 w g n k x) (hi : i < N) (hr : Good3 w g n k r)
    (hv : ∀ j, j < N → Vof R j = if j < i then clrR V0 a c j else V0 j) (hrv : LRow.v r.says = clrR V0 a c i) : CInv W0 ((w.setCell ⟨g, i * 2, none⟩ r.hv).setCell ⟨g, i * 2 + 1, none⟩ r.dv) g n k N V0 c a (i + 1) := by
  obtain ⟨b1, b2, b3, b4, b5⟩ := RowsAt.set' hb hW hg hN h hG hi hr
  refine ⟨b1, hW, b2, _, b3, b4, b5, ?_⟩
  intro j hj
  rw [Vof_set (by omega)]
  by_cases e : j = i
  · subst e; rw [if_pos rfl, if_pos (by omega)]; exact hrv
  · rw [if_neg e, hv j hj]
    by_cases h2 : j < i
    · rw [if_pos h2, if_pos (by omega)]
    · rw [if_neg h2, if_neg (by omega)]

theorem CInv.stay {W0 w : World} {g n k N a c i : Nat} {V0 : Nat → V} (h : CInv W0 w g n k N V0 c a i) (hi : i < N) (hc : clrR V0 a c i = V0 i) : CInv W0 w g n k N V0 c a (i + 1) := by
  obtain ⟨b1, b2, b3, R, b4, b5, b6, b7⟩ := h
  refine ⟨b1, b2, b3, R, b4, b5, b6, ?_⟩
  intro j hj
  rw [b7 j hj]
  by_cases e : j = i
  · subst e; rw [if_neg (by omega), if_pos (by omega), hc]
  · by_cases h2 : j < i
    · rw [if_pos h2, if_pos (by omega)]
    · rw [if_neg h2, if_neg (by omega)]

theorem rowsOf_congr {R R' : Nat → V} {n : Nat} (h : ∀ j, j < n → R j = R' j) : rowsOf R n = rowsOf R' n := by
  unfold rowsOf
  exact List.map_congr_left fun j hj => h j (List.mem_range.1 hj)

theorem El.congr {R R' : Nat → V} {N a c : Nat} {L : Nat → Nat} (h : El R N a c L) (e : ∀ j, j < N → R j = R' j) : El R' N a c L := by
  have hle := h.le
  refine ⟨h.le, fun i hi => by rw [← e i (by omega)]; exact h.lead i hi, h.mono, fun i hi j hj hne => by rw [← e j hj]; exact h.apart i hi j hj hne, fun j h1 h2 m hm => by rw [← e j h2]; exact h.rest j h1 h2 m hm⟩

theorem AInv.below {W0 wr w' : World} {g n k N c a : Nat} {S : List V} (h : AInv W0 wr g n k N S c a) (hb : Below wr.heap.size wr w') : AInv W0 w' g n k N S c a := by
  obtain ⟨i1, i2, i3, R, L, i4, i5, i6, i7, i8⟩ := h
  exact ⟨i1.trans (hb.mono i1.size), i2, by have := hb.size; omega, R, L, i4, i5.below hb i3, fun x hx => (i6 x hx).below hb, i7, i8⟩

theorem RowsAt.drop {w : World} {g a : Nat} {R : List MRow} (h : RowsAt w g R) : Lies w (some ⟨g, a * 2, none⟩) (rowCells (R.drop a)) := by
  intro j u hu
  have e : (rowCells (R.drop a))[j]? = (rowCells R)[a * 2 + j]? := by
    have h1 : rowCells R = rowCells (R.take a) ++ rowCells (R.drop a) := by rw [← rowCells_append, List.take_append_drop]
    by_cases hl : a ≤ R.length
    · rw [h1, List.getElem?_append_right (by rw [rowCells_length, List.length_take]; omega)]
      congr 1
      rw [rowCells_length, List.length_take]
      omega
    · rw [List.drop_eq_nil_of_le (by omega)]
      have : (rowCells R).length ≤ a * 2 + j := by rw [rowCells_length]; omega
      rw [List.getElem?_eq_none this]
      simp [rowCells]
  rw [e] at hu
  obtain ⟨b, o, e', hc⟩ := h.1 _ _ hu
  cases e'
  exact ⟨g, a * 2, rfl, by simpa using hc⟩

theorem AInv.pass {W0 w : World} {g n k N c a : Nat} {S : List V} {R : List MRow} {L : Nat → Nat} (i1 : Below W0.heap.size W0 w) (i2 : W0.heap.size ≤ g) (i3 : g < w.heap.size) (i4 : R.length = N) (i5 : RowsAt w g R) (i6 : ∀ x ∈ R, Good3 w g n k x) (i7 : El (Vof R) N a c L) (i8 : ∀ v, Span (rowsOf (Vof R) N) v ↔ Span S v)
    (hn : ∀ j (hj : j < (R.drop a).length), (LRow.v (R.drop a)[j].says).has c = false) : AInv W0 w g n k N S (c + 1) a := by
  refine ⟨i1, i2, i3, R, L, i4, i5, i6, i7.pass ?_, i8⟩
  intro j h1 h2
  have := hn (j - a) (by simp; omega)
  rw [List.getElem_drop] at this
  rw [Vof_at (by omega)]
  simpa [show a + (j - a) = j by omega] using this

theorem CInv.below {W0 w w' : World} {g n k N a c i : Nat} {V0 : Nat → V} (h : CInv W0 w g n k N V0 c a i) (hb : Below w.heap.size w w') : CInv W0 w' g n k N V0 c a i := by
  obtain ⟨b1, b2, b3, R, b4, b5, b6, b7⟩ := h
  exact ⟨b1.trans (hb.mono b1.size), b2, by have := hb.size; omega, R, b4, b5.below hb b3, fun x hx => (b6 x hx).below hb, b7⟩

theorem CInv.start {W0 w : World} {g n k N a c t : Nat} {R : List MRow} {Ra Rt : MRow} (hb : Below W0.heap.size W0 w) (hW : W0.heap.size ≤ g) (hg : g < w.heap.size) (hN : R.length = N) (h : RowsAt w g R) (hG : ∀ x ∈ R, Good3 w g n k x) (ha : a < R.length) (ht : a + t < R.length) (ea : R[a] = Ra) (et : R[a + t] = Rt) :
    CInv W0 ((((w.setCell ⟨g, a * 2, none⟩ Rt.hv).setCell ⟨g, a * 2 + 1, none⟩ Rt.dv).setCell ⟨g, (a + t) * 2, none⟩ Ra.hv).setCell ⟨g, (a + t) * 2 + 1, none⟩ Ra.dv) g n k N (swapR (Vof R) a (a + t)) c a 0 := by
  have hGt : Good3 w g n k Rt := hG _ (by rw [← et]; exact List.getElem_mem ht)
  have hGa : Good3 w g n k Ra := hG _ (by rw [← ea]; exact List.getElem_mem ha)
  obtain ⟨b1, b2, b3, b4, b5⟩ := RowsAt.set' hb hW hg hN h hG (by omega) hGt (i := a)
  obtain ⟨d1, d2, d3, d4, d5⟩ := RowsAt.set' b1 hW b2 b3 b4 b5 (by omega) (hGa.set.set) (i := a + t)
  refine ⟨d1, hW, d2, _, d3, d4, d5, ?_⟩
  intro j hj
  rw [if_neg (by omega), Vof_set (by rw [b3]; omega), Vof_set (by omega)]
  have ea' : Vof R a = LRow.v Ra.says := by rw [Vof_at ha, ea]
  have et' : Vof R (a + t) = LRow.v Rt.says := by rw [Vof_at ht, et]
  unfold swapR
  by_cases e1 : j = a + t
  · rw [if_pos e1, e1]
    by_cases e2 : a + t = a
    · rw [if_pos e2, e2, ea']
    · rw [if_neg e2, if_pos rfl, ea']
  · rw [if_neg e1]
    by_cases e2 : j = a
    · rw [if_pos e2, if_pos e2, et']
    · rw [if_neg e2, if_neg e2, if_neg e1]

theorem CInv.done {W0 w : World} {g n k N a c t : Nat} {S : List V} {V1 : Nat → V} {L : Nat → Nat} (h : CInv W0 w g n k N (swapR V1 a (a + t)) c a N) (h7 : El V1 N a c L) (h8 : ∀ v, Span (rowsOf V1 N) v ↔ Span S v) (ht : a + t < N) (hy : (V1 (a + t)).has c = true) : AInv W0 w g n k N S (c + 1) (a + 1) := by
  obtain ⟨b1, b2, b3, R, b4, b5, b6, b7⟩ := h
  have e : ∀ j, j < N → clrR (swapR V1 a (a + t)) a c j = Vof R j := fun j hj => by rw [b7 j hj, if_pos hj]
  refine ⟨b1, b2, b3, R, _, b4, b5, b6, (h7.take (by omega) ht hy).congr e, ?_⟩
  intro v
  rw [← rowsOf_congr e, take_span (by omega) ht]
  exact h8 v

theorem cell_far2 {w : World} {g b o o1 o2 : Nat} {v u1 u2 : Value} (h : w.cell? ⟨b, o, none⟩ = some v) (hne : b ≠ g) : ((w.setCell ⟨g, o1, none⟩ u1).setCell ⟨g, o2, none⟩ u2).cell? ⟨b, o, none⟩ = some v := by
  rw [World.cell?_setCell_other _ _ _ _ (by intro e; injection e; omega), World.cell?_setCell_other _ _ _ _ (by intro e; injection e; omega)]
  exact h

theorem CInv.both {W0 w w5 : World} {g n k N a c i : Nat} {V0 : Nat → V} {R : List MRow} {t : MRow} (b1 : Below W0.heap.size W0 w) (b2 : W0.heap.size ≤ g) (b3 : g < w.heap.size) (b4 : R.length = N) (b5 : RowsAt w g R) (b6 : ∀ x ∈ R, Good3 w g n k x) (b7 : ∀ j, j < N → Vof R j = if j < i then clrR V0 a c j else V0 j)
    (hi : i < R.length) (ha : a < R.length) (hia : i ≠ a) (hx : (LRow.v R[i].says).has c = true) (hb : Below w.heap.size w w5) (ht : RowIn w5 t) (h1 : t.h = xorH R[i].h R[a].h) (h2 : t.d = xorl R[i].d R[a].d) (f1 : ∀ b o, t.ha = some ⟨b, o, none⟩ → w.heap.size ≤ b) (f2 : ∀ b o, t.da = some ⟨b, o, none⟩ → w.heap.size ≤ b) :
    CInv W0 ((w5.setCell ⟨g, i * 2, none⟩ t.hv).setCell ⟨g, i * 2 + 1, none⟩ t.dv) g n k N V0 c a (i + 1) := by
  have hGi := b6 _ (List.getElem_mem hi)
  have hGa := b6 _ (List.getElem_mem ha)
  have fi := hGi.2.1
  have fa := hGa.2.1
  have hfit : Fits n k t.says := by
    refine ⟨?_, ?_⟩
    · show t.h.length = n
      rw [h1, xorH_length (by have := fi.1; have := fa.1; simp only [MRow.says] at *; omega)]
      exact fi.1
    · show t.d.length = k
      rw [h2, xorl_length _ _ (by have := fi.2; have := fa.2; simp only [MRow.says] at *; omega)]
      exact fi.2
  refine CInv.put (b1.trans (hb.mono b1.size)) b2 (by have := hb.size; omega) b4 (b5.below hb b3) (fun x hx => (b6 x hx).below hb) (by omega) ⟨ht, hfit, fun b o e => by have := f1 b o e; omega, fun b o e => by have := f2 b o e; omega⟩ b7 ?_
  have e0 : LRow.v t.says = (LRow.v R[i].says).add (LRow.v R[a].says) := by
    have := xor_v fi fa
    rw [← this]
    show LRow.v (t.h, t.d) = _
    rw [h1, h2]
    rfl
  have ei : V0 i = LRow.v R[i].says := by have := b7 i (by omega); rw [if_neg (by omega), Vof_at hi] at this; exact this.symm
  have ea : V0 a = LRow.v R[a].says := by
    have := b7 a (by omega)
    rw [Vof_at ha] at this
    rw [this]
    by_cases h : a < i
    · rw [if_pos h]; simp [clrR]
    · rw [if_neg h]
  rw [e0, clrR, if_neg hia, clr, ei, if_pos hx, ea]

theorem Good3.off {w : World} {g g2 n k : Nat} {x : MRow} (h : Good3 w g n k x) (n1 : 1 ≤ n) (k1 : 1 ≤ k) (hz : ∀ j v, w.cell? ⟨g2, j, none⟩ = some v → v = .int .i64 0 ∨ v = .slice none 0 0) : (∀ b o, x.ha = some ⟨b, o, none⟩ → b ≠ g2) ∧ ∀ b o, x.da = some ⟨b, o, none⟩ → b ≠ g2 := by
  obtain ⟨⟨h1, h2, _⟩, ⟨l1, l2⟩, _⟩ := h
  have e1 : 0 < x.h.length := by simp only [MRow.says] at l1; omega
  have e2 : 0 < x.d.length := by simp only [MRow.says] at l2; omega
  refine ⟨?_, ?_⟩
  · rintro b o e rfl
    rw [e] at h1
    have := hz _ _ (h1.at (k := 0) (u := .bool x.h[0]) (by simp [e1]))
    simp at this
  · rintro b o e rfl
    rw [e] at h2
    have := hz _ _ (h2.at (k := 0) (u := .int .u8 x.d[0].toNat) (by simp [bs, e2]))
    simp at this

theorem RowIn.grown {w w' : World} {g2 : Nat} {x : MRow} (hg : w.grownBy w' (some g2)) (h : RowIn w x) (ho : (∀ b o, x.ha = some ⟨b, o, none⟩ → b ≠ g2) ∧ ∀ b o, x.da = some ⟨b, o, none⟩ → b ≠ g2) : RowIn w' x :=
  ⟨lies_grown hg h.1 ho.1, lies_grown hg h.2.1 ho.2, h.2.2⟩

theorem set3 {w : World} {g : Nat} {a b c : Value} (h0 : w.cell? ⟨g, 0, none⟩ = some a) (h1 : w.cell? ⟨g, 1, none⟩ = some b) (h2 : w.cell? ⟨g, 2, none⟩ = some c) (u0 u1 u2 : Value) :
    Box3 (((w.setCell ⟨g, 0, none⟩ u0).setCell ⟨g, 1, none⟩ u1).setCell ⟨g, 2, none⟩ u2) g u0 u1 u2 := by
  have e0 : (w.setCell ⟨g, 0, none⟩ u0).cell? ⟨g, 0, none⟩ = some u0 := World.cell?_setCell_same _ _ _ h0
  have e1 : (w.setCell ⟨g, 0, none⟩ u0).cell? ⟨g, 1, none⟩ = some b := by rw [World.cell?_setCell_other _ _ _ _ (by intro e; cases e)]; exact h1
  have e2 : (w.setCell ⟨g, 0, none⟩ u0).cell? ⟨g, 2, none⟩ = some c := by rw [World.cell?_setCell_other _ _ _ _ (by intro e; cases e)]; exact h2
  have f0 : ((w.setCell ⟨g, 0, none⟩ u0).setCell ⟨g, 1, none⟩ u1).cell? ⟨g, 0, none⟩ = some u0 := by rw [World.cell?_setCell_other _ _ _ _ (by intro e; cases e)]; exact e0
  have f1 : ((w.setCell ⟨g, 0, none⟩ u0).setCell ⟨g, 1, none⟩ u1).cell? ⟨g, 1, none⟩ = some u1 := World.cell?_setCell_same _ _ _ e1
  have f2 : ((w.setCell ⟨g, 0, none⟩ u0).setCell ⟨g, 1, none⟩ u1).cell? ⟨g, 2, none⟩ = some c := by rw [World.cell?_setCell_other _ _ _ _ (by intro e; cases e)]; exact e2
  refine ⟨?_, ?_, World.cell?_setCell_same _ _ _ f2⟩
  · rw [World.cell?_setCell_other _ _ _ _ (by intro e; cases e)]; exact f0
  · rw [World.cell?_setCell_other _ _ _ _ (by intro e; cases e)]; exact f1

def AddPost (w w' : World) (n k N : Nat) (S : List V) (e : Ending) : Prop :=
  Below w.heap.size w w' ∧ ∃ (R : List MRow) (a : Nat) (L : Nat → Nat), R.length = N ∧ (∀ x ∈ R, RowIn w' x ∧ Fits n k x.says) ∧ El (Vof R) N a n L ∧ (∀ v, Span (rowsOf (Vof R) N) v ↔ Span S v) ∧
    ((a = N ∧ ∃ g cap, e = .returned (.tuple #[.agg #[.int .i64 n, .int .i64 k, .slice (some ⟨g, 0, none⟩) N cap], .bool true, .int .i64 0]) ∧ Lies w' (some ⟨g, 0, none⟩) (rowCells R)) ∨
     (a < N ∧ (∃ j, (Vof R a).dat j ≠ 0) ∧ e = .returned (.tuple #[.agg #[.int .i64 0, .int .i64 0, .slice none 0 0], .bool false, .int .i64 9])) ∨
     (a < N ∧ (∀ j, (Vof R a).dat j = 0) ∧ ∃ g cap, e = .returned (.tuple #[.agg #[.int .i64 n, .int .i64 k, .slice (some ⟨g, 0, none⟩) a cap], .bool false, .int .i64 0]) ∧ Lies w' (some ⟨g, 0, none⟩) (rowCells (R.take a))))

theorem AInv.box {W0 wr w' w : World} {g g2 n k N a : Nat} {S : List V} {R : List MRow} (i2 : W0.heap.size ≤ g) (o3 : g2 < W0.heap.size) (i5 : RowsAt wr g R) (i6 : ∀ x ∈ R, Good3 wr g n k x) (n1 : 1 ≤ n) (k1 : 1 ≤ k) (hz : ∀ j v, wr.cell? ⟨g2, j, none⟩ = some v → v = .int .i64 0 ∨ v = .slice none 0 0) (hg : wr.grownBy w' (some g2)) :
    Lies w' (some ⟨g, 0, none⟩) (rowCells R) ∧ ∀ x ∈ R, RowIn w' x ∧ Fits n k x.says :=
  ⟨lies_grown hg i5.1 (fun b o e => by cases e; omega), fun x hx => ⟨(i6 x hx).1.grown hg ((i6 x hx).off n1 k1 hz), (i6 x hx).2.1⟩⟩

def LRow.add (a b : LRow) : LRow := (xorH a.1 b.1, xorl a.2 b.2)

theorem LRow.v_add {n k : Nat} {a b : LRow} (ha : Fits n k a) (hb : Fits n k b) : LRow.v (LRow.add a b) = (LRow.v a).add (LRow.v b) := xor_v ha hb

theorem LRow.fits_add {n k : Nat} {a b : LRow} (ha : Fits n k a) (hb : Fits n k b) : Fits n k (LRow.add a b) := by
 refine ⟨?_, ?_⟩
 ·show (xorH a.1 b.1).length = n
  rw [xorH_length (by rw [ha.1, hb.1]), ha.1]
 ·show (xorl a.2 b.2).length = k
  rw [xorl_length _ _ (by rw [ha.2, hb.2]), ha.2]

def redStep (r s : LRow) : LRow := if r.1.getD (firstI s.1).toNat false = true then LRow.add r s else r

def redL (A : List LRow) (r : LRow) : LRow := A.foldl redStep r

theorem redL_snoc (A : List LRow) (s r : LRow) : redL (A ++ [s]) r = redStep (redL A r) s := by simp [redL, List.foldl_append]

theorem fst_firstI {n k : Nat} {s : LRow} (hs : Fits n k s) (hl : ∃ m, Lead (LRow.v s) m) : fst n (LRow.v s) = (firstI s.1).toNat := by
 obtain ⟨m, hm⟩ := hl
 rw [fst_lead hm ((LRow.v_of hs).lead hm), firstI_lead.2 hm]
 simp

theorem redL_fits {n k : Nat} {A : List LRow} (hA : ∀ s ∈ A, Fits n k s) : ∀ {r : LRow}, Fits n k r → Fits n k (redL A r) := by
 induction A with
 | nil => intro r hr; exact hr
 | cons s A ih =>
  intro r hr
  show Fits n k (redL A (redStep r s))
  refine ih (fun x hx => hA x (List.mem_cons_of_mem _ hx)) ?_
  unfold redStep
  split
  ·exact LRow.fits_add hr (hA s List.mem_cons_self)
  ·exact hr

theorem redL_v {n k : Nat} {A : List LRow} (hA : ∀ s ∈ A, Fits n k s) (hl : ∀ s ∈ A, ∃ m, Lead (LRow.v s) m) : ∀ {r : LRow}, Fits n k r → LRow.v (redL A r) = red n (A.map LRow.v) (LRow.v r) := by
 induction A with
 | nil => intro r _; rfl
 | cons s A ih =>
  intro r hr
  have hs := hA s List.mem_cons_self
  rw [List.map_cons, red_cons, fst_firstI hs (hl s List.mem_cons_self)]
  show LRow.v (redL A (redStep r s)) = _
  have e : LRow.v (redStep r s) = if (LRow.v r).has (firstI s.1).toNat = true then (LRow.v r).add (LRow.v s) else LRow.v r := by
   unfold redStep
   show LRow.v (if r.1.getD (firstI s.1).toNat false = true then _ else _) = if r.1.getD (firstI s.1).toNat false = true then _ else _
   split
   ·exact LRow.v_add hr hs
   ·rfl
  rw [← e]
  refine ih (fun x hx => hA x (List.mem_cons_of_mem _ hx)) (fun x hx => hl x (List.mem_cons_of_mem _ hx)) ?_
  unfold redStep
  split
  ·exact LRow.fits_add hr hs
  ·exact hr

theorem Right.redL {n k : Nat} {A : List LRow} (h : Right n k A) {r : LRow} (hr : Fits n k r) : LRow.v (redL A r) = red n (A.map LRow.v) (LRow.v r) :=
 redL_v h.fits (fun s hs => h.sys.lead _ (List.mem_map_of_mem hs)) hr

def clrL (p : LRow) (s : LRow) : LRow := if s.1.getD (firstI p.1).toNat false = true then LRow.add s p else s

theorem clrL_fits {n k : Nat} {p s : LRow} (hp : Fits n k p) (hs : Fits n k s) : Fits n k (clrL p s) := by
 unfold clrL
 split
 ·exact LRow.fits_add hs hp
 ·exact hs

theorem clrL_v {n k f : Nat} {p s : LRow} (hp : Fits n k p) (hs : Fits n k s) (hf : firstI p.1 = f) : LRow.v (clrL p s) = clr (LRow.v p) f (LRow.v s) := by
 unfold clrL clr
 rw [hf]
 simp only [Int.toNat_natCast]
 show LRow.v (if s.1.getD f false = true then _ else _) = if s.1.getD f false = true then _ else _
 split
 ·exact LRow.v_add hs hp
 ·rfl

def insL (X Y : List LRow) (p : LRow) : List LRow := X.map (clrL p) ++ p :: Y.map (clrL p)

theorem insL_v {n k f : Nat} {X Y : List LRow} {p : LRow} (hX : ∀ s ∈ X ++ Y, Fits n k s) (hp : Fits n k p) (hf : firstI p.1 = f) : (insL X Y p).map LRow.v = (X.map LRow.v).map (clr (LRow.v p) f) ++ LRow.v p :: (Y.map LRow.v).map (clr (LRow.v p) f) := by
 have h : ∀ (Z : List LRow), (∀ s ∈ Z, Fits n k s) → (Z.map (clrL p)).map LRow.v = (Z.map LRow.v).map (clr (LRow.v p) f) := by
  intro Z hZ
  rw [List.map_map, List.map_map]
  exact List.map_congr_left fun s hs => clrL_v hp (hZ s hs) hf
 unfold insL
 rw [List.map_append, List.map_cons, h X (fun s hs => hX s (List.mem_append_left _ hs)), h Y (fun s hs => hX s (List.mem_append_right _ hs))]

theorem Right.insL {n k f : Nat} {X Y : List LRow} {p r : LRow} (h : Right n k (X ++ Y)) (hr : Fits n k r) (hp : Go.Proofs.YtakkajjoeimkdaaGreatDoor.redL (X ++ Y) r = p) (hf : firstI p.1 = f) (hX : ∀ s ∈ X, firstI s.1 < f) (hY : ∀ s ∈ Y, (f : Int) < firstI s.1) :
  Right n k (Go.Proofs.YtakkajjoeimkdaaGreatDoor.insL X Y p) ∧ ∀ v, Span ((Go.Proofs.YtakkajjoeimkdaaGreatDoor.insL X Y p).map LRow.v) v ↔ Span (((X ++ Y) ++ [r]).map LRow.v) v := by
 have hpf : Fits n k p := by rw [← hp]; exact redL_fits h.fits hr
 have hv : LRow.v p = red n ((X ++ Y).map LRow.v) (LRow.v r) := by rw [← hp]; exact h.redL hr
 have hl : Lead (LRow.v p) f := firstI_lead.1 hf
 have hlead : ∀ s ∈ X ++ Y, ∃ j : Nat, Lead (LRow.v s) j ∧ firstI s.1 = j := fun s hs => by
  obtain ⟨j, hj⟩ := h.sys.lead _ (List.mem_map_of_mem hs)
  exact ⟨j, hj, firstI_lead.2 hj⟩
 have hsys := h.sys
 rw [List.map_append] at hsys
 have hS : Sys ((X.map LRow.v).map (clr (LRow.v p) f) ++ LRow.v p :: (Y.map LRow.v).map (clr (LRow.v p) f)) := by
  refine hsys.insert hl ?_ ?_ ?_
  ·intro s hs j hj
   rw [hv]
   exact red_clear h.sys h.of _ s (by rw [List.map_append]; exact hs) j hj
  ·intro s hs
   obtain ⟨t, ht, rfl⟩ := List.mem_map.1 hs
   obtain ⟨j, hj, e⟩ := hlead t (List.mem_append_left _ ht)
   have := hX t ht
   exact ⟨j, by omega, hj⟩
  ·intro s hs
   obtain ⟨t, ht, rfl⟩ := List.mem_map.1 hs
   obtain ⟨j, hj, e⟩ := hlead t (List.mem_append_right _ ht)
   have := hY t ht
   exact ⟨j, by omega, hj⟩
 refine ⟨⟨h.n1, h.n2, h.k1, h.k2, ?_, ?_⟩, ?_⟩
 ·intro s hs
  rcases List.mem_append.1 hs with hs | hs
  ·obtain ⟨t, ht, rfl⟩ := List.mem_map.1 hs
   exact clrL_fits hpf (h.fits t (List.mem_append_left _ ht))
  ·rcases List.mem_cons.1 hs with rfl | hs
   ·exact hpf
   ·obtain ⟨t, ht, rfl⟩ := List.mem_map.1 hs
    exact clrL_fits hpf (h.fits t (List.mem_append_right _ ht))
 ·rw [insL_v h.fits hpf hf]
  exact hS
 ·intro v
  rw [insL_v h.fits hpf hf, insert_span, List.map_append (l₁ := X ++ Y), List.map_append, List.map_cons, List.map_nil]
  rw [red_same n (X.map LRow.v ++ Y.map LRow.v) (LRow.v r) v]
  rw [hv, List.map_append]

theorem unit_has {r : LRow} {j : Nat} (hc : r.1.count true = 1) (hj : firstI r.1 = j) : ∀ i, (LRow.v r).has i = decide (i = j) := by
 obtain ⟨h, d⟩ := r
 simp only at hc hj
 have hl : Lead (LRow.v (h, d)) j := firstI_lead.1 hj
 intro i
 by_cases e : i = j
 ·subst e; simpa using hl.1
 ·rw [decide_eq_false e]
  rcases Bool.eq_false_or_eq_true ((LRow.v (h, d)).has i) with hi | hi
  ·exfalso
   have hij : j < i := by
    rcases Nat.lt_or_ge i j with h1 | h1
    ·have := hl.2 i h1
     rw [hi] at this
     cases this
    ·omega
   have lt : ∀ m, (LRow.v (h, d)).has m = true → ∃ hm : m < h.length, h[m] = true := by
    intro m hm
    have hm' : h.getD m false = true := hm
    by_cases hlt : m < h.length
    ·refine ⟨hlt, ?_⟩
     rw [List.getD_eq_getElem?_getD, List.getElem?_eq_getElem hlt] at hm'
     exact hm'
    ·rw [List.getD_eq_getElem?_getD, List.getElem?_eq_none (by omega)] at hm'
     cases hm'
   obtain ⟨l1, e1⟩ := lt j hl.1
   obtain ⟨l2, e2⟩ := lt i hi
   have hs : h = h.take i ++ h[i] :: h.drop (i + 1) := by rw [List.getElem_cons_drop, List.take_append_drop]
   have m1 : true ∈ h.take i := by
    have : (h.take i)[j]'(by simp; omega) = true := by rw [List.getElem_take]; exact e1
    rw [← this]
    exact List.getElem_mem _
   have c1 : 1 ≤ (h.take i).count true := List.one_le_count_iff.2 m1
   rw [hs, List.count_append, e2, List.count_cons_self] at hc
   omega
  ·exact hi

theorem red_true {n k : Nat} {A : List LRow} {B : Nat → Nat → UInt8} {r : LRow} (hA : Right n k A) (hT : ∀ r ∈ A, Tr n B (LRow.v r)) (hr : Fits n k r) (ht : Tr n B (LRow.v r)) : Tr n B (LRow.v (redL A r)) := by
 rw [hA.redL hr]
 have h := red_span n (A.map LRow.v) (LRow.v r)
 have h2 : Tr n B ((red n (A.map LRow.v) (LRow.v r)).add (LRow.v r)) := h.tr fun s hs => by
  obtain ⟨t, ht', rfl⟩ := List.mem_map.1 hs
  exact hT t ht'
 have := h2.add ht
 rwa [V.add_add] at this

end Go.Proofs.YtakkajjoeimkdaaGreatDoor
