import Derived.Test.YtkiejflgphjfjacDoorPart15
import Derived.Test.YtkiejflgphjfjacDoorPart16
import Derived.Test.YtkiejflgphjfjacDoorPart7
import Derived.Test.YtkiejflgphjfjacDoorPart4
import Derived.Test.YtkiejflgphjfjacDoorPart10
import Derived.Deep.RegionHeld3
import Derived.Test.YtkiejflgphjfjacDoorPart2
/-
  Symbols in memory; solve.Decode: its contract.
-/
namespace Go.Proofs.YtkiejflgphjfjacDoor
open Go.RowKit
set_option linter.unusedVariables false
set_option linter.unusedSimpArgs false

/-- a symbol in memory -/
structure MSym where
  id : Int
  a : Option Addr
  c : Nat
  d : List UInt8

def MSym.dv (y : MSym) : Value := .slice y.a y.d.length y.c
def MSym.says (y : MSym) : LSym := (y.id, y.d)
def SymIn (w : World) (y : MSym) : Prop := Lies w y.a (bs y.d) ∧ y.d.length ≤ maxLen

theorem SymIn.below {w w' : World} {y : MSym} (h : SymIn w y) (hb : Below w.heap.size w w') : SymIn w' y := ⟨h.1.below hb (Nat.le_refl _), h.2⟩

/-- the cells of symbols that stand in a list -/
def symCells (l : List MSym) : List Value := l.flatMap fun y => [.int .i64 y.id, y.dv]

theorem symCells_length (l : List MSym) : (symCells l).length = 2 * l.length := by
  induction l with
  | nil => rfl
  | cons r l ih => simp only [symCells, List.flatMap_cons, List.length_append, List.length_cons, List.length_nil] at ih ⊢; omega

theorem symCells_append (l m : List MSym) : symCells (l ++ m) = symCells l ++ symCells m := by simp [symCells]

theorem symCells_get {l : List MSym} : ∀ {j : Nat} (hj : j < l.length), (symCells l)[2 * j]? = some (.int .i64 l[j].id) ∧ (symCells l)[2 * j + 1]? = some l[j].dv := by
  induction l with
  | nil => intro j hj; simp at hj
  | cons r l ih =>
    intro j hj
    have e : symCells (r :: l) = .int .i64 r.id :: r.dv :: symCells l := rfl
    cases j with
    | zero => rw [e]; exact ⟨rfl, rfl⟩
    | succ j =>
      have := ih (j := j) (by simpa using hj)
      rw [e, show 2 * (j + 1) = 2 * j + 1 + 1 by omega]
      simpa using this

theorem sym_at {w : World} {b o : Nat} {l : List MSym} (h : Lies w (some ⟨b, o, none⟩) (symCells l)) {j : Nat} (hj : j < l.length) : w.cell? ⟨b, o + j * 2, none⟩ = some (.int .i64 l[j].id) ∧ w.cell? ⟨b, o + j * 2 + 1, none⟩ = some l[j].dv := by
  have h0 := h.at (symCells_get hj).1
  have h1 := h.at (symCells_get hj).2
  rw [Nat.mul_comm] at h0
  rw [Nat.mul_comm, ← Nat.add_assoc] at h1
  exact ⟨h0, h1⟩

theorem nB_good' {B K : Int} {n k nb : Nat} (g : Good B K n k nb) : (nB B K).toNat = nb := by rw [g.eN]; simp

/-- the state of Decode's loop -/
def DecInv (w wr : World) (B K : Int) (pb tb nb k : Nat) (ls : List LSym) (q : Nat) : Prop :=
  ∃ (a : Option Addr) (m c : Nat) (rows : List MRow) (A : List LRow), SysBox wr tb nb k a m c rows A ∧ rows.length = m ∧ Right nb k A ∧ allL B K nb [] ls = allL B K nb A (ls.drop q) ∧ wr.heap[pb]? = some (.cells #[.int .i64 B, .int .i64 K] 23 (0, 0)) ∧ Below w.heap.size w wr ∧ w.heap.size ≤ tb

theorem dec_code_err {B K : Int} {n k nb : Nat} {ls : List LSym} {q : Int} (g : Good B K n k nb) (h60 : ls.length ≤ 60) (h : allL B K nb [] ls = (q, [])) (hq : q ≠ 0) : decCode B K ls = q ∧ decRes B K ls = [] := by
  have e0 : ¬ (chkP B K ≠ 0) := by rw [chkP_good g]; simp
  have e1 : ¬ 60 < ls.length := by omega
  unfold decCode decRes
  rw [if_neg e0, if_neg e1, if_neg e0, if_neg e1, nB_good' g, h]
  exact ⟨if_pos hq, if_pos hq⟩

theorem dec_code_end {B K : Int} {n k nb : Nat} {ls : List LSym} {A : List LRow} (g : Good B K n k nb) (h60 : ls.length ≤ 60) (h : allL B K nb [] ls = (0, A)) :
    (A.length < nb → decCode B K ls = 8 ∧ decRes B K ls = []) ∧ (¬ A.length < nb → decCode B K ls = joinCode B K (knownL nb A) ∧ decRes B K ls = joinRes B K (knownL nb A)) := by
  have e0 : ¬ (chkP B K ≠ 0) := by rw [chkP_good g]; simp
  have e2 : ¬ ((0 : Int) ≠ 0) := by simp
  have e1 : ¬ 60 < ls.length := by omega
  unfold decCode decRes
  rw [if_neg e0, if_neg e1, if_neg e0, if_neg e1, nB_good' g, h]
  simp only [if_neg e2]
  exact ⟨fun hl => ⟨if_pos hl, if_pos hl⟩, fun hl => ⟨if_neg hl, if_neg hl⟩⟩

theorem decode_plan (B K : Int) (la : Option Addr) (m lc : Nat) (ls : List LSym) (w : World) (hB : I64 B) (hK : I64 K) (h : chkP B K ≠ 0) :
    Calls Tryd.prog 9 #[.agg #[.int .i64 B, .int .i64 K], .slice la m lc] w fun e w' => e = .returned (.tuple #[.slice none 0 0, .int .i64 (decCode B K ls)]) ∧ Below w.heap.size w w' := by
  have hBl : Below w.heap.size w (w.alloc (.cells #[.int .i64 B, .int .i64 K] 23)) := (Below.refl _ _).alloc (Nat.le_refl _) _
  obtain ⟨x0, x1⟩ := Box2.mk w (.int .i64 B) (.int .i64 K) 23
  have hC := cutCheck_any B K (w.alloc (.cells #[.int .i64 B, .int .i64 K] 23)) hB hK
  have e : decCode B K ls = chkP B K := if_pos h
  rw [e]
  obtain ⟨q, hq⟩ : ∃ q, chkP B K = q := ⟨_, rfl⟩
  rw [hq] at hC h ⊢
  have h1 : (q != 0) = true := by simpa using h
  clear e hq h
  go_enter Tryd.func9, Tryd.ntmps9
  go_wp2_with fail
  refine hC.mono ?_
  rintro e w1 ⟨rfl, hb⟩
  have hb1 := hBl.trans (hb.mono hBl.size)
  clear hC hb x0 x1 hBl
  go_wp2
  go_ret2
  exact ⟨rfl, hb1⟩

theorem decode_many (B K : Int) (n k nb : Nat) (la : Option Addr) (m lc : Nat) (ls : List LSym) (w : World) (g : Good B K n k nb) (hB : I64 B) (hK : I64 K) (hm : m ≤ maxLen) (hml : ls.length = m) (h : 60 < m) :
    Calls Tryd.prog 9 #[.agg #[.int .i64 B, .int .i64 K], .slice la m lc] w fun e w' => e = .returned (.tuple #[.slice none 0 0, .int .i64 (decCode B K ls)]) ∧ Below w.heap.size w w' := by
  have hBl : Below w.heap.size w (w.alloc (.cells #[.int .i64 B, .int .i64 K] 23)) := (Below.refl _ _).alloc (Nat.le_refl _) _
  obtain ⟨x0, x1⟩ := Box2.mk w (.int .i64 B) (.int .i64 K) 23
  have hC := cutCheck_any B K (w.alloc (.cells #[.int .i64 B, .int .i64 K] 23)) hB hK
  have e : decCode B K ls = 2 := by rw [decCode, if_neg (by rw [chkP_good g]; simp), if_pos (by omega)]
  rw [chkP_good g] at hC
  rw [e]
  unfold maxLen at hm
  clear e hml
  go_enter Tryd.func9, Tryd.ntmps9
  go_wp2_with fail
  refine hC.mono ?_
  rintro e w1 ⟨rfl, hb⟩
  have hb1 := hBl.trans (hb.mono hBl.size)
  clear hC hb x0 x1 hBl
  go_wp2
  go_ret2
  exact ⟨rfl, hb1⟩

theorem below_new3 {Y w' : World} {x y z : Value} {t : TypeId} (hb : Below ((Y.alloc (.cells #[x, y, z] t)).heap.size) (Y.alloc (.cells #[x, y, z] t)) w') :
    w'.heap[Y.heap.size]? = some (.cells #[x, y, z] t (0, 0)) ∧ w'.cell? ⟨Y.heap.size, 0, none⟩ = some x ∧ w'.cell? ⟨Y.heap.size, 1, none⟩ = some y ∧ w'.cell? ⟨Y.heap.size, 2, none⟩ = some z ∧ w'.frozen? ⟨Y.heap.size, 0, none⟩ = false ∧ w'.frozen? ⟨Y.heap.size, 1, none⟩ = false ∧ w'.frozen? ⟨Y.heap.size, 2, none⟩ = false := by
  have h : w'.heap[Y.heap.size]? = some (.cells #[x, y, z] t (0, 0)) := (hb.block Y.heap.size (by simp)).trans (by rw [heap_alloc_eq, if_pos rfl])
  have x0 := cell_blk h 0
  have x1 := cell_blk h 1
  have x2 := cell_blk h 2
  simp at x0 x1 x2
  exact ⟨h, x0, x1, x2, frozen_blk h 0, frozen_blk h 1, frozen_blk h 2⟩

theorem cells3 {w : World} {b : Nat} {x y z : Value} {t : TypeId} (h : w.heap[b]? = some (.cells #[x, y, z] t (0, 0))) : w.cell? ⟨b, 0, none⟩ = some x ∧ w.cell? ⟨b, 1, none⟩ = some y ∧ w.cell? ⟨b, 2, none⟩ = some z := by
  have x0 := cell_blk h 0
  have x1 := cell_blk h 1
  have x2 := cell_blk h 2
  simp at x0 x1 x2
  exact ⟨x0, x1, x2⟩

theorem below_new3d {Y w' : World} {x y z : Value} {t : TypeId} (hb : Below (((Y.alloc (.cells #[x, y, z] t)).drew).heap.size) ((Y.alloc (.cells #[x, y, z] t)).drew) w') : w'.heap[Y.heap.size]? = some (.cells #[x, y, z] t (0, 0)) := by
  have h0 : ((Y.alloc (.cells #[x, y, z] t)).drew).heap[Y.heap.size]? = some (.cells #[x, y, z] t (0, 0)) := by
    show (Y.alloc (.cells #[x, y, z] t)).heap[Y.heap.size]? = _
    rw [heap_alloc_eq, if_pos rfl]
  exact blk_below h0 hb

theorem DecInv.start {w w9 : World} {B K : Int} {n k nb pb tb : Nat} {ls : List LSym} (g : Good B K n k nb) (hs : w9.heap[tb]? = some (.cells #[.int .i64 nb, .int .i64 K, .slice none 0 0] 53 (0, 0))) (hp : w9.heap[pb]? = some (.cells #[.int .i64 B, .int .i64 K] 23 (0, 0))) (hb : Below w.heap.size w w9) (ht : w.heap.size ≤ tb) : DecInv w w9 B K pb tb nb k ls 0 := by
  have hR0 : Right nb k [] := ⟨g.b1, g.b2, g.k1, g.k2, (fun r hr => by cases hr), Sys.nil⟩
  refine ⟨none, 0, 0, [], [], ⟨?_, Lies.nil _ _, (fun r hr => by cases hr), rfl⟩, rfl, hR0, by simp, hp, hb, ht⟩
  rw [hs, g.eK]

theorem set3_blk {w : World} {b : Nat} {x y z u0 u1 u2 : Value} {t : TypeId} (h : w.heap[b]? = some (.cells #[x, y, z] t (0, 0))) : (((w.setCell ⟨b, 0, none⟩ u0).setCell ⟨b, 1, none⟩ u1).setCell ⟨b, 2, none⟩ u2).heap[b]? = some (.cells #[u0, u1, u2] t (0, 0)) := by
  rw [heap_set (o := 2) (v := u2) (heap_set (o := 1) (v := u1) (heap_set (o := 0) (v := u0) h))]
  simp

set_option maxHeartbeats 4000000 in
set_option maxRecDepth 8000 in
theorem decode_good (B K : Int) (n k nb m : Nat) (la : Option Addr) (lc : Nat) (l : List MSym) (ls : List LSym) (L : List UInt8) (code : Int) (w : World) (g : Good B K n k nb) (hB : I64 B) (hK : I64 K) (hl : Lies w la (symCells l)) (hall : ∀ y ∈ l, SymIn w y) (hm : l.length = m) (h60 : m ≤ 60) (hls : l.map MSym.says = ls) (hL : Laid w) (hdc : decCode B K ls = code) (hdr : decRes B K ls = L) :
    Calls Tryd.prog 9 #[.agg #[.int .i64 B, .int .i64 K], .slice la m lc] w fun e w' => ∃ (a' : Option Addr) (c' : Nat), e = .returned (.tuple #[.slice a' L.length c', .int .i64 code]) ∧ Lies w' a' (bs L) ∧ Below w.heap.size w w' := by
  have hBl : Below w.heap.size w (w.alloc (.cells #[.int .i64 B, .int .i64 K] 23)) := (Below.refl _ _).alloc (Nat.le_refl _) _
  obtain ⟨x0, x1⟩ := Box2.mk w (.int .i64 B) (.int .i64 K) 23
  have HPB : Shut ((w.alloc (.cells #[.int .i64 B, .int .i64 K] 23)).heap[w.heap.size]? = some (.cells #[.int .i64 B, .int .i64 K] 23 (0, 0))) := ⟨by rw [heap_alloc_eq, if_pos rfl]⟩
  have hC := cutCheck_any B K (w.alloc (.cells #[.int .i64 B, .int .i64 K] 23)) hB hK
  rw [chkP_good g] at hC
  have hR0 : Right nb k [] := ⟨g.b1, g.b2, g.k1, g.k2, (fun r hr => by cases hr), Sys.nil⟩
  have hBk : ∀ W, Calls Tryd.prog 20 #[.agg #[.int .i64 B, .int .i64 K]] W fun e w' => e = .returned (.int .i64 nb) ∧ Below W.heap.size W w' := fun W => by
    have h := cutBlocks_any B K W hB hK
    rw [g.eN] at h
    exact h
  have hNw : ∀ W, Calls Tryd.prog 23 #[.int .i64 nb, .int .i64 K] W fun e w' => e = .returned (.tuple #[.agg #[.int .i64 nb, .int .i64 K, .slice none 0 0], .int .i64 0]) ∧ Below W.heap.size W w' := fun W => by
    have hc : chkSys nb K [] = 0 := by rw [g.eK]; exact chk_of_right hR0
    have h := new_any nb K W (.agg #[.int .i64 nb, .int .i64 K, .slice none 0 0]) (by rw [if_pos hc])
    rw [hc] at h
    exact h
  have h60n : ¬ 60 < m := by omega
  have HLS : Shut (ls.length ≤ 60 ∧ ls.length = m) := ⟨by rw [← hls]; simp; omega, by rw [← hls]; simpa using hm⟩
  have HG := Shut.mk g
  have HX := Shut.mk (And.intro hl (And.intro hall (And.intro hm (And.intro hls (And.intro hL (And.intro hdc hdr))))))
  clear hl hall hm hls hL hdc hdr g
  go_enter Tryd.func9, Tryd.ntmps9
  go_wp2_with fail
  refine hC.mono ?_
  rintro e w1 ⟨rfl, hb⟩
  replace HPB := Shut.mk (blk_below HPB.out hb)
  have hb1 := hBl.trans (hb.mono hBl.size)
  clear hC hb x0 x1 hBl
  go_upto_region 6 with fail
  have x0 : w1.drew.cell? ⟨w.heap.size, 0, none⟩ = some (.int .i64 B) := by have := cell_blk HPB.out 0; simp at this; exact this
  have x1 : w1.drew.cell? ⟨w.heap.size, 1, none⟩ = some (.int .i64 K) := by have := cell_blk HPB.out 1; simp at this; exact this
  have HP1 : Shut (w1.drew.cell? ⟨w.heap.size, 0, none⟩ = some (.int .i64 B) ∧ w1.drew.cell? ⟨w.heap.size, 1, none⟩ = some (.int .i64 K)) := ⟨x0, x1⟩
  go_cut [7, 8] from 20 (fun s7 s8 wc => ∃ tb, s7 = .pointer (some ⟨tb, 0, none⟩) ∧ s8 = .int .i64 0 ∧ Shut (DecInv w wc B K w.heap.size tb nb k ls 0))
  case first =>
    have lt1 : w.heap.size < w1.heap.size := blk_lt HPB.out
    go_region_held3 (fun w' => w'.cell? ⟨w.heap.size, 0, none⟩ = some (.int .i64 B) ∧ w'.cell? ⟨w.heap.size, 1, none⟩ = some (.int .i64 K)) (first | exact ⟨by assumption, by assumption⟩ | exact ⟨cellA' (by assumption) _, cellA' (by assumption) _⟩ | (refine ⟨?_, ?_⟩ <;> (rw [World.cell?_setCell_other _ _ _ _ (by intro e; injection e; omega), World.cell?_setCell_other _ _ _ _ (by intro e; injection e; omega), World.cell?_setCell_other _ _ _ _ (by intro e; injection e; omega)]; assumption))) (first | (go_at_call 20; refine (hBk _).mono ?_; rintro e w4 ⟨rfl, hb4⟩; have v0 := cellC (b := w.heap.size) (o := 0) (v := .int .i64 B) (by first | assumption | exact cellA' (by assumption) _) hb4; have v1 := cellC (b := w.heap.size) (o := 1) (v := .int .i64 K) (by first | assumption | exact cellA' (by assumption) _) hb4; have lt4 := World.block_lt_of_cell? w4 _ v0; simp at lt4; first | (have tk : w4.heap[w1.heap.size]? = some (.cells #[.int .i64 0, .int .i64 0, .slice none 0 0] 53 (0, 0)) := (by first | exact (below_new3 (Y := w1.drew) hb4).1 | exact below_new3d (Y := w1) hb4); have t0 : w4.cell? ⟨w1.heap.size, 0, none⟩ = some (.int .i64 0) := (cells3 tk).1; have t1 : w4.cell? ⟨w1.heap.size, 1, none⟩ = some (.int .i64 0) := (cells3 tk).2.1; have t2 : w4.cell? ⟨w1.heap.size, 2, none⟩ = some (.slice none 0 0) := (cells3 tk).2.2; have t3 := frozen_blk tk 0; have t4 := frozen_blk tk 1; have t5 := frozen_blk tk 2) | skip) | (go_at_call 23; refine (hNw _).mono ?_; rintro e w5 ⟨rfl, hb5⟩; have v2 := cellC (b := w.heap.size) (o := 0) (v := .int .i64 B) (by first | assumption | exact cellA' (by assumption) _) hb5; have v3 := cellC (b := w.heap.size) (o := 1) (v := .int .i64 K) (by first | assumption | exact cellA' (by assumption) _) hb5; first | (have tk2 : w5.heap[w4.heap.size]? = some (.cells #[.int .i64 0, .int .i64 0, .slice none 0 0] 53 (0, 0)) := (below_new3 (Y := w4) hb5).1; have s0 : w5.cell? ⟨w4.heap.size, 0, none⟩ = some (.int .i64 0) := (cells3 tk2).1; have s1 : w5.cell? ⟨w4.heap.size, 1, none⟩ = some (.int .i64 0) := (cells3 tk2).2.1; have s2 : w5.cell? ⟨w4.heap.size, 2, none⟩ = some (.slice none 0 0) := (cells3 tk2).2.2; have s3 := frozen_blk tk2 0; have s4 := frozen_blk tk2 1; have s5 := frozen_blk tk2 2) | (have tk2 : w5.heap[w1.heap.size]? = some (.cells #[.int .i64 0, .int .i64 0, .slice none 0 0] 53 (0, 0)) := blk_below tk hb5; have s0 : w5.cell? ⟨w1.heap.size, 0, none⟩ = some (.int .i64 0) := (cells3 tk2).1; have s1 : w5.cell? ⟨w1.heap.size, 1, none⟩ = some (.int .i64 0) := (cells3 tk2).2.1; have s2 : w5.cell? ⟨w1.heap.size, 2, none⟩ = some (.slice none 0 0) := (cells3 tk2).2.2; have s3 := frozen_blk tk2 0; have s4 := frozen_blk tk2 1; have s5 := frozen_blk tk2 2) | skip))
    · have d4 : Below w1.heap.size w1 w4 := ((Below.refl w1.heap.size w1).drew).trans hb4
      have d5 := d4.trans (hb5.mono d4.size)
      have d6 : Below w1.heap.size w1 (w5.alloc (.cells #[.int .i64 nb, .int .i64 K, .slice none 0 0] 53)) := d5.alloc d5.size _
      have R0 : Shut (DecInv w (w5.alloc (.cells #[.int .i64 nb, .int .i64 K, .slice none 0 0] 53)) B K w.heap.size w5.heap.size nb k ls 0) := ⟨DecInv.start HG.out (by rw [heap_alloc_eq, if_pos rfl]) (blk_below HPB.out d6) (hb1.trans (d6.mono hb1.size)) (Nat.le_trans hb1.size d5.size)⟩
      clear hb4 hb5 d4 d5 d6
      go_wp2
      go_meet
      exact ⟨_, rfl, rfl, R0⟩
    · have d4 : Below w1.heap.size w1 w4 := ((Below.refl w1.heap.size w1).drew).trans hb4
      have d4' : Below w1.heap.size w1 (w4.alloc (.cells #[.int .i64 0, .int .i64 0, .slice none 0 0] 53)) := d4.alloc d4.size _
      have d5 := d4'.trans (hb5.mono d4'.size)
      have hle : w.heap.size ≤ w4.heap.size := Nat.le_trans hb1.size d4.size
      have d6 := (((hb1.trans (d5.mono hb1.size)).setCell (p := ⟨w4.heap.size, 0, none⟩) (by simpa using hle) (.int .i64 nb)).setCell (p := ⟨w4.heap.size, 1, none⟩) (by simpa using hle) (.int .i64 K)).setCell (p := ⟨w4.heap.size, 2, none⟩) (by simpa using hle) (.slice none 0 0)
      have hne : w.heap.size ≠ w4.heap.size := by have := blk_lt (blk_below HPB.out d4); omega
      have R0 := Shut.mk (DecInv.start (ls := ls) HG.out (set3_blk tk2) (block_set (block_set (block_set (blk_below HPB.out d5) hne) hne) hne) d6 hle)
      clear hb4 hb5 d4 d4' d5 d6
      go_wp2
      go_meet
      exact ⟨_, rfl, rfl, R0⟩
    · have d4' : Below w1.heap.size w1 ((w1.alloc (.cells #[.int .i64 0, .int .i64 0, .slice none 0 0] 53)).drew) := ((Below.refl _ _).alloc (Nat.le_refl _) _).drew
      have d4 := d4'.trans (hb4.mono d4'.size)
      have d5 := d4.trans (hb5.mono d4.size)
      have hle : w.heap.size ≤ w1.heap.size := hb1.size
      have d6 := (((hb1.trans (d5.mono hb1.size)).setCell (p := ⟨w1.heap.size, 0, none⟩) (by simpa using hle) (.int .i64 nb)).setCell (p := ⟨w1.heap.size, 1, none⟩) (by simpa using hle) (.int .i64 K)).setCell (p := ⟨w1.heap.size, 2, none⟩) (by simpa using hle) (.slice none 0 0)
      have hne : w.heap.size ≠ w1.heap.size := by omega
      have R0 := Shut.mk (DecInv.start (ls := ls) HG.out (set3_blk tk2) (block_set (block_set (block_set (blk_below HPB.out d5) hne) hne) hne) d6 hle)
      clear hb4 hb5 d4 d4' d5 d6
      go_wp2
      go_meet
      exact ⟨_, rfl, rfl, R0⟩
  case rest =>
    obtain ⟨tb, rfl, rfl, H0⟩ := hcut
    clear x0 x1 HP1 hBk hNw HPB hb1 hR0
    go_wp2
    go_loopw [33] (fun v wr => ∃ q : Nat, q ≤ m ∧ v = .int .i64 q ∧ Shut (DecInv w wr B K w.heap.size tb nb k ls q)) (fun v _ => m - (intOf v).toNat)
    case atStart => exact ⟨0, Nat.zero_le _, rfl, H0⟩
    case round =>
      clear H0
      obtain ⟨q, hq, rfl, HI⟩ := hrel
      by_cases hlt : q < m
      · obtain ⟨a, am, ac, rows, A, hS, hm, hR, hal, hpb, hbw, htb⟩ := HI.out
        have hql : q < l.length := by rw [HX.out.2.2.1]; exact hlt
        have hlw := HX.out.1.below hbw (Nat.le_refl _)
        obtain ⟨ab, ao, haa⟩ := hlw.some (k := 2 * q) (by rw [symCells_length]; omega)
        rw [haa] at hlw
        obtain ⟨a0, a1⟩ := sym_at hlw hql
        have hY := (HX.out.2.1 _ (List.getElem_mem hql)).below hbw
        have HDR : Shut (ls.drop q = l[q].says :: ls.drop (q + 1)) := ⟨by
          have e : ls[q]? = some l[q].says := by rw [← HX.out.2.2.2.1]; simp [hql]
          have hlt2 : q < ls.length := (List.getElem?_eq_some_iff.1 e).1
          rw [List.drop_eq_getElem_cons hlt2]
          rw [List.getElem?_eq_getElem hlt2] at e
          rw [Option.some.inj e]⟩
        generalize l[q]'hql = Y at *
        obtain ⟨v0, v1⟩ := Box2.mk wr (.int .i64 Y.id) Y.dv 39
        have bd : Below wr.heap.size wr (wr.alloc (.cells #[.int .i64 Y.id, Y.dv] 39)) := (Below.refl _ _).alloc (Nat.le_refl _) _
        have hS2 := hS.below bd
        have hp2 := blk_below hpb bd
        have hb2 := hbw.trans (bd.mono hbw.size)
        have hY2 := hY.below bd
        obtain ⟨s0, s1, s2, sf⟩ := hS2.cells
        have p0 := cell_blk hp2 0
        have p1 := cell_blk hp2 1
        simp at p0 p1
        have HST := Shut.mk (And.intro hS2 (And.intro hm (And.intro hR (And.intro hal (And.intro hp2 (And.intro hb2 htb))))))
        obtain ⟨W5, hW5⟩ : ∃ W5, wr.alloc (.cells #[.int .i64 Y.id, Y.dv] 39) = W5 := ⟨_, rfl⟩
        rw [hW5] at hY2 HST
        have HW5 := Shut.mk hW5
        have HYS := Shut.mk hY2
        clear hS hm hR hal hpb hbw htb HI hS2 hp2 hb2 bd hY hlw hW5 hY2 sf
        obtain ⟨yid, ya, yc, yd⟩ := Y
        simp only [MSym.dv] at *
        subst haa
        by_cases hck : chkS B K yid yd.length = 0
        · obtain ⟨i, hi, hi9, hdk⟩ := chkS_zero HG.out hck
          subst hi
          have hck2 := hck
          rw [hdk] at hck2
          have hWt := with_good n nb k am i a ac rows A B K ya yc yd W5 HG.out hB hK HST.out.1.2.1 (fun x hx => (HST.out.1.2.2.1 x hx).1) HST.out.2.1 HST.out.1.2.2.2 HST.out.2.2.1 HYS.out.1 hdk hi9 (HX.out.2.2.2.2.1.below HST.out.2.2.2.2.2.1) hck2
          have HDK := Shut.mk hdk
          have HCK := Shut.mk hck
          rw [← hdk] at hWt
          have HRO : Shut (rowOf nb ((i : Int), yd) = (maskL nb i, yd)) := ⟨by simp [rowOf]⟩
          clear hck hck2 hdk
          go_wp2_with fail
          rw [HW5.out]
          rw [HDK.out] at hWt ⊢
          refine hWt.mono ?_
          rintro e w6 ⟨hcase, hb6⟩
          have hS6 := HST.out.1.below hb6
          obtain ⟨t0, t1, t2, tf⟩ := hS6.cells
          have f0 := tf 0
          have f1 := tf 1
          have f2 := tf 2
          have hbw6 := HST.out.2.2.2.2.2.1.trans (hb6.mono HST.out.2.2.2.2.2.1.size)
          have htb := HST.out.2.2.2.2.2.2
          rcases hcase with ⟨hno, rfl⟩ | ⟨P, a', c', rows', hP, rfl, hl6, hr6, hs6, hn6⟩
          · have hst : stepL B K nb A ((i : Int), yd) = (9, []) := stepL_torn HCK.out (by rw [HRO.out]; exact hno)
            have hdd := dec_code_err HG.out HLS.out.1 (q := 9) (by rw [HST.out.2.2.2.1, HDR.out]; show allL B K nb A (((i : Int), yd) :: _) = _; rw [allL_bad (by rw [hst]; decide), hst]) (by decide)
            have HDD : Shut (code = 9 ∧ L = []) := ⟨by rw [← HX.out.2.2.2.2.2.1]; exact hdd.1, by rw [← HX.out.2.2.2.2.2.2]; exact hdd.2⟩
            have hF := ((hbw6.setCell (p := ⟨tb, 0, none⟩) (by simpa using htb) (.int .i64 0)).setCell (p := ⟨tb, 1, none⟩) (by simpa using htb) (.int .i64 0)).setCell (p := ⟨tb, 2, none⟩) (by simpa using htb) (.slice none 0 0)
            clear hno hst hdd hWt hS6 tf v0 v1 s0 s1 s2 p0 p1 a0 a1 hb6
            go_wp2
            go_ret2
            exact ⟨none, 0, by rw [HDD.out.1, HDD.out.2]; rfl, by rw [HDD.out.2]; exact Lies.nil _ _, hF⟩
          · obtain ⟨m', hm'⟩ : ∃ m', rows'.length = m' := ⟨_, rfl⟩
            have hst : stepL B K nb A ((i : Int), yd) = (0, P) := stepL_ok HCK.out (by rw [HRO.out]; exact hP)
            have hRP := (addL_right HST.out.2.2.1 ⟨maskL_length nb i, HDK.out⟩ hP).1
            have hne : ∀ c o, a' = some ⟨c, o, none⟩ → c ≠ tb := fun c o e => by
              have h1 := hn6 c o e
              have h2 := blk_lt HST.out.1.1
              omega
            have hpl := blk_below HST.out.2.2.2.2.1 hb6
            have R1 : Shut (DecInv w (((w6.setCell ⟨tb, 0, none⟩ (.int .i64 nb)).setCell ⟨tb, 1, none⟩ (.int .i64 k)).setCell ⟨tb, 2, none⟩ (.slice a' m' c')) B K w.heap.size tb nb k ls (q + 1)) := ⟨a', m', c', rows', P, hS6.put hl6 hr6 hs6 hne hRP, hm', hRP, by rw [HST.out.2.2.2.1, HDR.out]; show allL B K nb A (((i : Int), yd) :: _) = _; rw [allL_go (by rw [hst]), hst], by
                by_cases hpt : w.heap.size = tb
                · exfalso
                  have h1 := HST.out.1.1
                  have h2 := HST.out.2.2.2.2.1
                  rw [hpt] at h2
                  rw [h1] at h2
                  simp at h2
                · exact block_set (block_set (block_set hpl hpt) hpt) hpt, ((hbw6.setCell (p := ⟨tb, 0, none⟩) (by simpa using htb) (.int .i64 nb)).setCell (p := ⟨tb, 1, none⟩) (by simpa using htb) (.int .i64 k)).setCell (p := ⟨tb, 2, none⟩) (by simpa using htb) (.slice a' m' c'), htb⟩
            rw [hm']
            clear hP hst hRP hne hpl hWt hS6 tf v0 v1 s0 s1 s2 p0 p1 a0 a1 hb6 hl6 hr6 hs6 hn6 hm' hbw6
            go_wp2
            go_roundw
            case rel => exact ⟨q + 1, by omega, by go_num, R1⟩
            case measure => simp [intOf]; omega
        · have hWt := with_chk nb k am a ac B K yid ya yd.length yc W5 hB hK HYS.out.2 hck
          obtain ⟨qc, hqc⟩ : ∃ qc, chkS B K yid yd.length = qc := ⟨_, rfl⟩
          have HCK := Shut.mk hck
          have HQC := Shut.mk hqc
          rw [hqc] at hWt hck
          have hq1 : (qc != 0) = true := by simpa using hck
          clear hqc hck
          go_wp2_with fail
          rw [HW5.out]
          refine hWt.mono ?_
          rintro e w6 ⟨rfl, hb6⟩
          have hS6 := HST.out.1.below hb6
          obtain ⟨t0, t1, t2, tf⟩ := hS6.cells
          have f0 := tf 0
          have f1 := tf 1
          have f2 := tf 2
          have hbw6 := HST.out.2.2.2.2.2.1.trans (hb6.mono HST.out.2.2.2.2.2.1.size)
          have htb := HST.out.2.2.2.2.2.2
          have hst : stepL B K nb A (yid, yd) = (qc, []) := by rw [← HQC.out]; exact stepL_chk HCK.out
          have hqn : qc ≠ 0 := by rw [← HQC.out]; exact HCK.out
          have hdd := dec_code_err HG.out HLS.out.1 (q := qc) (by rw [HST.out.2.2.2.1, HDR.out]; show allL B K nb A ((yid, yd) :: _) = _; rw [allL_bad (by rw [hst]; exact hqn), hst]) hqn
          have HDD : Shut (code = qc ∧ L = []) := ⟨by rw [← HX.out.2.2.2.2.2.1]; exact hdd.1, by rw [← HX.out.2.2.2.2.2.2]; exact hdd.2⟩
          have hF := ((hbw6.setCell (p := ⟨tb, 0, none⟩) (by simpa using htb) (.int .i64 0)).setCell (p := ⟨tb, 1, none⟩) (by simpa using htb) (.int .i64 0)).setCell (p := ⟨tb, 2, none⟩) (by simpa using htb) (.slice none 0 0)
          clear hst hdd hWt hS6 tf v0 v1 s0 s1 s2 p0 p1 a0 a1 hb6 hqn
          go_wp2
          go_ret2
          exact ⟨none, 0, by rw [HDD.out.1, HDD.out.2]; rfl, by rw [HDD.out.2]; exact Lies.nil _ _, hF⟩
      · obtain ⟨a, am, ac, rows, A, hS, hm, hR, hal, hpb, hbw, htb⟩ := HI.out
        have hls : ls.length ≤ 60 := HLS.out.1
        have hdr : ls.drop q = [] := List.drop_of_length_le (by rw [HLS.out.2]; omega)
        rw [hdr] at hal
        obtain ⟨hsh, hlo⟩ := dec_code_end HG.out hls (A := A) hal
        rw [HX.out.2.2.2.2.2.1, HX.out.2.2.2.2.2.2] at hsh hlo
        have hAl : A.length = am := by rw [← hm, ← hS.2.2.2]; simp
        rw [hAl] at hsh hlo
        obtain ⟨s0, s1, s2, sf⟩ := hS.cells
        have hb24 := HG.out.b2
        have ham : am ≤ 24 := by have := hR.few; omega
        have HSH := Shut.mk (And.intro hsh hlo)
        have HST := Shut.mk (And.intro hS (And.intro hm (And.intro hR hpb)))
        clear hsh hlo hal hdr hls hS hm hR hpb sf HI hAl
        by_cases hle : am < nb
        · have hdd := HSH.out.1 hle
          have HDD := Shut.mk hdd
          have hlei : (am : Int) < nb := by omega
          clear hdd HSH
          go_wp2
          go_ret2
          exact ⟨none, 0, by rw [HDD.out.1, HDD.out.2]; rfl, by rw [HDD.out.2]; exact Lies.nil _ _, hbw⟩
        · have HDD := Shut.mk (HSH.out.2 hle)
          have hKn := knownS_right nb k am a ac rows A wr HST.out.1.2.1 (fun x hx => (HST.out.1.2.2.1 x hx).1) (fun x hx => (HST.out.1.2.2.1 x hx).2) HST.out.2.1 HST.out.1.2.2.2 HST.out.2.2.1
          clear HSH
          go_wp2_with fail
          refine hKn.mono ?_
          rintro e w7 ⟨g7, bl, rfl, hl7, hin7, hcp7, hkn7, hb7⟩
          have hpb7 := blk_below HST.out.2.2.2 hb7
          have p0 := cell_blk hpb7 0
          have p1 := cell_blk hpb7 1
          simp at p0 p1
          have hbl : bl.length = nb := by have := congrArg List.length hkn7; rw [knownL_length] at this; simpa using this
          have hJ := join_any B K (some ⟨g7, 0, none⟩) nb bl w7 hB hK (by unfold maxLen; omega) hl7 hin7 (fun b hb => (hcp7 b hb).1)
          rw [hkn7, ← HDD.out.1, ← HDD.out.2, hbl] at hJ
          replace hbw := hbw.trans (hb7.mono hbw.size)
          clear hKn hl7 hin7 hcp7 hkn7 hb7 hpb7 s0 s1 s2 hbl
          go_wp2_with fail
          refine hJ.mono ?_
          rintro e w8 ⟨a8, rfl, hl8, hb8⟩
          replace hbw := hbw.trans (hb8.mono hbw.size)
          clear hJ hb8 p0 p1
          go_wp2
          go_ret2
          exact ⟨a8, _, rfl, hl8, hbw⟩

/-- solve.Decode of any plan and symbols -/
theorem decode_any (B K : Int) (la : Option Addr) (lc : Nat) (l : List MSym) (w : World) (hB : I64 B) (hK : I64 K) (hl : Lies w la (symCells l)) (hall : ∀ y ∈ l, SymIn w y) (hm : l.length ≤ maxLen) (hL : Laid w) :
    Calls Tryd.prog 9 #[.agg #[.int .i64 B, .int .i64 K], .slice la l.length lc] w fun e w' => ∃ (a' : Option Addr) (c' : Nat), e = .returned (.tuple #[.slice a' (decRes B K (l.map MSym.says)).length c', .int .i64 (decCode B K (l.map MSym.says))]) ∧ Lies w' a' (bs (decRes B K (l.map MSym.says))) ∧ Below w.heap.size w w' := by
  by_cases hc : chkP B K = 0
  · obtain ⟨n, k, nb, g⟩ := good_of hc
    by_cases h60 : l.length ≤ 60
    · exact decode_good B K n k nb l.length la lc l _ _ _ w g hB hK hl hall rfl h60 rfl hL rfl rfl
    · have e : decRes B K (l.map MSym.says) = [] := by rw [decRes, if_neg (by rw [hc]; simp), if_pos (by simp; omega)]
      rw [e]
      refine (decode_many B K n k nb la l.length lc (l.map MSym.says) w g hB hK hm (by simp) (by omega)).mono ?_
      rintro e w' ⟨rfl, hb⟩
      exact ⟨none, 0, rfl, Lies.nil _ _, hb⟩
  · have e : decRes B K (l.map MSym.says) = [] := if_pos hc
    rw [e]
    refine (decode_plan B K la l.length lc (l.map MSym.says) w hB hK hc).mono ?_
    rintro e w' ⟨rfl, hb⟩
    exact ⟨none, 0, rfl, Lies.nil _ _, hb⟩

end Go.Proofs.YtkiejflgphjfjacDoor

/-
  The reference's CutUp: its contract.
-/
namespace Go.Proofs.YtkiejflgphjfjacDoor
open Go.RowKit
set_option linter.unusedVariables false
set_option linter.unusedSimpArgs false

/-- the value of a block's first j bytes, then noughts -/
def pieceTo (k i j : Nat) (c : List UInt8) (t : Nat) : Value := .int .u8 (((if t < j then (c[i * k + t]?).getD 0 else 0) : UInt8).toNat : Int)

theorem pieceTo_all {k i : Nat} {c : List UInt8} {t : Nat} (h : t < k) : pieceTo k i k c t = u8at (piece k i c) t := by
  simp [pieceTo, u8at, piece_get c h, h]

/-- the values of the blocks that are laid at A -/
def valsAt (A : Nat → Nat) (k m : Nat) : List Value := (List.range m).map fun j => .slice (some ⟨A j, 0, none⟩) k k

def UpInv (w wr : World) (g0 n k : Nat) (c : List UInt8) (v : Value) (m : Nat) : Prop :=
  ∃ A : Nat → Nat, wr.ownsRow (g0 + 1) 36 1 v m (valsAt A k m) ∧ (∀ j, j < m → wr.rowIs (A j) 5 k (u8at (piece k j c))) ∧ Boxed wr g0 n k ∧ Below w.heap.size w wr

/-- within a round: the block at g has its first t bytes -/
def UpMid (wr ws : World) (k m : Nat) (c : List UInt8) (t : Nat) : Prop := ws.rowIs wr.heap.size 5 k (pieceTo k m t c) ∧ Below wr.heap.size wr ws

theorem UpMid.start (wr : World) (k m : Nat) (c : List UInt8) : UpMid wr (wr.alloc (.cells (madeCells #[.int .u8 0] k) 5)) k m c 0 := by
  refine ⟨(World.rowIs_made wr _ k _).congr fun i hi => ?_, (Below.refl _ _).alloc (Nat.le_refl _) _⟩
  simp [pieceTo]

theorem UpMid.set {wr ws : World} {k m t : Nat} {c : List UInt8} (h : UpMid wr ws k m c t) (hc : m * k + t < c.length) : UpMid wr (ws.setCell ⟨wr.heap.size, t, none⟩ (.int .u8 (c[m * k + t].toNat : Int))) k m c (t + 1) := by
  refine ⟨(h.1.set t _).congr fun i hi => ?_, h.2.setCell (Nat.le_refl _) _⟩
  unfold pieceTo
  by_cases e : i = t
  · subst e
    simp [hc]
  · rw [if_neg e]
    by_cases h : i < t
    · rw [if_pos h, if_pos (by omega)]
    · rw [if_neg h, if_neg (by omega)]

theorem UpMid.skip {wr ws : World} {k m t : Nat} {c : List UInt8} (h : UpMid wr ws k m c t) (hc : ¬ m * k + t < c.length) : UpMid wr ws k m c (t + 1) := by
  refine ⟨h.1.congr fun i hi => ?_, h.2⟩
  unfold pieceTo
  by_cases e : i = t
  · subst e
    have : c[m * k + i]? = none := List.getElem?_eq_none (by omega)
    simp [this]
  · by_cases h : i < t
    · rw [if_pos h, if_pos (by omega)]
    · rw [if_neg h, if_neg (by omega)]

/-- a row of bytes is no row of blocks -/
theorem own_ne {w : World} {B : Nat} {v : Value} {n : Nat} {xs : List Value} (h : w.ownsRow B 36 1 v n xs) {b k : Nat} {f : Nat → Value} (hr : w.rowIs b 5 k f) : some b ≠ v.ownBlock := by
  rcases h.2 with ⟨rfl, _⟩ | ⟨g, cap, cur, rfl, hbg, hg, hnc, hcm, hcs, htake⟩
  · intro e; cases e
  · intro e
    simp only [Value.ownBlock, Option.some.injEq] at e
    subst e
    obtain ⟨c, hc, _⟩ := hr
    rw [hg] at hc
    simp at hc

theorem valsAt_succ {A : Nat → Nat} {k m b : Nat} : valsAt A k m ++ [.slice (some ⟨b, 0, none⟩) k k] = valsAt (fun j => if j = m then b else A j) k (m + 1) := by
  unfold valsAt
  rw [List.range_succ, List.map_append]
  congr 1
  · apply List.map_congr_left
    intro j hj
    have : j < m := by simpa using hj
    simp [show ¬ j = m by omega]
  · simp

theorem up_step {w wr ws w1 : World} {g0 n k m : Nat} {c : List UInt8} {v v' : Value} {A : Nat → Nat} {o : Obj} (hg0 : w.heap.size ≤ g0) (h1 : wr.ownsRow (g0 + 1) 36 1 v m (valsAt A k m)) (h2 : ∀ j, j < m → wr.rowIs (A j) 5 k (u8at (piece k j c))) (h3 : Boxed wr g0 n k) (h4 : Below w.heap.size w wr)
    (hm : UpMid wr ws k m c k) (ho : w1.ownsRow (g0 + 1) 36 1 v' (m + 1) (valsAt A k m ++ [.slice (some ⟨wr.heap.size, 0, none⟩) k k])) (hg : (ws.alloc o).grownBy w1 v.ownBlock) : UpInv w w1 g0 n k c v' (m + 1) := by
  obtain ⟨m1, m2⟩ := hm
  have m3 : (ws.alloc o).rowIs wr.heap.size 5 k (pieceTo k m k c) := m1.alloc o
  have b1 : Below wr.heap.size wr (ws.alloc o) := m2.alloc m2.size o
  have o1 := own_below h1 b1
  refine ⟨fun j => if j = m then wr.heap.size else A j, by rw [← valsAt_succ]; exact ho, fun j hj => ?_, ?_, ?_⟩
  · by_cases e : j = m
    · subst e
      simp only [if_pos]
      exact (m3.of_block (hg.block _ m3.lt (own_ne o1 m3))).congr fun i hi => pieceTo_all hi
    · simp only [if_neg e]
      have r := h2 j (by omega)
      have r2 : (ws.alloc o).rowIs (A j) 5 k (u8at (piece k j c)) := r.of_block (b1.block _ r.lt)
      exact r2.of_block (hg.block _ r2.lt (own_ne o1 r2))
  · have x := h3.below b1
    have hne : some g0 ≠ v.ownBlock := fun e => by
      have := (o1.lt g0 e.symm).1
      omega
    have hlt := World.block_lt_of_cell? _ _ x.1
    have hcell : ∀ i, w1.cell? ⟨g0, i, none⟩ = (ws.alloc o).cell? ⟨g0, i, none⟩ := fun i => by
      simp only [World.cell?]
      rw [hg.block g0 hlt hne]
    exact ⟨by rw [hcell]; exact x.1, by rw [hcell]; exact x.2⟩
  · have b2 : Below w.heap.size w (ws.alloc o) := h4.trans (b1.mono h4.size)
    exact b2.grown hg b2.size fun g hg' => by have := (o1.lt g hg').1; omega

def upBl (A : Nat → Nat) (nb k : Nat) (c : List UInt8) : List Blk := (List.range nb).map fun j => ⟨some ⟨A j, 0, none⟩, k, piece k j c⟩

theorem upBl_val (A : Nat → Nat) (nb k : Nat) (c : List UInt8) : (upBl A nb k c).map Blk.val = valsAt A k nb := by
  simp [upBl, valsAt, Blk.val, piece_length, Function.comp_def]

theorem upBl_l (A : Nat → Nat) (nb k : Nat) (c : List UInt8) : (upBl A nb k c).map Blk.l = cutL nb k c := by
  simp [upBl, cutL, Function.comp_def]

end Go.Proofs.YtkiejflgphjfjacDoor

/-
  The reference's SymbolOf: its contract.
-/
namespace Go.Proofs.YtkiejflgphjfjacDoor
open Go.RowKit
set_option linter.unusedVariables false
set_option linter.unusedSimpArgs false

theorem symCode_cut {B K id : Int} {c : List UInt8} (h : cutCode B K c ≠ 0) : symCode B K c id = cutCode B K c := if_pos h
theorem symCode_id {B K id : Int} {c : List UInt8} (h : cutCode B K c = 0) (hi : id < 0 ∨ 9999 < id) : symCode B K c id = 3 := by rw [symCode, if_neg (by simp [h]), if_pos hi]
theorem symCode_ok {B K id : Int} {c : List UInt8} (h : cutCode B K c = 0) (hi : ¬ (id < 0 ∨ 9999 < id)) : symCode B K c id = 0 := by rw [symCode, if_neg (by simp [h]), if_neg hi]

/-- the second box is the call's own to write -/
theorem frozen2 {w w1 : World} {o : Obj} {cs : Array Value} {u : TypeId} (hb : Below ((w.alloc o).alloc (.cells cs u)).heap.size ((w.alloc o).alloc (.cells cs u)) w1) :
    ∀ j, w1.frozen? ⟨w.heap.size + 1, j, none⟩ = false := by
  intro j
  rw [(bcell hb).2 _ _ (by simp)]
  have e : ((w.alloc o).alloc (.cells cs u)).heap[w.heap.size + 1]? = some (.cells cs u (0, 0)) := by rw [heap_alloc_eq, if_pos (by simp)]
  simp only [World.frozen?, e]
  simp

/-- both cells of a box, written -/
theorem set2 {w1 : World} {g : Nat} {u v : Value} (h0 : w1.cell? ⟨g, 0, none⟩ = some u) (h1 : w1.cell? ⟨g, 1, none⟩ = some v) (u' v' : Value) :
    ((w1.setCell ⟨g, 0, none⟩ u').setCell ⟨g, 1, none⟩ v').cell? ⟨g, 0, none⟩ = some u' ∧ ((w1.setCell ⟨g, 0, none⟩ u').setCell ⟨g, 1, none⟩ v').cell? ⟨g, 1, none⟩ = some v' := by
  have e0 : (w1.setCell ⟨g, 0, none⟩ u').cell? ⟨g, 0, none⟩ = some u' := World.cell?_setCell_same _ _ _ h0
  have e1 : (w1.setCell ⟨g, 0, none⟩ u').cell? ⟨g, 1, none⟩ = some v := by rw [World.cell?_setCell_other _ _ _ _ (by intro e; cases e)]; exact h1
  exact ⟨by rw [World.cell?_setCell_other _ _ _ _ (by intro e; cases e)]; exact e0, World.cell?_setCell_same _ _ _ e1⟩

theorem sizes2 {w w1 : World} {o : Obj} {o2 : Obj} (hb : Below ((w.alloc o).alloc o2).heap.size ((w.alloc o).alloc o2) w1) : w.heap.size + 1 < w1.heap.size := by
  have := hb.size
  simp at this
  omega

theorem perm_ints {L : List Int} {m : List Nat} (h : L.Perm (ints m)) : ∃ l, L = ints l ∧ l.Perm m := by
  have hc : ∀ x ∈ L, ((x.toNat : Nat) : Int) = x := fun x hx => by
    obtain ⟨j, _, rfl⟩ := List.mem_map.1 (h.mem_iff.1 hx)
    simp
  refine ⟨L.map Int.toNat, ?_, ?_⟩
  · unfold ints
    rw [List.map_map]
    conv => lhs; rw [← List.map_id L]
    exact List.map_congr_left fun x hx => (hc x hx).symm
  · have := h.map Int.toNat
    unfold ints at this
    rw [List.map_map] at this
    simpa [Function.comp_def] using this

/-- the symbol in the making -/
def SymInv (w2 wr : World) (g k i : Nat) (acc : List UInt8) : Prop :=
  Below w2.heap.size w2 wr ∧ g < wr.heap.size ∧ wr.cell? ⟨g, 0, none⟩ = some (.int .i64 i) ∧ (∃ (a : Option Addr) (c : Nat), wr.cell? ⟨g, 1, none⟩ = some (.slice a k c) ∧ Lies wr a (bs acc) ∧ ∀ b o, a = some ⟨b, o, none⟩ → w2.heap.size ≤ b) ∧ (∀ j, wr.frozen? ⟨g, j, none⟩ = false) ∧ acc.length = k

theorem SymInv.start (w2 : World) (k i : Nat) : SymInv w2 ((w2.alloc (.cells (madeCells #[.int .u8 0] k) 5)).alloc (.cells #[.int .i64 i, .slice (some ⟨w2.heap.size, 0, none⟩) k k] 39)) (w2.heap.size + 1) k i (zeros k) := by
  have hx := BoxS.mk (w2.alloc (.cells (madeCells #[.int .u8 0] k) 5)) i (.slice (some ⟨w2.heap.size, 0, none⟩) k k) 39
  have e : (w2.alloc (.cells (madeCells #[.int .u8 0] k) 5)).heap.size = w2.heap.size + 1 := by simp
  rw [e] at hx
  have hr := World.rowIs_made w2 (.int .u8 0) k 5
  have hl := (rowIs_lies hr).alloc (.cells #[.int .i64 i, .slice (some ⟨w2.heap.size, 0, none⟩) k k] 39)
  refine ⟨((Below.refl _ _).alloc (Nat.le_refl _) _).alloc (by simp) _, by simp, hx.1, ⟨_, _, hx.2, ?_, fun b o e => by cases e; exact Nat.le_refl _⟩, frozen2 (Below.refl _ _), by simp [zeros]⟩
  have e2 : bs (zeros k) = (List.range k).map fun _ => Value.int .u8 0 := by
    apply List.ext_getElem
    · simp [bs, zeros]
    · intro j h1 h2
      simp [bs, zeros]
  rw [e2]
  exact hl

/-- the reference's Sum of two blocks that stand in a list laid anew -/
theorem sum_two (w : World) (a : Option Addr) (ca : Nat) (b : Option Addr) (cb : Nat) (x y : List UInt8) (k : Nat) (hk : k ≤ 16) (hx : x.length = k) (hy : y.length = k) (ha : Lies w a (bs x)) (hb : Lies w b (bs y)) :
    Calls Tryd.prog 60 #[.slice (some ⟨w.heap.size, 0, none⟩) 2 2] (w.alloc (.cells #[.slice a k ca, .slice b k cb] 36)).drew fun e w' =>
      ∃ (p : Option Addr) (q : Nat), e = .returned (.slice p k q) ∧ Lies w' p (bs (xorl x y)) ∧ Below w.heap.size w w' ∧ ∀ c o, p = some ⟨c, o, none⟩ → w.heap.size ≤ c := by
  have hl : Lies (w.alloc (.cells #[.slice a k ca, .slice b k cb] 36)).drew (some ⟨w.heap.size, 0, none⟩) ([⟨a, ca, x⟩, ⟨b, cb, y⟩].map Blk.val) := by
    have h := (Lies.alloc_new w #[.slice a k ca, .slice b k cb] 36).drewN 1
    have e : ([⟨a, ca, x⟩, ⟨b, cb, y⟩].map Blk.val) = (#[.slice a k ca, .slice b k cb] : Array Value).toList := by simp [Blk.val, hx, hy]
    rw [e]
    exact h
  have hbw : Below w.heap.size w (w.alloc (.cells #[.slice a k ca, .slice b k cb] 36)).drew := ((Below.refl _ _).alloc (Nat.le_refl _) _).drew
  have hall : AllIn (w.alloc (.cells #[.slice a k ca, .slice b k cb] 36)).drew [⟨a, ca, x⟩, ⟨b, cb, y⟩] := by
    intro z hz
    simp at hz
    rcases hz with rfl | rfl
    · exact ⟨ha.below hbw (Nat.le_refl _), by unfold maxLen; simp [hx]; omega⟩
    · exact ⟨hb.below hbw (Nat.le_refl _), by unfold maxLen; simp [hy]; omega⟩
  have h := refSum_any (some ⟨w.heap.size, 0, none⟩) 2 k [⟨a, ca, x⟩, ⟨b, cb, y⟩] _ (by simp) hl hall (by simp) (by
    intro i hi
    match i, hi with
    | 0, _ => exact hx
    | 1, _ => exact hy) hk
  refine h.mono ?_
  rintro e w' ⟨v, rfl, hown, hb'⟩
  obtain ⟨p, q, rfl, hl', hn⟩ := own_lies hown
  have hsum : sumBl [⟨a, ca, x⟩, ⟨b, cb, y⟩] = xorl x y := by
    simp only [sumBl, sumOf, List.map_cons, List.map_nil, List.headD_cons, sumTo]
    congr 1
    apply List.ext_getElem
    · rw [xorl_length _ _ (by simp [zeros])]; simp [zeros]
    · intro t h1 h2
      simp [xorl, zeros]
  rw [hsum] at hl'
  refine ⟨p, q, rfl, hl', hbw.trans (hb'.mono hbw.size), ?_⟩
  rintro c o rfl
  have := (hown.lt c rfl).1
  simp at this
  omega

theorem SymInv.next {w2 wr w4 : World} {g k i q : Nat} {acc acc' : List UInt8} {p : Option Addr} (hI : SymInv w2 wr g k i acc) (hb : Below wr.heap.size wr w4) (hl : Lies w4 p (bs acc')) (hk : acc'.length = k) (hg : w2.heap.size ≤ g)
    (hp : ∀ c o, p = some ⟨c, o, none⟩ → wr.heap.size ≤ c) : SymInv w2 (w4.setCell ⟨g, 1, none⟩ (.slice p k q)) g k i acc' := by
  obtain ⟨i1, i2, i3, ⟨da, dc, i4, i5, i8⟩, i6, i7⟩ := hI
  have s0 := ((bcell hb).1 g 0 i2).trans i3
  have s1 := ((bcell hb).1 g 1 i2).trans i4
  refine ⟨(i1.trans (hb.mono i1.size)).setCell (by simpa using hg) _, by have := hb.size; simp; omega, ?_, ⟨p, q, World.cell?_setCell_same _ _ _ s1, ?_, fun b o e => by have := hp b o e; have := i1.size; omega⟩, fun j => ?_, hk⟩
  · rw [World.cell?_setCell_other _ _ _ _ (by intro e; cases e)]; exact s0
  · exact lies_grown (grown_setCell w4 g 1 _) hl fun c o e => by have := hp c o e; omega
  · have := ((bcell hb).2 g j i2).trans (i6 j)
    simpa using this

end Go.Proofs.YtkiejflgphjfjacDoor

/-
  'picked', the closed fact of chapter 3's statements: its contract.
-/
namespace Go.Proofs.YtkiejflgphjfjacDoor
open Go.RowKit
set_option linter.unusedVariables false
set_option linter.unusedSimpArgs false

/-- the answer's bools -/
def boolsOf (b : Nat) (l : List Nat) : List Bool := (List.range b).map fun k => decide (k ∈ l)

theorem boolsOf_length (b : Nat) (l : List Nat) : (boolsOf b l).length = b := by simp [boolsOf]

theorem row_bools {w : World} {g b : Nat} {t : TypeId} {l : List Nat} (h : w.rowIs g t b (inAt l)) : Lies w (some ⟨g, 0, none⟩) ((boolsOf b l).map Value.bool) := by
  have := rowIs_lies h
  rw [boolsOf, List.map_map]
  exact this

theorem nx7 : nx 7 = 20108 := by decide

theorem chosen_7 : chosen 3 7 = [2, 0] := by
  have h : (coll 3 (nx 7) 3).length = many 3 (nx 7) := by rw [nx7]; decide
  rw [chosen_high (by decide) h, nx7]
  decide

theorem bools_7 : boolsOf 3 (chosen 3 7) = [true, false, true] := by rw [chosen_7]; decide
theorem bools_1 : boolsOf 3 (chosen 3 1) = [false, true, false] := by rw [chosen_low (by decide)]; decide

/-- so many of the first are true -/
theorem count_next {xs : List Bool} {k : Nat} (h : k < xs.length) : (xs.take (k + 1)).count true = (xs.take k).count true + if xs[k] then 1 else 0 := by
  rw [List.take_succ_eq_append_getElem h, List.count_append]
  cases xs[k] <;> simp

end Go.Proofs.YtkiejflgphjfjacDoor

/-
  slices.Index and slices.Contains at bytes: the contract of each.
-/
namespace Go.Proofs.YtkiejflgphjfjacDoor
open Go.RowKit
set_option linter.unusedVariables false
set_option linter.unusedSimpArgs false

end Go.Proofs.YtkiejflgphjfjacDoor
