import Derived.Test.YtakkajjoeimkdaaGreatDoorPart13
import Derived.Test.YtakkajjoeimkdaaGreatDoorPart14
import Derived.Test.YtakkajjoeimkdaaGreatDoorPart1
import Derived.Test.YtakkajjoeimkdaaGreatDoorPart7
import Derived.Test.YtakkajjoeimkdaaGreatDoorPart8
namespace Go.Proofs.YtakkajjoeimkdaaGreatDoor
open Go.RowKit
set_option linter.unusedVariables false
set_option linter.unusedSimpArgs false

structure MSym where
 id : Int
 a : Option Addr
 c : Nat
 d : List UInt8

def MSym.dv (y : MSym) : Value := .slice y.a y.d.length y.c
def MSym.says (y : MSym) : LSym := (y.id, y.d)
def SymIn (w : World) (y : MSym) : Prop := Lies w y.a (bs y.d) ∧ y.d.length ≤ maxLen

theorem SymIn.below {w w' : World} {y : MSym} (h : SymIn w y) (hb : Below w.heap.size w w') : SymIn w' y := ⟨h.1.below hb (Nat.le_refl _), h.2⟩

def symCells (l : List MSym) : List Value := l.flatMap fun y => [.int .i64 y.id, y.dv]

theorem symCells_length (l : List MSym) : (symCells l).length = 2 * l.length := by
 induction l with
 | nil => rfl
 | cons r l ih => simp only [symCells, List.flatMap_cons, List.length_append, List.length_cons, List.length_nil] at ih ⊢; omega

theorem symCells_append (l m : List MSym) : symCells (l ++ m) = symCells l ++ symCells m := by simp [symCells]

theorem symCells_get {l : List MSym} : ∀ {j : Nat} (hj : j < l.length), (symCells l)[2 * j]? = some (.int .i64 l[j].id) ∧ (symCells l)[2 * j + 1]? = some l[j].dv := by
 induction l with
 | nil => intro j hj; simp at hj
 | cons r l ih =>
  intro j hj
  have e : symCells (r :: l) = .int .i64 r.id :: r.dv :: symCells l := rfl
  cases j with
  | zero => rw [e]; exact ⟨rfl, rfl⟩
  | succ j =>
   have := ih (j := j) (by simpa using hj)
   rw [e, show 2 * (j + 1) = 2 * j + 1 + 1 by omega]
   simpa using this

theorem sym_at {w : World} {b o : Nat} {l : List MSym} (h : Lies w (some ⟨b, o, none⟩) (symCells l)) {j : Nat} (hj : j < l.length) : w.cell? ⟨b, o + j * 2, none⟩ = some (.int .i64 l[j].id) ∧ w.cell? ⟨b, o + j * 2 + 1, none⟩ = some l[j].dv := by
 have h0 := h.at (symCells_get hj).1
 have h1 := h.at (symCells_get hj).2
 rw [Nat.mul_comm] at h0
 rw [Nat.mul_comm, ← Nat.add_assoc] at h1
 exact ⟨h0, h1⟩

theorem nB_good' {B K : Int} {n k nb : Nat} (g : Good B K n k nb) : (nB B K).toNat = nb := by rw [g.eN]; simp

def DecInv (w wr : World) (B K : Int) (pb tb nb k : Nat) (ls : List LSym) (q : Nat) : Prop :=
 ∃ (a : Option Addr) (m c : Nat) (rows : List MRow) (A : List LRow), SysBox wr tb nb k a m c rows A ∧ rows.length = m ∧ Right nb k A ∧ allL B K nb [] ls = allL B K nb A (ls.drop q) ∧ wr.heap[pb]? = some (.cells #[.int .i64 B, .int .i64 K] 32 (0, 0)) ∧ Below w.heap.size w wr ∧ w.heap.size ≤ tb

theorem dec_code_err {B K : Int} {n k nb : Nat} {ls : List LSym} {q : Int} (g : Good B K n k nb) (h60 : ls.length ≤ 60) (h : allL B K nb [] ls = (q, [])) (hq : q ≠ 0) : decCode B K ls = q ∧ decRes B K ls = [] := by
 have e0 : ¬ (chkP B K ≠ 0) := by rw [chkP_good g]; simp
 have e1 : ¬ 60 < ls.length := by omega
 unfold decCode decRes
 rw [if_neg e0, if_neg e1, if_neg e0, if_neg e1, nB_good' g, h]
 exact ⟨if_pos hq, if_pos hq⟩

theorem dec_code_end {B K : Int} {n k nb : Nat} {ls : List LSym} {A : List LRow} (g : Good B K n k nb) (h60 : ls.length ≤ 60) (h : allL B K nb [] ls = (0, A)) :
  (A.length < nb → decCode B K ls = 8 ∧ decRes B K ls = []) ∧ (¬ A.length < nb → decCode B K ls = joinCode B K (knownL nb A) ∧ decRes B K ls = joinRes B K (knownL nb A)) := by
 have e0 : ¬ (chkP B K ≠ 0) := by rw [chkP_good g]; simp
 have e2 : ¬ ((0 : Int) ≠ 0) := by simp
 have e1 : ¬ 60 < ls.length := by omega
 unfold decCode decRes
 rw [if_neg e0, if_neg e1, if_neg e0, if_neg e1, nB_good' g, h]
 simp only [if_neg e2]
 exact ⟨fun hl => ⟨if_pos hl, if_pos hl⟩, fun hl => ⟨if_neg hl, if_neg hl⟩⟩

theorem decode_plan (B K : Int) (la : Option Addr) (m lc : Nat) (ls : List LSym) (w : World) (hB : I64 B) (hK : I64 K) (h : chkP B K ≠ 0) :
  Calls Tryz.prog 111 #[.agg #[.int .i64 B, .int .i64 K], .slice la m lc] w fun e w' => e = .returned (.tuple #[.slice none 0 0, .int .i64 (decCode B K ls)]) ∧ Below w.heap.size w w' := by
 have hBl : Below w.heap.size w (w.alloc (.cells #[.int .i64 B, .int .i64 K] 32)) := (Below.refl _ _).alloc (Nat.le_refl _) _
 obtain ⟨x0, x1⟩ := Box2.mk w (.int .i64 B) (.int .i64 K) 32
 have hC := cutCheck_any B K (w.alloc (.cells #[.int .i64 B, .int .i64 K] 32)) hB hK
 have e : decCode B K ls = chkP B K := if_pos h
 rw [e]
 obtain ⟨q, hq⟩ : ∃ q, chkP B K = q := ⟨_, rfl⟩
 rw [hq] at hC h ⊢
 have h1 : (q != 0) = true := by simpa using h
 clear e hq h
 go_enter Tryz.func111, Tryz.ntmps111
 go_wp2_with fail
 refine hC.mono ?_
 rintro e w1 ⟨rfl, hb⟩
 have hb1 := hBl.trans (hb.mono hBl.size)
 clear hC hb x0 x1 hBl
 go_wp2
 go_ret2
 exact ⟨rfl, hb1⟩

theorem decode_many (B K : Int) (n k nb : Nat) (la : Option Addr) (m lc : Nat) (ls : List LSym) (w : World) (g : Good B K n k nb) (hB : I64 B) (hK : I64 K) (hm : m ≤ maxLen) (hml : ls.length = m) (h : 60 < m) :
  Calls Tryz.prog 111 #[.agg #[.int .i64 B, .int .i64 K], .slice la m lc] w fun e w' => e = .returned (.tuple #[.slice none 0 0, .int .i64 (decCode B K ls)]) ∧ Below w.heap.size w w' := by
 have hBl : Below w.heap.size w (w.alloc (.cells #[.int .i64 B, .int .i64 K] 32)) := (Below.refl _ _).alloc (Nat.le_refl _) _
 obtain ⟨x0, x1⟩ := Box2.mk w (.int .i64 B) (.int .i64 K) 32
 have hC := cutCheck_any B K (w.alloc (.cells #[.int .i64 B, .int .i64 K] 32)) hB hK
 have e : decCode B K ls = 2 := by rw [decCode, if_neg (by rw [chkP_good g]; simp), if_pos (by omega)]
 rw [chkP_good g] at hC
 rw [e]
 unfold maxLen at hm
 clear e hml
 go_enter Tryz.func111, Tryz.ntmps111
 go_wp2_with fail
 refine hC.mono ?_
 rintro e w1 ⟨rfl, hb⟩
 have hb1 := hBl.trans (hb.mono hBl.size)
 clear hC hb x0 x1 hBl
 go_wp2
 go_ret2
 exact ⟨rfl, hb1⟩

theorem below_new3 {Y w' : World} {x y z : Value} {t : TypeId} (hb : Below ((Y.alloc (.cells #[x, y, z] t)).heap.size) (Y.alloc (.cells #[x, y, z] t)) w') :
  w'.heap[Y.heap.size]? = some (.cells #[x, y, z] t (0, 0)) ∧ w'.cell? ⟨Y.heap.size, 0, none⟩ = some x ∧ w'.cell? ⟨Y.heap.size, 1, none⟩ = some y ∧ w'.cell? ⟨Y.heap.size, 2, none⟩ = some z ∧ w'.frozen? ⟨Y.heap.size, 0, none⟩ = false ∧ w'.frozen? ⟨Y.heap.size, 1, none⟩ = false ∧ w'.frozen? ⟨Y.heap.size, 2, none⟩ = false := by
 have h : w'.heap[Y.heap.size]? = some (.cells #[x, y, z] t (0, 0)) := (hb.block Y.heap.size (by simp)).trans (by rw [heap_alloc_eq, if_pos rfl])
 have x0 := cell_blk h 0
 have x1 := cell_blk h 1
 have x2 := cell_blk h 2
 simp at x0 x1 x2
 exact ⟨h, x0, x1, x2, frozen_blk h 0, frozen_blk h 1, frozen_blk h 2⟩

theorem cells3 {w : World} {b : Nat} {x y z : Value} {t : TypeId} (h : w.heap[b]? = some (.cells #[x, y, z] t (0, 0))) : w.cell? ⟨b, 0, none⟩ = some x ∧ w.cell? ⟨b, 1, none⟩ = some y ∧ w.cell? ⟨b, 2, none⟩ = some z := by
 have x0 := cell_blk h 0
 have x1 := cell_blk h 1
 have x2 := cell_blk h 2
 simp at x0 x1 x2
 exact ⟨x0, x1, x2⟩

theorem below_new3d {Y w' : World} {x y z : Value} {t : TypeId} (hb : Below (((Y.alloc (.cells #[x, y, z] t)).drew).heap.size) ((Y.alloc (.cells #[x, y, z] t)).drew) w') : w'.heap[Y.heap.size]? = some (.cells #[x, y, z] t (0, 0)) := by
 have h0 : ((Y.alloc (.cells #[x, y, z] t)).drew).heap[Y.heap.size]? = some (.cells #[x, y, z] t (0, 0)) := by
  show (Y.alloc (.cells #[x, y, z] t)).heap[Y.heap.size]? = _
  rw [heap_alloc_eq, if_pos rfl]
 exact blk_below h0 hb

theorem DecInv.start {w w9 : World} {B K : Int} {n k nb pb tb : Nat} {ls : List LSym} (g : Good B K n k nb) (hs : w9.heap[tb]? = some (.cells #[.int .i64 nb, .int .i64 K, .slice none 0 0] 203 (0, 0))) (hp : w9.heap[pb]? = some (.cells #[.int .i64 B, .int .i64 K] 32 (0, 0))) (hb : Below w.heap.size w w9) (ht : w.heap.size ≤ tb) : DecInv w w9 B K pb tb nb k ls 0 := by
 have hR0 : Right nb k [] := ⟨g.b1, g.b2, g.k1, g.k2, (fun r hr => by cases hr), Sys.nil⟩
 refine ⟨none, 0, 0, [], [], ⟨?_, Lies.nil _ _, (fun r hr => by cases hr), rfl⟩, rfl, hR0, by simp, hp, hb, ht⟩
 rw [hs, g.eK]

theorem set3_blk {w : World} {b : Nat} {x y z u0 u1 u2 : Value} {t : TypeId} (h : w.heap[b]? = some (.cells #[x, y, z] t (0, 0))) : (((w.setCell ⟨b, 0, none⟩ u0).setCell ⟨b, 1, none⟩ u1).setCell ⟨b, 2, none⟩ u2).heap[b]? = some (.cells #[u0, u1, u2] t (0, 0)) := by
 rw [heap_set (o := 2) (v := u2) (heap_set (o := 1) (v := u1) (heap_set (o := 0) (v := u0) h))]
 simp

set_option maxHeartbeats 4000000 in
set_option maxRecDepth 8000 in
theorem decode_good (B K : Int) (n k nb m : Nat) (la : Option Addr) (lc : Nat) (l : List MSym) (ls : List LSym) (L : List UInt8) (code : Int) (w : World) (g : Good B K n k nb) (hB : I64 B) (hK : I64 K) (hl : Lies w la (symCells l)) (hall : ∀ y ∈ l, SymIn w y) (hm : l.length = m) (h60 : m ≤ 60) (hls : l.map MSym.says = ls) (hL : Laid w) (hdc : decCode B K ls = code) (hdr : decRes B K ls = L) :
  Calls Tryz.prog 111 #[.agg #[.int .i64 B, .int .i64 K], .slice la m lc] w fun e w' => ∃ (a' : Option Addr) (c' : Nat), e = .returned (.tuple #[.slice a' L.length c', .int .i64 code]) ∧ Lies w' a' (bs L) ∧ Below w.heap.size w w' := by
 have hBl : Below w.heap.size w (w.alloc (.cells #[.int .i64 B, .int .i64 K] 32)) := (Below.refl _ _).alloc (Nat.le_refl _) _
 obtain ⟨x0, x1⟩ := Box2.mk w (.int .i64 B) (.int .i64 K) 32
 have HPB : Shut ((w.alloc (.cells #[.int .i64 B, .int .i64 K] 32)).heap[w.heap.size]? = some (.cells #[.int .i64 B, .int .i64 K] 32 (0, 0))) := ⟨by rw [heap_alloc_eq, if_pos rfl]⟩
 have hC := cutCheck_any B K (w.alloc (.cells #[.int .i64 B, .int .i64 K] 32)) hB hK
 rw [chkP_good g] at hC
 have hR0 : Right nb k [] := ⟨g.b1, g.b2, g.k1, g.k2, (fun r hr => by cases hr), Sys.nil⟩
 have hBk : ∀ W, Calls Tryz.prog 127 #[.agg #[.int .i64 B, .int .i64 K]] W fun e w' => e = .returned (.int .i64 nb) ∧ Below W.heap.size W w' := fun W => by
  have h := cutBlocks_any B K W hB hK
  rw [g.eN] at h
  exact h
 have hNw : ∀ W, Calls Tryz.prog 133 #[.int .i64 nb, .int .i64 K] W fun e w' => e = .returned (.tuple #[.agg #[.int .i64 nb, .int .i64 K, .slice none 0 0], .int .i64 0]) ∧ Below W.heap.size W w' := fun W => by
  have hc : chkSys nb K [] = 0 := by rw [g.eK]; exact chk_of_right hR0
  have h := new_any nb K W (.agg #[.int .i64 nb, .int .i64 K, .slice none 0 0]) (by rw [if_pos hc])
  rw [hc] at h
  exact h
 have h60n : ¬ 60 < m := by omega
 have HLS : Shut (ls.length ≤ 60 ∧ ls.length = m) := ⟨by rw [← hls]; simp; omega, by rw [← hls]; simpa using hm⟩
 have HG := Shut.mk g
 have HX := Shut.mk (And.intro hl (And.intro hall (And.intro hm (And.intro hls (And.intro hL (And.intro hdc hdr))))))
 clear hl hall hm hls hL hdc hdr g
 go_enter Tryz.func111, Tryz.ntmps111
 go_wp2_with fail
 refine hC.mono ?_
 rintro e w1 ⟨rfl, hb⟩
 replace HPB := Shut.mk (blk_below HPB.out hb)
 have hb1 := hBl.trans (hb.mono hBl.size)
 clear hC hb x0 x1 hBl
 go_upto_region 6 with fail
 have x0 : w1.drew.cell? ⟨w.heap.size, 0, none⟩ = some (.int .i64 B) := by have := cell_blk HPB.out 0; simp at this; exact this
 have x1 : w1.drew.cell? ⟨w.heap.size, 1, none⟩ = some (.int .i64 K) := by have := cell_blk HPB.out 1; simp at this; exact this
 have HP1 : Shut (w1.drew.cell? ⟨w.heap.size, 0, none⟩ = some (.int .i64 B) ∧ w1.drew.cell? ⟨w.heap.size, 1, none⟩ = some (.int .i64 K)) := ⟨x0, x1⟩
 go_cut [7, 8] from 20 (fun s7 s8 wc => ∃ tb, s7 = .pointer (some ⟨tb, 0, none⟩) ∧ s8 = .int .i64 0 ∧ Shut (DecInv w wc B K w.heap.size tb nb k ls 0))
 case first =>
  have lt1 : w.heap.size < w1.heap.size := blk_lt HPB.out
  go_region_held3 (fun w' => w'.cell? ⟨w.heap.size, 0, none⟩ = some (.int .i64 B) ∧ w'.cell? ⟨w.heap.size, 1, none⟩ = some (.int .i64 K)) (first | exact ⟨by assumption, by assumption⟩ | exact ⟨cellA' (by assumption) _, cellA' (by assumption) _⟩ | (refine ⟨?_, ?_⟩ <;> (rw [World.cell?_setCell_other _ _ _ _ (by intro e; injection e; omega), World.cell?_setCell_other _ _ _ _ (by intro e; injection e; omega), World.cell?_setCell_other _ _ _ _ (by intro e; injection e; omega)]; assumption))) (first | (go_at_call 127; refine (hBk _).mono ?_; rintro e w4 ⟨rfl, hb4⟩; have v0 := cellC (b := w.heap.size) (o := 0) (v := .int .i64 B) (by first | assumption | exact cellA' (by assumption) _) hb4; have v1 := cellC (b := w.heap.size) (o := 1) (v := .int .i64 K) (by first | assumption | exact cellA' (by assumption) _) hb4; have lt4 := World.block_lt_of_cell? w4 _ v0; simp at lt4; first | (have tk : w4.heap[w1.heap.size]? = some (.cells #[.int .i64 0, .int .i64 0, .slice none 0 0] 203 (0, 0)) := (by first | exact (below_new3 (Y := w1.drew) hb4).1 | exact below_new3d (Y := w1) hb4); have t0 : w4.cell? ⟨w1.heap.size, 0, none⟩ = some (.int .i64 0) := (cells3 tk).1; have t1 : w4.cell? ⟨w1.heap.size, 1, none⟩ = some (.int .i64 0) := (cells3 tk).2.1; have t2 : w4.cell? ⟨w1.heap.size, 2, none⟩ = some (.slice none 0 0) := (cells3 tk).2.2; have t3 := frozen_blk tk 0; have t4 := frozen_blk tk 1; have t5 := frozen_blk tk 2) | skip) | (go_at_call 133; refine (hNw _).mono ?_; rintro e w5 ⟨rfl, hb5⟩; have v2 := cellC (b := w.heap.size) (o := 0) (v := .int .i64 B) (by first | assumption | exact cellA' (by assumption) _) hb5; have v3 := cellC (b := w.heap.size) (o := 1) (v := .int .i64 K) (by first | assumption | exact cellA' (by assumption) _) hb5; first | (have tk2 : w5.heap[w4.heap.size]? = some (.cells #[.int .i64 0, .int .i64 0, .slice none 0 0] 203 (0, 0)) := (below_new3 (Y := w4) hb5).1; have s0 : w5.cell? ⟨w4.heap.size, 0, none⟩ = some (.int .i64 0) := (cells3 tk2).1; have s1 : w5.cell? ⟨w4.heap.size, 1, none⟩ = some (.int .i64 0) := (cells3 tk2).2.1; have s2 : w5.cell? ⟨w4.heap.size, 2, none⟩ = some (.slice none 0 0) := (cells3 tk2).2.2; have s3 := frozen_blk tk2 0; have s4 := frozen_blk tk2 1; have s5 := frozen_blk tk2 2) | (have tk2 : w5.heap[w1.heap.size]? = some (.cells #[.int .i64 0, .int .i64 0, .slice none 0 0] 203 (0, 0)) := blk_below tk hb5; have s0 : w5.cell? ⟨w1.heap.size, 0, none⟩ = some (.int .i64 0) := (cells3 tk2).1; have s1 : w5.cell? ⟨w1.heap.size, 1, none⟩ = some (.int .i64 0) := (cells3 tk2).2.1; have s2 : w5.cell? ⟨w1.heap.size, 2, none⟩ = some (.slice none 0 0) := (cells3 tk2).2.2; have s3 := frozen_blk tk2 0; have s4 := frozen_blk tk2 1; have s5 := frozen_blk tk2 2) | skip))
  ·have d4 : Below w1.heap.size w1 w4 := ((Below.refl w1.heap.size w1).drew).trans hb4
   have d5 := d4.trans (hb5.mono d4.size)
   have d6 : Below w1.heap.size w1 (w5.alloc (.cells #[.int .i64 nb, .int .i64 K, .slice none 0 0] 203)) := d5.alloc d5.size _
   have R0 : Shut (DecInv w (w5.alloc (.cells #[.int .i64 nb, .int .i64 K, .slice none 0 0] 203)) B K w.heap.size w5.heap.size nb k ls 0) := ⟨DecInv.start HG.out (by rw [heap_alloc_eq, if_pos rfl]) (blk_below HPB.out d6) (hb1.trans (d6.mono hb1.size)) (Nat.le_trans hb1.size d5.size)⟩
   clear hb4 hb5 d4 d5 d6
   go_wp2
   go_meet
   exact ⟨_, rfl, rfl, R0⟩
  ·have d4 : Below w1.heap.size w1 w4 := ((Below.refl w1.heap.size w1).drew).trans hb4
   have d4' : Below w1.heap.size w1 (w4.alloc (.cells #[.int .i64 0, .int .i64 0, .slice none 0 0] 203)) := d4.alloc d4.size _
   have d5 := d4'.trans (hb5.mono d4'.size)
   have hle : w.heap.size ≤ w4.heap.size := Nat.le_trans hb1.size d4.size
   have d6 := (((hb1.trans (d5.mono hb1.size)).setCell (p := ⟨w4.heap.size, 0, none⟩) (by simpa using hle) (.int .i64 nb)).setCell (p := ⟨w4.heap.size, 1, none⟩) (by simpa using hle) (.int .i64 K)).setCell (p := ⟨w4.heap.size, 2, none⟩) (by simpa using hle) (.slice none 0 0)
   have hne : w.heap.size ≠ w4.heap.size := by have := blk_lt (blk_below HPB.out d4); omega
   have R0 := Shut.mk (DecInv.start (ls := ls) HG.out (set3_blk tk2) (block_set (block_set (block_set (blk_below HPB.out d5) hne) hne) hne) d6 hle)
   clear hb4 hb5 d4 d4' d5 d6
   go_wp2
   go_meet
   exact ⟨_, rfl, rfl, R0⟩
  ·have d4' : Below w1.heap.size w1 ((w1.alloc (.cells #[.int .i64 0, .int .i64 0, .slice none 0 0] 203)).drew) := ((Below.refl _ _).alloc (Nat.le_refl _) _).drew
   have d4 := d4'.trans (hb4.mono d4'.size)
   have d5 := d4.trans (hb5.mono d4.size)
   have hle : w.heap.size ≤ w1.heap.size := hb1.size
   have d6 := (((hb1.trans (d5.mono hb1.size)).setCell (p := ⟨w1.heap.size, 0, none⟩) (by simpa using hle) (.int .i64 nb)).setCell (p := ⟨w1.heap.size, 1, none⟩) (by simpa using hle) (.int .i64 K)).setCell (p := ⟨w1.heap.size, 2, none⟩) (by simpa using hle) (.slice none 0 0)
   have hne : w.heap.size ≠ w1.heap.size := by omega
   have R0 := Shut.mk (DecInv.start (ls := ls) HG.out (set3_blk tk2) (block_set (block_set (block_set (blk_below HPB.out d5) hne) hne) hne) d6 hle)
   clear hb4 hb5 d4 d4' d5 d6
   go_wp2
   go_meet
   exact ⟨_, rfl, rfl, R0⟩
 case rest =>
  obtain ⟨tb, rfl, rfl, H0⟩ := hcut
  clear x0 x1 HP1 hBk hNw HPB hb1 hR0
  go_wp2
  go_loopw [33] (fun v wr => ∃ q : Nat, q ≤ m ∧ v = .int .i64 q ∧ Shut (DecInv w wr B K w.heap.size tb nb k ls q)) (fun v _ => m - (intOf v).toNat)
  case atStart => exact ⟨0, Nat.zero_le _, rfl, H0⟩
  case round =>
   clear H0
   obtain ⟨q, hq, rfl, HI⟩ := hrel
   by_cases hlt : q < m
   ·obtain ⟨a, am, ac, rows, A, hS, hm, hR, hal, hpb, hbw, htb⟩ := HI.out
    have hql : q < l.length := by rw [HX.out.2.2.1]; exact hlt
    have hlw := HX.out.1.below hbw (Nat.le_refl _)
    obtain ⟨ab, ao, haa⟩ := hlw.some (k := 2 * q) (by rw [symCells_length]; omega)
    rw [haa] at hlw
    obtain ⟨a0, a1⟩ := sym_at hlw hql
    have hY := (HX.out.2.1 _ (List.getElem_mem hql)).below hbw
    have HDR : Shut (ls.drop q = l[q].says :: ls.drop (q + 1)) := ⟨by
     have e : ls[q]? = some l[q].says := by rw [← HX.out.2.2.2.1]; simp [hql]
     have hlt2 : q < ls.length := (List.getElem?_eq_some_iff.1 e).1
     rw [List.drop_eq_getElem_cons hlt2]
     rw [List.getElem?_eq_getElem hlt2] at e
     rw [Option.some.inj e]⟩
    generalize l[q]'hql = Y at *
    obtain ⟨v0, v1⟩ := Box2.mk wr (.int .i64 Y.id) Y.dv 38
    have bd : Below wr.heap.size wr (wr.alloc (.cells #[.int .i64 Y.id, Y.dv] 38)) := (Below.refl _ _).alloc (Nat.le_refl _) _
    have hS2 := hS.below bd
    have hp2 := blk_below hpb bd
    have hb2 := hbw.trans (bd.mono hbw.size)
    have hY2 := hY.below bd
    obtain ⟨s0, s1, s2, sf⟩ := hS2.cells
    have p0 := cell_blk hp2 0
    have p1 := cell_blk hp2 1
    simp at p0 p1
    have HST := Shut.mk (And.intro hS2 (And.intro hm (And.intro hR (And.intro hal (And.intro hp2 (And.intro hb2 htb))))))
    obtain ⟨W5, hW5⟩ : ∃ W5, wr.alloc (.cells #[.int .i64 Y.id, Y.dv] 38) = W5 := ⟨_, rfl⟩
    rw [hW5] at hY2 HST
    have HW5 := Shut.mk hW5
    have HYS := Shut.mk hY2
    clear hS hm hR hal hpb hbw htb HI hS2 hp2 hb2 bd hY hlw hW5 hY2 sf
    obtain ⟨yid, ya, yc, yd⟩ := Y
    simp only [MSym.dv] at *
    subst haa
    by_cases hck : chkS B K yid yd.length = 0
    ·obtain ⟨i, hi, hi9, hdk⟩ := chkS_zero HG.out hck
     subst hi
     have hck2 := hck
     rw [hdk] at hck2
     have hWt := with_good n nb k am i a ac rows A B K ya yc yd W5 HG.out hB hK HST.out.1.2.1 (fun x hx => (HST.out.1.2.2.1 x hx).1) HST.out.2.1 HST.out.1.2.2.2 HST.out.2.2.1 HYS.out.1 hdk hi9 (HX.out.2.2.2.2.1.below HST.out.2.2.2.2.2.1) hck2
     have HDK := Shut.mk hdk
     have HCK := Shut.mk hck
     rw [← hdk] at hWt
     have HRO : Shut (rowOf nb ((i : Int), yd) = (maskL nb i, yd)) := ⟨by simp [rowOf]⟩
     clear hck hck2 hdk
     go_wp2_with fail
     rw [HW5.out]
     rw [HDK.out] at hWt ⊢
     refine hWt.mono ?_
     rintro e w6 ⟨hcase, hb6⟩
     have hS6 := HST.out.1.below hb6
     obtain ⟨t0, t1, t2, tf⟩ := hS6.cells
     have f0 := tf 0
     have f1 := tf 1
     have f2 := tf 2
     have hbw6 := HST.out.2.2.2.2.2.1.trans (hb6.mono HST.out.2.2.2.2.2.1.size)
     have htb := HST.out.2.2.2.2.2.2
     rcases hcase with ⟨hno, rfl⟩ | ⟨P, a', c', rows', hP, rfl, hl6, hr6, hs6, hn6⟩
     ·have hst : stepL B K nb A ((i : Int), yd) = (9, []) := stepL_torn HCK.out (by rw [HRO.out]; exact hno)
      have hdd := dec_code_err HG.out HLS.out.1 (q := 9) (by rw [HST.out.2.2.2.1, HDR.out]; show allL B K nb A (((i : Int), yd) :: _) = _; rw [allL_bad (by rw [hst]; decide), hst]) (by decide)
      have HDD : Shut (code = 9 ∧ L = []) := ⟨by rw [← HX.out.2.2.2.2.2.1]; exact hdd.1, by rw [← HX.out.2.2.2.2.2.2]; exact hdd.2⟩
      have hF := ((hbw6.setCell (p := ⟨tb, 0, none⟩) (by simpa using htb) (.int .i64 0)).setCell (p := ⟨tb, 1, none⟩) (by simpa using htb) (.int .i64 0)).setCell (p := ⟨tb, 2, none⟩) (by simpa using htb) (.slice none 0 0)
      clear hno hst hdd hWt hS6 tf v0 v1 s0 s1 s2 p0 p1 a0 a1 hb6
      go_wp2
      go_ret2
      exact ⟨none, 0, by rw [HDD.out.1, HDD.out.2]; rfl, by rw [HDD.out.2]; exact Lies.nil _ _, hF⟩
     ·obtain ⟨m', hm'⟩ : ∃ m', rows'.length = m' := ⟨_, rfl⟩
      have hst : stepL B K nb A ((i : Int), yd) = (0, P) := stepL_ok HCK.out (by rw [HRO.out]; exact hP)
      have hRP := (addL_right HST.out.2.2.1 ⟨maskL_length nb i, HDK.out⟩ hP).1
      have hne : ∀ c o, a' = some ⟨c, o, none⟩ → c ≠ tb := fun c o e => by
       have h1 := hn6 c o e
       have h2 := blk_lt HST.out.1.1
       omega
      have hpl := blk_below HST.out.2.2.2.2.1 hb6
      have R1 : Shut (DecInv w (((w6.setCell ⟨tb, 0, none⟩ (.int .i64 nb)).setCell ⟨tb, 1, none⟩ (.int .i64 k)).setCell ⟨tb, 2, none⟩ (.slice a' m' c')) B K w.heap.size tb nb k ls (q + 1)) := ⟨a', m', c', rows', P, hS6.put hl6 hr6 hs6 hne hRP, hm', hRP, by rw [HST.out.2.2.2.1, HDR.out]; show allL B K nb A (((i : Int), yd) :: _) = _; rw [allL_go (by rw [hst]), hst], by
        by_cases hpt : w.heap.size = tb
        ·exfalso
         have h1 := HST.out.1.1
         have h2 := HST.out.2.2.2.2.1
         rw [hpt] at h2
         rw [h1] at h2
         simp at h2
        ·exact block_set (block_set (block_set hpl hpt) hpt) hpt, ((hbw6.setCell (p := ⟨tb, 0, none⟩) (by simpa using htb) (.int .i64 nb)).setCell (p := ⟨tb, 1, none⟩) (by simpa using htb) (.int .i64 k)).setCell (p := ⟨tb, 2, none⟩) (by simpa using htb) (.slice a' m' c'), htb⟩
      rw [hm']
      clear hP hst hRP hne hpl hWt hS6 tf v0 v1 s0 s1 s2 p0 p1 a0 a1 hb6 hl6 hr6 hs6 hn6 hm' hbw6
      go_wp2
      go_roundw
      case rel => exact ⟨q + 1, by omega, by go_num, R1⟩
      case measure => simp [intOf]; omega
    ·have hWt := with_chk nb k am a ac B K yid ya yd.length yc W5 hB hK HYS.out.2 hck
     obtain ⟨qc, hqc⟩ : ∃ qc, chkS B K yid yd.length = qc := ⟨_, rfl⟩
     have HCK := Shut.mk hck
     have HQC := Shut.mk hqc
     rw [hqc] at hWt hck
     have hq1 : (qc != 0) = true := by simpa using hck
     clear hqc hck
     go_wp2_with fail
     rw [HW5.out]
     refine hWt.mono ?_
     rintro e w6 ⟨rfl, hb6⟩
     have hS6 := HST.out.1.below hb6
     obtain ⟨t0, t1, t2, tf⟩ := hS6.cells
     have f0 := tf 0
     have f1 := tf 1
     have f2 := tf 2
     have hbw6 := HST.out.2.2.2.2.2.1.trans (hb6.mono HST.out.2.2.2.2.2.1.size)
     have htb := HST.out.2.2.2.2.2.2
     have hst : stepL B K nb A (yid, yd) = (qc, []) := by rw [← HQC.out]; exact stepL_chk HCK.out
     have hqn : qc ≠ 0 := by rw [← HQC.out]; exact HCK.out
     have hdd := dec_code_err HG.out HLS.out.1 (q := qc) (by rw [HST.out.2.2.2.1, HDR.out]; show allL B K nb A ((yid, yd) :: _) = _; rw [allL_bad (by rw [hst]; exact hqn), hst]) hqn
     have HDD : Shut (code = qc ∧ L = []) := ⟨by rw [← HX.out.2.2.2.2.2.1]; exact hdd.1, by rw [← HX.out.2.2.2.2.2.2]; exact hdd.2⟩
     have hF := ((hbw6.setCell (p := ⟨tb, 0, none⟩) (by simpa using htb) (.int .i64 0)).setCell (p := ⟨tb, 1, none⟩) (by simpa using htb) (.int .i64 0)).setCell (p := ⟨tb, 2, none⟩) (by simpa using htb) (.slice none 0 0)
     clear hst hdd hWt hS6 tf v0 v1 s0 s1 s2 p0 p1 a0 a1 hb6 hqn
     go_wp2
     go_ret2
     exact ⟨none, 0, by rw [HDD.out.1, HDD.out.2]; rfl, by rw [HDD.out.2]; exact Lies.nil _ _, hF⟩
   ·obtain ⟨a, am, ac, rows, A, hS, hm, hR, hal, hpb, hbw, htb⟩ := HI.out
    have hls : ls.length ≤ 60 := HLS.out.1
    have hdr : ls.drop q = [] := List.drop_of_length_le (by rw [HLS.out.2]; omega)
    rw [hdr] at hal
    obtain ⟨hsh, hlo⟩ := dec_code_end HG.out hls (A := A) hal
    rw [HX.out.2.2.2.2.2.1, HX.out.2.2.2.2.2.2] at hsh hlo
    have hAl : A.length = am := by rw [← hm, ← hS.2.2.2]; simp
    rw [hAl] at hsh hlo
    obtain ⟨s0, s1, s2, sf⟩ := hS.cells
    have hb24 := HG.out.b2
    have ham : am ≤ 24 := by have := hR.few; omega
    have HSH := Shut.mk (And.intro hsh hlo)
    have HST := Shut.mk (And.intro hS (And.intro hm (And.intro hR hpb)))
    clear hsh hlo hal hdr hls hS hm hR hpb sf HI hAl
    by_cases hle : am < nb
    ·have hdd := HSH.out.1 hle
     have HDD := Shut.mk hdd
     have hlei : (am : Int) < nb := by omega
     clear hdd HSH
     go_wp2
     go_ret2
     exact ⟨none, 0, by rw [HDD.out.1, HDD.out.2]; rfl, by rw [HDD.out.2]; exact Lies.nil _ _, hbw⟩
    ·have HDD := Shut.mk (HSH.out.2 hle)
     have hKn := knownS_right nb k am a ac rows A wr HST.out.1.2.1 (fun x hx => (HST.out.1.2.2.1 x hx).1) (fun x hx => (HST.out.1.2.2.1 x hx).2) HST.out.2.1 HST.out.1.2.2.2 HST.out.2.2.1
     clear HSH
     go_wp2_with fail
     refine hKn.mono ?_
     rintro e w7 ⟨g7, bl, rfl, hl7, hin7, hcp7, hkn7, hb7⟩
     have hpb7 := blk_below HST.out.2.2.2 hb7
     have p0 := cell_blk hpb7 0
     have p1 := cell_blk hpb7 1
     simp at p0 p1
     have hbl : bl.length = nb := by have := congrArg List.length hkn7; rw [knownL_length] at this; simpa using this
     have hJ := join_any B K (some ⟨g7, 0, none⟩) nb bl w7 hB hK (by unfold maxLen; omega) hl7 hin7 (fun b hb => (hcp7 b hb).1)
     rw [hkn7, ← HDD.out.1, ← HDD.out.2, hbl] at hJ
     replace hbw := hbw.trans (hb7.mono hbw.size)
     clear hKn hl7 hin7 hcp7 hkn7 hb7 hpb7 s0 s1 s2 hbl
     go_wp2_with fail
     refine hJ.mono ?_
     rintro e w8 ⟨a8, rfl, hl8, hb8⟩
     replace hbw := hbw.trans (hb8.mono hbw.size)
     clear hJ hb8 p0 p1
     go_wp2
     go_ret2
     exact ⟨a8, _, rfl, hl8, hbw⟩

theorem decode_any (B K : Int) (la : Option Addr) (lc : Nat) (l : List MSym) (w : World) (hB : I64 B) (hK : I64 K) (hl : Lies w la (symCells l)) (hall : ∀ y ∈ l, SymIn w y) (hm : l.length ≤ maxLen) (hL : Laid w) :
  Calls Tryz.prog 111 #[.agg #[.int .i64 B, .int .i64 K], .slice la l.length lc] w fun e w' => ∃ (a' : Option Addr) (c' : Nat), e = .returned (.tuple #[.slice a' (decRes B K (l.map MSym.says)).length c', .int .i64 (decCode B K (l.map MSym.says))]) ∧ Lies w' a' (bs (decRes B K (l.map MSym.says))) ∧ Below w.heap.size w w' := by
 by_cases hc : chkP B K = 0
 ·obtain ⟨n, k, nb, g⟩ := good_of hc
  by_cases h60 : l.length ≤ 60
  ·exact decode_good B K n k nb l.length la lc l _ _ _ w g hB hK hl hall rfl h60 rfl hL rfl rfl
  ·have e : decRes B K (l.map MSym.says) = [] := by rw [decRes, if_neg (by rw [hc]; simp), if_pos (by simp; omega)]
   rw [e]
   refine (decode_many B K n k nb la l.length lc (l.map MSym.says) w g hB hK hm (by simp) (by omega)).mono ?_
   rintro e w' ⟨rfl, hb⟩
   exact ⟨none, 0, rfl, Lies.nil _ _, hb⟩
 ·have e : decRes B K (l.map MSym.says) = [] := if_pos hc
  rw [e]
  refine (decode_plan B K la l.length lc (l.map MSym.says) w hB hK hc).mono ?_
  rintro e w' ⟨rfl, hb⟩
  exact ⟨none, 0, rfl, Lies.nil _ _, hb⟩

structure MKp where
 k : Kp
 ca : Option Addr
 cc : Nat
 ya : Option Addr
 yc : Nat
 ys : List MSym
 ta : Option Addr
 tc : Nat

def tkCells (l : List (Int × Int)) : List Value := l.flatMap fun t => [.int .i64 t.1, .int .i64 t.2]

theorem tkCells_length (l : List (Int × Int)) : (tkCells l).length = 2 * l.length := by
 induction l with
 | nil => rfl
 | cons r l ih => simp only [tkCells, List.flatMap_cons, List.length_append, List.length_cons, List.length_nil] at ih ⊢; omega

theorem tkCells_append (l m : List (Int × Int)) : tkCells (l ++ m) = tkCells l ++ tkCells m := by simp [tkCells]

theorem tkCells_get {l : List (Int × Int)} : ∀ {j : Nat} (hj : j < l.length), (tkCells l)[2 * j]? = some (.int .i64 l[j].1) ∧ (tkCells l)[2 * j + 1]? = some (.int .i64 l[j].2) := by
 induction l with
 | nil => intro j hj; simp at hj
 | cons r l ih =>
  intro j hj
  cases j with
  | zero => exact ⟨rfl, rfl⟩
  | succ j =>
   have h := ih (j := j) (by simpa using hj)
   simp only [tkCells, List.flatMap_cons, List.getElem_cons_succ] at h ⊢
   rw [show 2 * (j + 1) = 2 * j + 1 + 1 by omega]
   exact ⟨by simpa using h.1, by simpa using h.2⟩

def MKp.cells (m : MKp) : List Value := [.int .i64 m.k.h.F, .int .i64 m.k.h.Q, .int .i64 m.k.h.T, .int .i64 m.k.h.L, .int .i64 m.k.h.B, .int .i64 m.k.h.K, .bool m.k.own, .slice m.ca m.k.c.length m.cc, .slice m.ya m.ys.length m.yc, .int .i64 m.k.sh, .int .i64 m.k.gv, .int .i64 m.k.tw, .int .i64 m.k.tr, .slice m.ta m.k.tk.length m.tc, .bool m.k.dl, .bool m.k.pg]
def MKp.val (m : MKp) : Value := .agg #[.int .i64 m.k.h.F, .int .i64 m.k.h.Q, .int .i64 m.k.h.T, .int .i64 m.k.h.L, .int .i64 m.k.h.B, .int .i64 m.k.h.K, .bool m.k.own, .slice m.ca m.k.c.length m.cc, .slice m.ya m.ys.length m.yc, .int .i64 m.k.sh, .int .i64 m.k.gv, .int .i64 m.k.tw, .int .i64 m.k.tr, .slice m.ta m.k.tk.length m.tc, .bool m.k.dl, .bool m.k.pg]

structure Kp.ints (k : Kp) : Prop where
 h : k.h.ok
 sh : I64 k.sh
 gv : I64 k.gv
 tw : I64 k.tw
 tr : I64 k.tr
 tk : ∀ t ∈ k.tk, I64 t.1 ∧ I64 t.2
 ss : ∀ y ∈ k.ss, I64 y.1

structure KpIn (w : World) (m : MKp) : Prop where
 c : Lies w m.ca (bs m.k.c)
 y : Lies w m.ya (symCells m.ys)
 ys : ∀ y ∈ m.ys, SymIn w y
 says : m.ys.map MSym.says = m.k.ss
 t : Lies w m.ta (tkCells m.k.tk)

theorem KpIn.below {w w' : World} {m : MKp} (h : KpIn w m) (hb : Below w.heap.size w w') : KpIn w' m :=
 ⟨h.c.below hb (Nat.le_refl _), h.y.below hb (Nat.le_refl _), fun y hy => (h.ys y hy).below hb, h.says, h.t.below hb (Nat.le_refl _)⟩

structure MKp.fits (m : MKp) : Prop where
 c : m.k.c.length ≤ maxLen
 y : m.ys.length ≤ maxLen
 t : m.k.tk.length ≤ maxLen
 cc : m.k.c.length ≤ m.cc
 yc : m.ys.length ≤ m.yc
 tc : m.k.tk.length ≤ m.tc

theorem MKp.sslen {w : World} {m : MKp} (h : KpIn w m) : m.k.ss.length = m.ys.length := by rw [← h.says, List.length_map]

theorem kwithin_any (n a b : Int) (w : World) :
  Calls Tryz.prog 59 #[.int .i64 n, .int .i64 a, .int .i64 b] w fun e w' => e = .returned (.bool (decide (a ≤ n ∧ n ≤ b))) ∧ w = w' := by
 by_cases h1 : a ≤ n
 ·by_cases h2 : n ≤ b
  ·rw [decide_eq_true ⟨h1, h2⟩]
   go_enter Tryz.func59, Tryz.ntmps59
   go_wp2
   go_ret
   exact ⟨rfl, rfl⟩
  ·rw [decide_eq_false (fun h => h2 h.2)]
   go_enter Tryz.func59, Tryz.ntmps59
   go_wp2
   go_ret
   exact ⟨rfl, rfl⟩
 ·rw [decide_eq_false (fun h => h1 h.1)]
  go_enter Tryz.func59, Tryz.ntmps59
  go_wp2
  go_ret
  exact ⟨rfl, rfl⟩

theorem ahead_any (a b : Hd) (w : World) :
  Calls Tryz.prog 61 #[a.val, b.val] w fun e w' => e = .returned (.bool (a.ahead b)) ∧ Below w.heap.size w w' := by
 obtain ⟨F, Q, T, L, B, K⟩ := a
 obtain ⟨F', Q', T', L', B', K'⟩ := b
 simp only [Hd.val]
 have hB : Below w.heap.size w ((w.alloc (.cells #[.int .i64 F, .int .i64 Q, .int .i64 T, .int .i64 L, .int .i64 B, .int .i64 K] 34)).alloc (.cells #[.int .i64 F', .int .i64 Q', .int .i64 T', .int .i64 L', .int .i64 B', .int .i64 K'] 34)) := ((Below.refl _ _).alloc (Nat.le_refl _) _).alloc (by simp) _
 have hA : (⟨F, Q, T, L, B, K⟩ : Hd).ahead ⟨F', Q', T', L', B', K'⟩ = (decide (F < F') || (F == F' && decide (Q < Q'))) := rfl
 rw [hA]
 clear hA
 by_cases h1 : F < F'
 ·rw [decide_eq_true h1]
  go_enter Tryz.func61, Tryz.ntmps61
  go_wp2
  go_ret
  exact ⟨rfl, hB⟩
 ·rw [decide_eq_false h1]
  by_cases h2 : F = F'
  ·have h2' : (F == F') = true := by simpa using h2
   rw [h2']
   by_cases h3 : Q < Q'
   ·rw [decide_eq_true h3]
    clear h2
    go_enter Tryz.func61, Tryz.ntmps61
    go_wp2
    go_ret
    exact ⟨rfl, hB⟩
   ·rw [decide_eq_false h3]
    clear h2
    go_enter Tryz.func61, Tryz.ntmps61
    go_wp2
    go_ret
    exact ⟨rfl, hB⟩
  ·have h2' : (F == F') = false := by simpa using h2
   rw [h2']
   go_enter Tryz.func61, Tryz.ntmps61
   go_wp2
   go_ret
   exact ⟨rfl, hB⟩

theorem boxK (m : MKp) (w : World) : (w.alloc (.cells #[.int .i64 m.k.h.F, .int .i64 m.k.h.Q, .int .i64 m.k.h.T, .int .i64 m.k.h.L, .int .i64 m.k.h.B, .int .i64 m.k.h.K, .bool m.k.own, .slice m.ca m.k.c.length m.cc, .slice m.ya m.ys.length m.yc, .int .i64 m.k.sh, .int .i64 m.k.gv, .int .i64 m.k.tw, .int .i64 m.k.tr, .slice m.ta m.k.tk.length m.tc, .bool m.k.dl, .bool m.k.pg] 88)).heap[w.heap.size]? = some (.cells #[.int .i64 m.k.h.F, .int .i64 m.k.h.Q, .int .i64 m.k.h.T, .int .i64 m.k.h.L, .int .i64 m.k.h.B, .int .i64 m.k.h.K, .bool m.k.own, .slice m.ca m.k.c.length m.cc, .slice m.ya m.ys.length m.yc, .int .i64 m.k.sh, .int .i64 m.k.gv, .int .i64 m.k.tw, .int .i64 m.k.tr, .slice m.ta m.k.tk.length m.tc, .bool m.k.dl, .bool m.k.pg] 88 (0, 0)) := by rw [heap_alloc_eq, if_pos rfl]

theorem belowK (m : MKp) (w : World) : Below w.heap.size w (w.alloc (.cells #[.int .i64 m.k.h.F, .int .i64 m.k.h.Q, .int .i64 m.k.h.T, .int .i64 m.k.h.L, .int .i64 m.k.h.B, .int .i64 m.k.h.K, .bool m.k.own, .slice m.ca m.k.c.length m.cc, .slice m.ya m.ys.length m.yc, .int .i64 m.k.sh, .int .i64 m.k.gv, .int .i64 m.k.tw, .int .i64 m.k.tr, .slice m.ta m.k.tk.length m.tc, .bool m.k.dl, .bool m.k.pg] 88)) := (Below.refl _ _).alloc (Nat.le_refl _) _

theorem isDone_any (m : MKp) (w : World) :
  Calls Tryz.prog 73 #[m.val] w fun e w' => e = .returned (.bool m.k.done) ∧ Below w.heap.size w w' := by
 have hB := belowK m w
 have hk := boxK m w
 simp only [MKp.val]
 obtain ⟨W, hW⟩ : ∃ W, w.alloc (.cells #[.int .i64 m.k.h.F, .int .i64 m.k.h.Q, .int .i64 m.k.h.T, .int .i64 m.k.h.L, .int .i64 m.k.h.B, .int .i64 m.k.h.K, .bool m.k.own, .slice m.ca m.k.c.length m.cc, .slice m.ya m.ys.length m.yc, .int .i64 m.k.sh, .int .i64 m.k.gv, .int .i64 m.k.tw, .int .i64 m.k.tr, .slice m.ta m.k.tk.length m.tc, .bool m.k.dl, .bool m.k.pg] 88) = W := ⟨_, rfl⟩
 rw [hW] at hB hk
 obtain ⟨q0, q1, q2, q3, q4, q5, q6, q7, q8, q9, q10, q11, q12, q13, q14, q15⟩ := bx16 hk
 have hD : m.k.done = (m.k.dl || m.k.pg) := rfl
 rw [hD]
 clear hk hD
 generalize m.k.dl = d at *
 generalize m.k.pg = g at *
 cases d <;> cases g <;> (
  go_enter Tryz.func73, Tryz.ntmps73
  go_wp2
  go_ret
  exact ⟨rfl, hB⟩)

theorem eqd (x y : Int) : (x = y ∧ (x == y) = true ∧ (x != y) = false) ∨ (x ≠ y ∧ (x == y) = false ∧ (x != y) = true) := by
  by_cases h : x = y
  · exact Or.inl ⟨h, by simpa using h, by simpa using h⟩
  · exact Or.inr ⟨h, by simpa using h, by simpa using h⟩

theorem owned0 (me : Int) (F Q T L B K : Int) (own : Bool) (ca : Option Addr) (cn cc : Nat) (ya : Option Addr) (yn yc : Nat) (sh gv tw tr : Int) (ta : Option Addr) (tn tc : Nat) (dl pg : Bool) (w : World) :
    Calls Tryz.prog 95 #[.int .i64 me, .agg #[.int .i64 F, .int .i64 Q, .int .i64 T, .int .i64 L, .int .i64 B, .int .i64 K, .bool own, .slice ca cn cc, .slice ya yn yc, .int .i64 sh, .int .i64 gv, .int .i64 tw, .int .i64 tr, .slice ta tn tc, .bool dl, .bool pg]] w fun e w' => e = .returned (.bool ((own == (F == me)) && (own && (decide ((cn : Int) = B) && decide (yn = 0)) || !own && decide (cn = 0)))) ∧ Below w.heap.size w w' := by
  obtain ⟨W, hW⟩ : ∃ W, w.alloc (.cells #[.int .i64 F, .int .i64 Q, .int .i64 T, .int .i64 L, .int .i64 B, .int .i64 K, .bool own, .slice ca cn cc, .slice ya yn yc, .int .i64 sh, .int .i64 gv, .int .i64 tw, .int .i64 tr, .slice ta tn tc, .bool dl, .bool pg] 88) = W := ⟨_, rfl⟩
  have hB : Below w.heap.size w W := by rw [← hW]; exact (Below.refl _ _).alloc (Nat.le_refl _) _
  have hk : W.heap[w.heap.size]? = some (.cells #[.int .i64 F, .int .i64 Q, .int .i64 T, .int .i64 L, .int .i64 B, .int .i64 K, .bool own, .slice ca cn cc, .slice ya yn yc, .int .i64 sh, .int .i64 gv, .int .i64 tw, .int .i64 tr, .slice ta tn tc, .bool dl, .bool pg] 88 (0, 0)) := by rw [← hW, heap_alloc_eq, if_pos rfl]
  obtain ⟨q0, q1, q2, q3, q4, q5, q6, q7, q8, q9, q10, q11, q12, q13, q14, q15⟩ := bx16 hk
  clear hk
  obtain ⟨R, hR⟩ : ∃ R, ((own == (F == me)) && (own && (decide ((cn : Int) = B) && decide (yn = 0)) || !own && decide (cn = 0))) = R := ⟨_, rfl⟩
  rw [hR]
  have HR := Shut.mk hR
  clear hR
  rcases eqd F me with ⟨_, e1, e2⟩ | ⟨_, e1, e2⟩ <;> (
    have E1 := Shut.mk e1
    cases own
    · rcases eqd (cn : Int) 0 with ⟨e3, e4, e5⟩ | ⟨e3, e4, e5⟩ <;> (
        have E3 : Shut _ := ⟨e3⟩
        clear e3 e5
        go_enter Tryz.func95, Tryz.ntmps95
        go_wp2
        go_ret
        exact ⟨by rw [← HR.out, E1.out]; have := E3.out; first | rfl | (simp; omega), by first | exact hB | exact (Below.refl _ _).alloc (Nat.le_refl _) _⟩)
    · rcases eqd (cn : Int) B with ⟨e3, e4, e5⟩ | ⟨e3, e4, e5⟩ <;> rcases eqd (yn : Int) 0 with ⟨e6, e7, e8⟩ | ⟨e6, e7, e8⟩ <;> (
        have E3 : Shut _ := ⟨e3⟩
        have E6 : Shut _ := ⟨e6⟩
        clear e3 e5 e6 e8
        go_enter Tryz.func95, Tryz.ntmps95
        go_wp2
        go_ret
        exact ⟨by rw [← HR.out, E1.out]; have := E3.out; have := E6.out; first | rfl | (simp; omega), by first | exact hB | exact (Below.refl _ _).alloc (Nat.le_refl _) _⟩))

theorem isDone0 (F Q T L B K : Int) (own : Bool) (ca : Option Addr) (cn cc : Nat) (ya : Option Addr) (yn yc : Nat) (sh gv tw tr : Int) (ta : Option Addr) (tn tc : Nat) (dl pg : Bool) (w : World) :
    Calls Tryz.prog 73 #[.agg #[.int .i64 F, .int .i64 Q, .int .i64 T, .int .i64 L, .int .i64 B, .int .i64 K, .bool own, .slice ca cn cc, .slice ya yn yc, .int .i64 sh, .int .i64 gv, .int .i64 tw, .int .i64 tr, .slice ta tn tc, .bool dl, .bool pg]] w fun e w' => e = .returned (.bool (dl || pg)) ∧ Below w.heap.size w w' := by
  obtain ⟨W, hW⟩ : ∃ W, w.alloc (.cells #[.int .i64 F, .int .i64 Q, .int .i64 T, .int .i64 L, .int .i64 B, .int .i64 K, .bool own, .slice ca cn cc, .slice ya yn yc, .int .i64 sh, .int .i64 gv, .int .i64 tw, .int .i64 tr, .slice ta tn tc, .bool dl, .bool pg] 88) = W := ⟨_, rfl⟩
  have hB : Below w.heap.size w W := by rw [← hW]; exact (Below.refl _ _).alloc (Nat.le_refl _) _
  have hk : W.heap[w.heap.size]? = some (.cells #[.int .i64 F, .int .i64 Q, .int .i64 T, .int .i64 L, .int .i64 B, .int .i64 K, .bool own, .slice ca cn cc, .slice ya yn yc, .int .i64 sh, .int .i64 gv, .int .i64 tw, .int .i64 tr, .slice ta tn tc, .bool dl, .bool pg] 88 (0, 0)) := by rw [← hW, heap_alloc_eq, if_pos rfl]
  obtain ⟨q0, q1, q2, q3, q4, q5, q6, q7, q8, q9, q10, q11, q12, q13, q14, q15⟩ := bx16 hk
  clear hk
  cases dl <;> cases pg <;> (
    go_enter Tryz.func73, Tryz.ntmps73
    go_wp2
    go_ret
    exact ⟨rfl, by first | exact hB | exact (Below.refl _ _).alloc (Nat.le_refl _) _⟩)

set_option maxHeartbeats 2000000 in
theorem done0 (me : Int) (F Q T L B K : Int) (own : Bool) (ca : Option Addr) (cn cc : Nat) (ya : Option Addr) (yn yc : Nat) (sh gv tw tr : Int) (ta : Option Addr) (tn tc : Nat) (dl pg : Bool) (w : World) :
    Calls Tryz.prog 99 #[.int .i64 me, .agg #[.int .i64 F, .int .i64 Q, .int .i64 T, .int .i64 L, .int .i64 B, .int .i64 K, .bool own, .slice ca cn cc, .slice ya yn yc, .int .i64 sh, .int .i64 gv, .int .i64 tw, .int .i64 tr, .slice ta tn tc, .bool dl, .bool pg]] w fun e w' => e = .returned (.bool (!(dl && (!(T == me) || pg)) && (!(dl || pg) || (decide (yn = 0) && sh == 0 && gv == 0)))) ∧ Below w.heap.size w w' := by
  have hI := fun W => isDone0 F Q T L B K own ca cn cc ya yn yc sh gv tw tr ta tn tc dl pg W
  obtain ⟨W, hW⟩ : ∃ W, w.alloc (.cells #[.int .i64 F, .int .i64 Q, .int .i64 T, .int .i64 L, .int .i64 B, .int .i64 K, .bool own, .slice ca cn cc, .slice ya yn yc, .int .i64 sh, .int .i64 gv, .int .i64 tw, .int .i64 tr, .slice ta tn tc, .bool dl, .bool pg] 88) = W := ⟨_, rfl⟩
  have hB : Below w.heap.size w W := by rw [← hW]; exact (Below.refl _ _).alloc (Nat.le_refl _) _
  have hk : W.heap[w.heap.size]? = some (.cells #[.int .i64 F, .int .i64 Q, .int .i64 T, .int .i64 L, .int .i64 B, .int .i64 K, .bool own, .slice ca cn cc, .slice ya yn yc, .int .i64 sh, .int .i64 gv, .int .i64 tw, .int .i64 tr, .slice ta tn tc, .bool dl, .bool pg] 88 (0, 0)) := by rw [← hW, heap_alloc_eq, if_pos rfl]
  obtain ⟨q0, q1, q2, q3, q4, q5, q6, q7, q8, q9, q10, q11, q12, q13, q14, q15⟩ := bx16 hk
  clear hk
  have hI := hI W
  obtain ⟨R, hR⟩ : ∃ R, (!(dl && (!(T == me) || pg)) && (!(dl || pg) || (decide (yn = 0) && sh == 0 && gv == 0))) = R := ⟨_, rfl⟩
  rw [hR]
  have HR := Shut.mk hR
  have HW := Shut.mk hW
  have HK : Shut (W.heap[w.heap.size]? = some (.cells #[.int .i64 F, .int .i64 Q, .int .i64 T, .int .i64 L, .int .i64 B, .int .i64 K, .bool own, .slice ca cn cc, .slice ya yn yc, .int .i64 sh, .int .i64 gv, .int .i64 tw, .int .i64 tr, .slice ta tn tc, .bool dl, .bool pg] 88 (0, 0))) := ⟨by rw [← hW, heap_alloc_eq, if_pos rfl]⟩
  clear hR hW
  go_enter Tryz.func99, Tryz.ntmps99
  go_upto_region 1 with fail
  rw [HW.out]
  clear HW
  go_wp2_with fail
  all_goals first
    | (refine (isDone0 _ _ _ _ _ _ _ _ _ _ _ _ _ _ _ _ _ _ _ _ _ _ W).mono ?_
       rintro e w2 ⟨rfl, hb⟩
       have hk2 := blkB HK.out hb
       have hB2 := hB.trans (hb.mono hB.size)
       have u8 : w2.cell? ⟨w.heap.size, 8, none⟩ = some (.slice ya yn yc) := cellB hk2 8 _ rfl
       have u9 : w2.cell? ⟨w.heap.size, 9, none⟩ = some (.int .i64 sh) := cellB hk2 9 _ rfl
       have u10 : w2.cell? ⟨w.heap.size, 10, none⟩ = some (.int .i64 gv) := cellB hk2 10 _ rfl
       clear hk2
       go_wp2
       all_goals
         go_ret
         refine ⟨?_, hB2⟩
         rw [← HR.out]
         simp_all)
    | (go_ret
       refine ⟨?_, hB⟩
       rw [← HR.out]
       simp_all)

end Go.Proofs.YtakkajjoeimkdaaGreatDoor
