import Derived.Test.YtkiejflgphjfjacDoorPart13
import Derived.Test.YtkiejflgphjfjacDoorPart14
import Derived.Test.YtkiejflgphjfjacDoorPart7
import Derived.Test.YtkiejflgphjfjacDoorPart8
/-
  Symbols in memory; solve.Decode: its contract.
-/
namespace Go.Proofs.YtkiejflgphjfjacDoor
open Go.RowKit
set_option linter.unusedVariables false
set_option linter.unusedSimpArgs false

/-- a symbol in memory -/
structure MSym where
  id : Int
  a : Option Addr
  c : Nat
  d : List UInt8

def MSym.dv (y : MSym) : Value := .slice y.a y.d.length y.c
def MSym.says (y : MSym) : LSym := (y.id, y.d)
def SymIn (w : World) (y : MSym) : Prop := Lies w y.a (bs y.d) ∧ y.d.length ≤ maxLen

theorem SymIn.below {w w' : World} {y : MSym} (h : SymIn w y) (hb : Below w.heap.size w w') : SymIn w' y := ⟨h.1.below hb (Nat.le_refl _), h.2⟩

/-- the cells of symbols that stand in a list -/
def symCells (l : List MSym) : List Value := l.flatMap fun y => [.int .i64 y.id, y.dv]

theorem symCells_length (l : List MSym) : (symCells l).length = 2 * l.length := by
  induction l with
  | nil => rfl
  | cons r l ih => simp only [symCells, List.flatMap_cons, List.length_append, List.length_cons, List.length_nil] at ih ⊢; omega

theorem symCells_append (l m : List MSym) : symCells (l ++ m) = symCells l ++ symCells m := by simp [symCells]

theorem symCells_get {l : List MSym} : ∀ {j : Nat} (hj : j < l.length), (symCells l)[2 * j]? = some (.int .i64 l[j].id) ∧ (symCells l)[2 * j + 1]? = some l[j].dv := by
  induction l with
  | nil => intro j hj; simp at hj
  | cons r l ih =>
    intro j hj
    have e : symCells (r :: l) = .int .i64 r.id :: r.dv :: symCells l := rfl
    cases j with
    | zero => rw [e]; exact ⟨rfl, rfl⟩
    | succ j =>
      have := ih (j := j) (by simpa using hj)
      rw [e, show 2 * (j + 1) = 2 * j + 1 + 1 by omega]
      simpa using this

theorem sym_at {w : World} {b o : Nat} {l : List MSym} (h : Lies w (some ⟨b, o, none⟩) (symCells l)) {j : Nat} (hj : j < l.length) : w.cell? ⟨b, o + j * 2, none⟩ = some (.int .i64 l[j].id) ∧ w.cell? ⟨b, o + j * 2 + 1, none⟩ = some l[j].dv := by
  have h0 := h.at (symCells_get hj).1
  have h1 := h.at (symCells_get hj).2
  rw [Nat.mul_comm] at h0
  rw [Nat.mul_comm, ← Nat.add_assoc] at h1
  exact ⟨h0, h1⟩

theorem nB_good' {B K : Int} {n k nb : Nat} (g : Good B K n k nb) : (nB B K).toNat = nb := by rw [g.eN]; simp

/-- the state of Decode's loop -/
def DecInv (w wr : World) (B K : Int) (pb tb nb k : Nat) (ls : List LSym) (q : Nat) : Prop :=
  ∃ (a : Option Addr) (m c : Nat) (rows : List MRow) (A : List LRow), SysBox wr tb nb k a m c rows A ∧ rows.length = m ∧ Right nb k A ∧ allL B K nb [] ls = allL B K nb A (ls.drop q) ∧ wr.heap[pb]? = some (.cells #[.int .i64 B, .int .i64 K] 23 (0, 0)) ∧ Below w.heap.size w wr ∧ w.heap.size ≤ tb

theorem dec_code_err {B K : Int} {n k nb : Nat} {ls : List LSym} {q : Int} (g : Good B K n k nb) (h60 : ls.length ≤ 60) (h : allL B K nb [] ls = (q, [])) (hq : q ≠ 0) : decCode B K ls = q ∧ decRes B K ls = [] := by
  have e0 : ¬ (chkP B K ≠ 0) := by rw [chkP_good g]; simp
  have e1 : ¬ 60 < ls.length := by omega
  unfold decCode decRes
  rw [if_neg e0, if_neg e1, if_neg e0, if_neg e1, nB_good' g, h]
  exact ⟨if_pos hq, if_pos hq⟩

theorem dec_code_end {B K : Int} {n k nb : Nat} {ls : List LSym} {A : List LRow} (g : Good B K n k nb) (h60 : ls.length ≤ 60) (h : allL B K nb [] ls = (0, A)) :
    (A.length < nb → decCode B K ls = 8 ∧ decRes B K ls = []) ∧ (¬ A.length < nb → decCode B K ls = joinCode B K (knownL nb A) ∧ decRes B K ls = joinRes B K (knownL nb A)) := by
  have e0 : ¬ (chkP B K ≠ 0) := by rw [chkP_good g]; simp
  have e2 : ¬ ((0 : Int) ≠ 0) := by simp
  have e1 : ¬ 60 < ls.length := by omega
  unfold decCode decRes
  rw [if_neg e0, if_neg e1, if_neg e0, if_neg e1, nB_good' g, h]
  simp only [if_neg e2]
  exact ⟨fun hl => ⟨if_pos hl, if_pos hl⟩, fun hl => ⟨if_neg hl, if_neg hl⟩⟩

theorem decode_plan (B K : Int) (la : Option Addr) (m lc : Nat) (ls : List LSym) (w : World) (hB : I64 B) (hK : I64 K) (h : chkP B K ≠ 0) :
    Calls Tryd.prog 9 #[.agg #[.int .i64 B, .int .i64 K], .slice la m lc] w fun e w' => e = .returned (.tuple #[.slice none 0 0, .int .i64 (decCode B K ls)]) ∧ Below w.heap.size w w' := by
  have hBl : Below w.heap.size w (w.alloc (.cells #[.int .i64 B, .int .i64 K] 23)) := (Below.refl _ _).alloc (Nat.le_refl _) _
  obtain ⟨x0, x1⟩ := Box2.mk w (.int .i64 B) (.int .i64 K) 23
  have hC := cutCheck_any B K (w.alloc (.cells #[.int .i64 B, .int .i64 K] 23)) hB hK
  have e : decCode B K ls = chkP B K := if_pos h
  rw [e]
  obtain ⟨q, hq⟩ : ∃ q, chkP B K = q := ⟨_, rfl⟩
  rw [hq] at hC h ⊢
  have h1 : (q != 0) = true := by simpa using h
  clear e hq h
  go_enter Tryd.func9, Tryd.ntmps9
  go_wp2_with fail
  refine hC.mono ?_
  rintro e w1 ⟨rfl, hb⟩
  have hb1 := hBl.trans (hb.mono hBl.size)
  clear hC hb x0 x1 hBl
  go_wp2
  go_ret2
  exact ⟨rfl, hb1⟩

theorem decode_many (B K : Int) (n k nb : Nat) (la : Option Addr) (m lc : Nat) (ls : List LSym) (w : World) (g : Good B K n k nb) (hB : I64 B) (hK : I64 K) (hm : m ≤ maxLen) (hml : ls.length = m) (h : 60 < m) :
    Calls Tryd.prog 9 #[.agg #[.int .i64 B, .int .i64 K], .slice la m lc] w fun e w' => e = .returned (.tuple #[.slice none 0 0, .int .i64 (decCode B K ls)]) ∧ Below w.heap.size w w' := by
  have hBl : Below w.heap.size w (w.alloc (.cells #[.int .i64 B, .int .i64 K] 23)) := (Below.refl _ _).alloc (Nat.le_refl _) _
  obtain ⟨x0, x1⟩ := Box2.mk w (.int .i64 B) (.int .i64 K) 23
  have hC := cutCheck_any B K (w.alloc (.cells #[.int .i64 B, .int .i64 K] 23)) hB hK
  have e : decCode B K ls = 2 := by rw [decCode, if_neg (by rw [chkP_good g]; simp), if_pos (by omega)]
  rw [chkP_good g] at hC
  rw [e]
  unfold maxLen at hm
  clear e hml
  go_enter Tryd.func9, Tryd.ntmps9
  go_wp2_with fail
  refine hC.mono ?_
  rintro e w1 ⟨rfl, hb⟩
  have hb1 := hBl.trans (hb.mono hBl.size)
  clear hC hb x0 x1 hBl
  go_wp2
  go_ret2
  exact ⟨rfl, hb1⟩

theorem below_new3 {Y w' : World} {x y z : Value} {t : TypeId} (hb : Below ((Y.alloc (.cells #[x, y, z] t)).heap.size) (Y.alloc (.cells #[x, y, z] t)) w') :
    w'.heap[Y.heap.size]? = some (.cells #[x, y, z] t (0, 0)) ∧ w'.cell? ⟨Y.heap.size, 0, none⟩ = some x ∧ w'.cell? ⟨Y.heap.size, 1, none⟩ = some y ∧ w'.cell? ⟨Y.heap.size, 2, none⟩ = some z ∧ w'.frozen? ⟨Y.heap.size, 0, none⟩ = false ∧ w'.frozen? ⟨Y.heap.size, 1, none⟩ = false ∧ w'.frozen? ⟨Y.heap.size, 2, none⟩ = false := by
  have h : w'.heap[Y.heap.size]? = some (.cells #[x, y, z] t (0, 0)) := (hb.block Y.heap.size (by simp)).trans (by rw [heap_alloc_eq, if_pos rfl])
  have x0 := cell_blk h 0
  have x1 := cell_blk h 1
  have x2 := cell_blk h 2
  simp at x0 x1 x2
  exact ⟨h, x0, x1, x2, frozen_blk h 0, frozen_blk h 1, frozen_blk h 2⟩

theorem cells3 {w : World} {b : Nat} {x y z : Value} {t : TypeId} (h : w.heap[b]? = some (.cells #[x, y, z] t (0, 0))) : w.cell? ⟨b, 0, none⟩ = some x ∧ w.cell? ⟨b, 1, none⟩ = some y ∧ w.cell? ⟨b, 2, none⟩ = some z := by
  have x0 := cell_blk h 0
  have x1 := cell_blk h 1
  have x2 := cell_blk h 2
  simp at x0 x1 x2
  exact ⟨x0, x1, x2⟩

theorem below_new3d {Y w' : World} {x y z : Value} {t : TypeId} (hb : Below (((Y.alloc (.cells #[x, y, z] t)).drew).heap.size) ((Y.alloc (.cells #[x, y, z] t)).drew) w') : w'.heap[Y.heap.size]? = some (.cells #[x, y, z] t (0, 0)) := by
  have h0 : ((Y.alloc (.cells #[x, y, z] t)).drew).heap[Y.heap.size]? = some (.cells #[x, y, z] t (0, 0)) := by
    show (Y.alloc (.cells #[x, y, z] t)).heap[Y.heap.size]? = _
    rw [heap_alloc_eq, if_pos rfl]
  exact blk_below h0 hb

theorem DecInv.start {w w9 : World} {B K : Int} {n k nb pb tb : Nat} {ls : List LSym} (g : Good B K n k nb) (hs : w9.heap[tb]? = some (.cells #[.int .i64 nb, .int .i64 K, .slice none 0 0] 53 (0, 0))) (hp : w9.heap[pb]? = some (.cells #[.int .i64 B, .int .i64 K] 23 (0, 0))) (hb : Below w.heap.size w w9) (ht : w.heap.size ≤ tb) : DecInv w w9 B K pb tb nb k ls 0 := by
  have hR0 : Right nb k [] := ⟨g.b1, g.b2, g.k1, g.k2, (fun r hr => by cases hr), Sys.nil⟩
  refine ⟨none, 0, 0, [], [], ⟨?_, Lies.nil _ _, (fun r hr => by cases hr), rfl⟩, rfl, hR0, by simp, hp, hb, ht⟩
  rw [hs, g.eK]

theorem set3_blk {w : World} {b : Nat} {x y z u0 u1 u2 : Value} {t : TypeId} (h : w.heap[b]? = some (.cells #[x, y, z] t (0, 0))) : (((w.setCell ⟨b, 0, none⟩ u0).setCell ⟨b, 1, none⟩ u1).setCell ⟨b, 2, none⟩ u2).heap[b]? = some (.cells #[u0, u1, u2] t (0, 0)) := by
  rw [heap_set (o := 2) (v := u2) (heap_set (o := 1) (v := u1) (heap_set (o := 0) (v := u0) h))]
  simp

set_option maxHeartbeats 4000000 in
set_option maxRecDepth 8000 in
theorem decode_good (B K : Int) (n k nb m : Nat) (la : Option Addr) (lc : Nat) (l : List MSym) (ls : List LSym) (L : List UInt8) (code : Int) (w : World) (g : Good B K n k nb) (hB : I64 B) (hK : I64 K) (hl : Lies w la (symCells l)) (hall : ∀ y ∈ l, SymIn w y) (hm : l.length = m) (h60 : m ≤ 60) (hls : l.map MSym.says = ls) (hL : Laid w) (hdc : decCode B K ls = code) (hdr : decRes B K ls = L) :
    Calls Tryd.prog 9 #[.agg #[.int .i64 B, .int .i64 K], .slice la m lc] w fun e w' => ∃ (a' : Option Addr) (c' : Nat), e = .returned (.tuple #[.slice a' L.length c', .int .i64 code]) ∧ Lies w' a' (bs L) ∧ Below w.heap.size w w' := by
  have hBl : Below w.heap.size w (w.alloc (.cells #[.int .i64 B, .int .i64 K] 23)) := (Below.refl _ _).alloc (Nat.le_refl _) _
  obtain ⟨x0, x1⟩ := Box2.mk w (.int .i64 B) (.int .i64 K) 23
  have HPB : Shut ((w.alloc (.cells #[.int .i64 B, .int .i64 K] 23)).heap[w.heap.size]? = some (.cells #[.int .i64 B, .int .i64 K] 23 (0, 0))) := ⟨by rw [heap_alloc_eq, if_pos rfl]⟩
  have hC := cutCheck_any B K (w.alloc (.cells #[.int .i64 B, .int .i64 K] 23)) hB hK
  rw [chkP_good g] at hC
  have hR0 : Right nb k [] := ⟨g.b1, g.b2, g.k1, g.k2, (fun r hr => by cases hr), Sys.nil⟩
  have hBk : ∀ W, Calls Tryd.prog 20 #[.agg #[.int .i64 B, .int .i64 K]] W fun e w' => e = .returned (.int .i64 nb) ∧ Below W.heap.size W w' := fun W => by
    have h := cutBlocks_any B K W hB hK
    rw [g.eN] at h
    exact h
  have hNw : ∀ W, Calls Tryd.prog 23 #[.int .i64 nb, .int .i64 K] W fun e w' => e = .returned (.tuple #[.agg #[.int .i64 nb, .int .i64 K, .slice none 0 0], .int .i64 0]) ∧ Below W.heap.size W w' := fun W => by
    have hc : chkSys nb K [] = 0 := by rw [g.eK]; exact chk_of_right hR0
    have h := new_any nb K W (.agg #[.int .i64 nb, .int .i64 K, .slice none 0 0]) (by rw [if_pos hc])
    rw [hc] at h
    exact h
  have h60n : ¬ 60 < m := by omega
  have HLS : Shut (ls.length ≤ 60 ∧ ls.length = m) := ⟨by rw [← hls]; simp; omega, by rw [← hls]; simpa using hm⟩
  have HG := Shut.mk g
  have HX := Shut.mk (And.intro hl (And.intro hall (And.intro hm (And.intro hls (And.intro hL (And.intro hdc hdr))))))
  clear hl hall hm hls hL hdc hdr g
  go_enter Tryd.func9, Tryd.ntmps9
  go_wp2_with fail
  refine hC.mono ?_
  rintro e w1 ⟨rfl, hb⟩
  replace HPB := Shut.mk (blk_below HPB.out hb)
  have hb1 := hBl.trans (hb.mono hBl.size)
  clear hC hb x0 x1 hBl
  go_upto_region 6 with fail
  have x0 : w1.drew.cell? ⟨w.heap.size, 0, none⟩ = some (.int .i64 B) := by have := cell_blk HPB.out 0; simp at this; exact this
  have x1 : w1.drew.cell? ⟨w.heap.size, 1, none⟩ = some (.int .i64 K) := by have := cell_blk HPB.out 1; simp at this; exact this
  have HP1 : Shut (w1.drew.cell? ⟨w.heap.size, 0, none⟩ = some (.int .i64 B) ∧ w1.drew.cell? ⟨w.heap.size, 1, none⟩ = some (.int .i64 K)) := ⟨x0, x1⟩
  go_cut [7, 8] from 20 (fun s7 s8 wc => ∃ tb, s7 = .pointer (some ⟨tb, 0, none⟩) ∧ s8 = .int .i64 0 ∧ Shut (DecInv w wc B K w.heap.size tb nb k ls 0))
  case first =>
    have lt1 : w.heap.size < w1.heap.size := blk_lt HPB.out
    go_region_held3 (fun w' => w'.cell? ⟨w.heap.size, 0, none⟩ = some (.int .i64 B) ∧ w'.cell? ⟨w.heap.size, 1, none⟩ = some (.int .i64 K)) (first | exact ⟨by assumption, by assumption⟩ | exact ⟨cellA' (by assumption) _, cellA' (by assumption) _⟩ | (refine ⟨?_, ?_⟩ <;> (rw [World.cell?_setCell_other _ _ _ _ (by intro e; injection e; omega), World.cell?_setCell_other _ _ _ _ (by intro e; injection e; omega), World.cell?_setCell_other _ _ _ _ (by intro e; injection e; omega)]; assumption))) (first | (go_at_call 20; refine (hBk _).mono ?_; rintro e w4 ⟨rfl, hb4⟩; have v0 := cellC (b := w.heap.size) (o := 0) (v := .int .i64 B) (by first | assumption | exact cellA' (by assumption) _) hb4; have v1 := cellC (b := w.heap.size) (o := 1) (v := .int .i64 K) (by first | assumption | exact cellA' (by assumption) _) hb4; have lt4 := World.block_lt_of_cell? w4 _ v0; simp at lt4; first | (have tk : w4.heap[w1.heap.size]? = some (.cells #[.int .i64 0, .int .i64 0, .slice none 0 0] 53 (0, 0)) := (by first | exact (below_new3 (Y := w1.drew) hb4).1 | exact below_new3d (Y := w1) hb4); have t0 : w4.cell? ⟨w1.heap.size, 0, none⟩ = some (.int .i64 0) := (cells3 tk).1; have t1 : w4.cell? ⟨w1.heap.size, 1, none⟩ = some (.int .i64 0) := (cells3 tk).2.1; have t2 : w4.cell? ⟨w1.heap.size, 2, none⟩ = some (.slice none 0 0) := (cells3 tk).2.2; have t3 := frozen_blk tk 0; have t4 := frozen_blk tk 1; have t5 := frozen_blk tk 2) | skip) | (go_at_call 23; refine (hNw _).mono ?_; rintro e w5 ⟨rfl, hb5⟩; have v2 := cellC (b := w.heap.size) (o := 0) (v := .int .i64 B) (by first | assumption | exact cellA' (by assumption) _) hb5; have v3 := cellC (b := w.heap.size) (o := 1) (v := .int .i64 K) (by first | assumption | exact cellA' (by assumption) _) hb5; first | (have tk2 : w5.heap[w4.heap.size]? = some (.cells #[.int .i64 0, .int .i64 0, .slice none 0 0] 53 (0, 0)) := (below_new3 (Y := w4) hb5).1; have s0 : w5.cell? ⟨w4.heap.size, 0, none⟩ = some (.int .i64 0) := (cells3 tk2).1; have s1 : w5.cell? ⟨w4.heap.size, 1, none⟩ = some (.int .i64 0) := (cells3 tk2).2.1; have s2 : w5.cell? ⟨w4.heap.size, 2, none⟩ = some (.slice none 0 0) := (cells3 tk2).2.2; have s3 := frozen_blk tk2 0; have s4 := frozen_blk tk2 1; have s5 := frozen_blk tk2 2) | (have tk2 : w5.heap[w1.heap.size]? = some (.cells #[.int .i64 0, .int .i64 0, .slice none 0 0] 53 (0, 0)) := blk_below tk hb5; have s0 : w5.cell? ⟨w1.heap.size, 0, none⟩ = some (.int .i64 0) := (cells3 tk2).1; have s1 : w5.cell? ⟨w1.heap.size, 1, none⟩ = some (.int .i64 0) := (cells3 tk2).2.1; have s2 : w5.cell? ⟨w1.heap.size, 2, none⟩ = some (.slice none 0 0) := (cells3 tk2).2.2; have s3 := frozen_blk tk2 0; have s4 := frozen_blk tk2 1; have s5 := frozen_blk tk2 2) | skip))
    · have d4 : Below w1.heap.size w1 w4 := ((Below.refl w1.heap.size w1).drew).trans hb4
      have d5 := d4.trans (hb5.mono d4.size)
      have d6 : Below w1.heap.size w1 (w5.alloc (.cells #[.int .i64 nb, .int .i64 K, .slice none 0 0] 53)) := d5.alloc d5.size _
      have R0 : Shut (DecInv w (w5.alloc (.cells #[.int .i64 nb, .int .i64 K, .slice none 0 0] 53)) B K w.heap.size w5.heap.size nb k ls 0) := ⟨DecInv.start HG.out (by rw [heap_alloc_eq, if_pos rfl]) (blk_below HPB.out d6) (hb1.trans (d6.mono hb1.size)) (Nat.le_trans hb1.size d5.size)⟩
      clear hb4 hb5 d4 d5 d6
      go_wp2
      go_meet
      exact ⟨_, rfl, rfl, R0⟩
    · have d4 : Below w1.heap.size w1 w4 := ((Below.refl w1.heap.size w1).drew).trans hb4
      have d4' : Below w1.heap.size w1 (w4.alloc (.cells #[.int .i64 0, .int .i64 0, .slice none 0 0] 53)) := d4.alloc d4.size _
      have d5 := d4'.trans (hb5.mono d4'.size)
      have hle : w.heap.size ≤ w4.heap.size := Nat.le_trans hb1.size d4.size
      have d6 := (((hb1.trans (d5.mono hb1.size)).setCell (p := ⟨w4.heap.size, 0, none⟩) (by simpa using hle) (.int .i64 nb)).setCell (p := ⟨w4.heap.size, 1, none⟩) (by simpa using hle) (.int .i64 K)).setCell (p := ⟨w4.heap.size, 2, none⟩) (by simpa using hle) (.slice none 0 0)
      have hne : w.heap.size ≠ w4.heap.size := by have := blk_lt (blk_below HPB.out d4); omega
      have R0 := Shut.mk (DecInv.start (ls := ls) HG.out (set3_blk tk2) (block_set (block_set (block_set (blk_below HPB.out d5) hne) hne) hne) d6 hle)
      clear hb4 hb5 d4 d4' d5 d6
      go_wp2
      go_meet
      exact ⟨_, rfl, rfl, R0⟩
    · have d4' : Below w1.heap.size w1 ((w1.alloc (.cells #[.int .i64 0, .int .i64 0, .slice none 0 0] 53)).drew) := ((Below.refl _ _).alloc (Nat.le_refl _) _).drew
      have d4 := d4'.trans (hb4.mono d4'.size)
      have d5 := d4.trans (hb5.mono d4.size)
      have hle : w.heap.size ≤ w1.heap.size := hb1.size
      have d6 := (((hb1.trans (d5.mono hb1.size)).setCell (p := ⟨w1.heap.size, 0, none⟩) (by simpa using hle) (.int .i64 nb)).setCell (p := ⟨w1.heap.size, 1, none⟩) (by simpa using hle) (.int .i64 K)).setCell (p := ⟨w1.heap.size, 2, none⟩) (by simpa using hle) (.slice none 0 0)
      have hne : w.heap.size ≠ w1.heap.size := by omega
      have R0 := Shut.mk (DecInv.start (ls := ls) HG.out (set3_blk tk2) (block_set (block_set (block_set (blk_below HPB.out d5) hne) hne) hne) d6 hle)
      clear hb4 hb5 d4 d4' d5 d6
      go_wp2
      go_meet
      exact ⟨_, rfl, rfl, R0⟩
  case rest =>
    obtain ⟨tb, rfl, rfl, H0⟩ := hcut
    clear x0 x1 HP1 hBk hNw HPB hb1 hR0
    go_wp2
    go_loopw [33] (fun v wr => ∃ q : Nat, q ≤ m ∧ v = .int .i64 q ∧ Shut (DecInv w wr B K w.heap.size tb nb k ls q)) (fun v _ => m - (intOf v).toNat)
    case atStart => exact ⟨0, Nat.zero_le _, rfl, H0⟩
    case round =>
      clear H0
      obtain ⟨q, hq, rfl, HI⟩ := hrel
      by_cases hlt : q < m
      · obtain ⟨a, am, ac, rows, A, hS, hm, hR, hal, hpb, hbw, htb⟩ := HI.out
        have hql : q < l.length := by rw [HX.out.2.2.1]; exact hlt
        have hlw := HX.out.1.below hbw (Nat.le_refl _)
        obtain ⟨ab, ao, haa⟩ := hlw.some (k := 2 * q) (by rw [symCells_length]; omega)
        rw [haa] at hlw
        obtain ⟨a0, a1⟩ := sym_at hlw hql
        have hY := (HX.out.2.1 _ (List.getElem_mem hql)).below hbw
        have HDR : Shut (ls.drop q = l[q].says :: ls.drop (q + 1)) := ⟨by
          have e : ls[q]? = some l[q].says := by rw [← HX.out.2.2.2.1]; simp [hql]
          have hlt2 : q < ls.length := (List.getElem?_eq_some_iff.1 e).1
          rw [List.drop_eq_getElem_cons hlt2]
          rw [List.getElem?_eq_getElem hlt2] at e
          rw [Option.some.inj e]⟩
        generalize l[q]'hql = Y at *
        obtain ⟨v0, v1⟩ := Box2.mk wr (.int .i64 Y.id) Y.dv 39
        have bd : Below wr.heap.size wr (wr.alloc (.cells #[.int .i64 Y.id, Y.dv] 39)) := (Below.refl _ _).alloc (Nat.le_refl _) _
        have hS2 := hS.below bd
        have hp2 := blk_below hpb bd
        have hb2 := hbw.trans (bd.mono hbw.size)
        have hY2 := hY.below bd
        obtain ⟨s0, s1, s2, sf⟩ := hS2.cells
        have p0 := cell_blk hp2 0
        have p1 := cell_blk hp2 1
        simp at p0 p1
        have HST := Shut.mk (And.intro hS2 (And.intro hm (And.intro hR (And.intro hal (And.intro hp2 (And.intro hb2 htb))))))
        obtain ⟨W5, hW5⟩ : ∃ W5, wr.alloc (.cells #[.int .i64 Y.id, Y.dv] 39) = W5 := ⟨_, rfl⟩
        rw [hW5] at hY2 HST
        have HW5 := Shut.mk hW5
        have HYS := Shut.mk hY2
        clear hS hm hR hal hpb hbw htb HI hS2 hp2 hb2 bd hY hlw hW5 hY2 sf
        obtain ⟨yid, ya, yc, yd⟩ := Y
        simp only [MSym.dv] at *
        subst haa
        by_cases hck : chkS B K yid yd.length = 0
        · obtain ⟨i, hi, hi9, hdk⟩ := chkS_zero HG.out hck
          subst hi
          have hck2 := hck
          rw [hdk] at hck2
          have hWt := with_good n nb k am i a ac rows A B K ya yc yd W5 HG.out hB hK HST.out.1.2.1 (fun x hx => (HST.out.1.2.2.1 x hx).1) HST.out.2.1 HST.out.1.2.2.2 HST.out.2.2.1 HYS.out.1 hdk hi9 (HX.out.2.2.2.2.1.below HST.out.2.2.2.2.2.1) hck2
          have HDK := Shut.mk hdk
          have HCK := Shut.mk hck
          rw [← hdk] at hWt
          have HRO : Shut (rowOf nb ((i : Int), yd) = (maskL nb i, yd)) := ⟨by simp [rowOf]⟩
          clear hck hck2 hdk
          go_wp2_with fail
          rw [HW5.out]
          rw [HDK.out] at hWt ⊢
          refine hWt.mono ?_
          rintro e w6 ⟨hcase, hb6⟩
          have hS6 := HST.out.1.below hb6
          obtain ⟨t0, t1, t2, tf⟩ := hS6.cells
          have f0 := tf 0
          have f1 := tf 1
          have f2 := tf 2
          have hbw6 := HST.out.2.2.2.2.2.1.trans (hb6.mono HST.out.2.2.2.2.2.1.size)
          have htb := HST.out.2.2.2.2.2.2
          rcases hcase with ⟨hno, rfl⟩ | ⟨P, a', c', rows', hP, rfl, hl6, hr6, hs6, hn6⟩
          · have hst : stepL B K nb A ((i : Int), yd) = (9, []) := stepL_torn HCK.out (by rw [HRO.out]; exact hno)
            have hdd := dec_code_err HG.out HLS.out.1 (q := 9) (by rw [HST.out.2.2.2.1, HDR.out]; show allL B K nb A (((i : Int), yd) :: _) = _; rw [allL_bad (by rw [hst]; decide), hst]) (by decide)
            have HDD : Shut (code = 9 ∧ L = []) := ⟨by rw [← HX.out.2.2.2.2.2.1]; exact hdd.1, by rw [← HX.out.2.2.2.2.2.2]; exact hdd.2⟩
            have hF := ((hbw6.setCell (p := ⟨tb, 0, none⟩) (by simpa using htb) (.int .i64 0)).setCell (p := ⟨tb, 1, none⟩) (by simpa using htb) (.int .i64 0)).setCell (p := ⟨tb, 2, none⟩) (by simpa using htb) (.slice none 0 0)
            clear hno hst hdd hWt hS6 tf v0 v1 s0 s1 s2 p0 p1 a0 a1 hb6
            go_wp2
            go_ret2
            exact ⟨none, 0, by rw [HDD.out.1, HDD.out.2]; rfl, by rw [HDD.out.2]; exact Lies.nil _ _, hF⟩
          · obtain ⟨m', hm'⟩ : ∃ m', rows'.length = m' := ⟨_, rfl⟩
            have hst : stepL B K nb A ((i : Int), yd) = (0, P) := stepL_ok HCK.out (by rw [HRO.out]; exact hP)
            have hRP := (addL_right HST.out.2.2.1 ⟨maskL_length nb i, HDK.out⟩ hP).1
            have hne : ∀ c o, a' = some ⟨c, o, none⟩ → c ≠ tb := fun c o e => by
              have h1 := hn6 c o e
              have h2 := blk_lt HST.out.1.1
              omega
            have hpl := blk_below HST.out.2.2.2.2.1 hb6
            have R1 : Shut (DecInv w (((w6.setCell ⟨tb, 0, none⟩ (.int .i64 nb)).setCell ⟨tb, 1, none⟩ (.int .i64 k)).setCell ⟨tb, 2, none⟩ (.slice a' m' c')) B K w.heap.size tb nb k ls (q + 1)) := ⟨a', m', c', rows', P, hS6.put hl6 hr6 hs6 hne hRP, hm', hRP, by rw [HST.out.2.2.2.1, HDR.out]; show allL B K nb A (((i : Int), yd) :: _) = _; rw [allL_go (by rw [hst]), hst], by
                by_cases hpt : w.heap.size = tb
                · exfalso
                  have h1 := HST.out.1.1
                  have h2 := HST.out.2.2.2.2.1
                  rw [hpt] at h2
                  rw [h1] at h2
                  simp at h2
                · exact block_set (block_set (block_set hpl hpt) hpt) hpt, ((hbw6.setCell (p := ⟨tb, 0, none⟩) (by simpa using htb) (.int .i64 nb)).setCell (p := ⟨tb, 1, none⟩) (by simpa using htb) (.int .i64 k)).setCell (p := ⟨tb, 2, none⟩) (by simpa using htb) (.slice a' m' c'), htb⟩
            rw [hm']
            clear hP hst hRP hne hpl hWt hS6 tf v0 v1 s0 s1 s2 p0 p1 a0 a1 hb6 hl6 hr6 hs6 hn6 hm' hbw6
            go_wp2
            go_roundw
            case rel => exact ⟨q + 1, by omega, by go_num, R1⟩
            case measure => simp [intOf]; omega
        · have hWt := with_chk nb k am a ac B K yid ya yd.length yc W5 hB hK HYS.out.2 hck
          obtain ⟨qc, hqc⟩ : ∃ qc, chkS B K yid yd.length = qc := ⟨_, rfl⟩
          have HCK := Shut.mk hck
          have HQC := Shut.mk hqc
          rw [hqc] at hWt hck
          have hq1 : (qc != 0) = true := by simpa using hck
          clear hqc hck
          go_wp2_with fail
          rw [HW5.out]
          refine hWt.mono ?_
          rintro e w6 ⟨rfl, hb6⟩
          have hS6 := HST.out.1.below hb6
          obtain ⟨t0, t1, t2, tf⟩ := hS6.cells
          have f0 := tf 0
          have f1 := tf 1
          have f2 := tf 2
          have hbw6 := HST.out.2.2.2.2.2.1.trans (hb6.mono HST.out.2.2.2.2.2.1.size)
          have htb := HST.out.2.2.2.2.2.2
          have hst : stepL B K nb A (yid, yd) = (qc, []) := by rw [← HQC.out]; exact stepL_chk HCK.out
          have hqn : qc ≠ 0 := by rw [← HQC.out]; exact HCK.out
          have hdd := dec_code_err HG.out HLS.out.1 (q := qc) (by rw [HST.out.2.2.2.1, HDR.out]; show allL B K nb A ((yid, yd) :: _) = _; rw [allL_bad (by rw [hst]; exact hqn), hst]) hqn
          have HDD : Shut (code = qc ∧ L = []) := ⟨by rw [← HX.out.2.2.2.2.2.1]; exact hdd.1, by rw [← HX.out.2.2.2.2.2.2]; exact hdd.2⟩
          have hF := ((hbw6.setCell (p := ⟨tb, 0, none⟩) (by simpa using htb) (.int .i64 0)).setCell (p := ⟨tb, 1, none⟩) (by simpa using htb) (.int .i64 0)).setCell (p := ⟨tb, 2, none⟩) (by simpa using htb) (.slice none 0 0)
          clear hst hdd hWt hS6 tf v0 v1 s0 s1 s2 p0 p1 a0 a1 hb6 hqn
          go_wp2
          go_ret2
          exact ⟨none, 0, by rw [HDD.out.1, HDD.out.2]; rfl, by rw [HDD.out.2]; exact Lies.nil _ _, hF⟩
      · obtain ⟨a, am, ac, rows, A, hS, hm, hR, hal, hpb, hbw, htb⟩ := HI.out
        have hls : ls.length ≤ 60 := HLS.out.1
        have hdr : ls.drop q = [] := List.drop_of_length_le (by rw [HLS.out.2]; omega)
        rw [hdr] at hal
        obtain ⟨hsh, hlo⟩ := dec_code_end HG.out hls (A := A) hal
        rw [HX.out.2.2.2.2.2.1, HX.out.2.2.2.2.2.2] at hsh hlo
        have hAl : A.length = am := by rw [← hm, ← hS.2.2.2]; simp
        rw [hAl] at hsh hlo
        obtain ⟨s0, s1, s2, sf⟩ := hS.cells
        have hb24 := HG.out.b2
        have ham : am ≤ 24 := by have := hR.few; omega
        have HSH := Shut.mk (And.intro hsh hlo)
        have HST := Shut.mk (And.intro hS (And.intro hm (And.intro hR hpb)))
        clear hsh hlo hal hdr hls hS hm hR hpb sf HI hAl
        by_cases hle : am < nb
        · have hdd := HSH.out.1 hle
          have HDD := Shut.mk hdd
          have hlei : (am : Int) < nb := by omega
          clear hdd HSH
          go_wp2
          go_ret2
          exact ⟨none, 0, by rw [HDD.out.1, HDD.out.2]; rfl, by rw [HDD.out.2]; exact Lies.nil _ _, hbw⟩
        · have HDD := Shut.mk (HSH.out.2 hle)
          have hKn := knownS_right nb k am a ac rows A wr HST.out.1.2.1 (fun x hx => (HST.out.1.2.2.1 x hx).1) (fun x hx => (HST.out.1.2.2.1 x hx).2) HST.out.2.1 HST.out.1.2.2.2 HST.out.2.2.1
          clear HSH
          go_wp2_with fail
          refine hKn.mono ?_
          rintro e w7 ⟨g7, bl, rfl, hl7, hin7, hcp7, hkn7, hb7⟩
          have hpb7 := blk_below HST.out.2.2.2 hb7
          have p0 := cell_blk hpb7 0
          have p1 := cell_blk hpb7 1
          simp at p0 p1
          have hbl : bl.length = nb := by have := congrArg List.length hkn7; rw [knownL_length] at this; simpa using this
          have hJ := join_any B K (some ⟨g7, 0, none⟩) nb bl w7 hB hK (by unfold maxLen; omega) hl7 hin7 (fun b hb => (hcp7 b hb).1)
          rw [hkn7, ← HDD.out.1, ← HDD.out.2, hbl] at hJ
          replace hbw := hbw.trans (hb7.mono hbw.size)
          clear hKn hl7 hin7 hcp7 hkn7 hb7 hpb7 s0 s1 s2 hbl
          go_wp2_with fail
          refine hJ.mono ?_
          rintro e w8 ⟨a8, rfl, hl8, hb8⟩
          replace hbw := hbw.trans (hb8.mono hbw.size)
          clear hJ hb8 p0 p1
          go_wp2
          go_ret2
          exact ⟨a8, _, rfl, hl8, hbw⟩

/-- solve.Decode of any plan and symbols -/
theorem decode_any (B K : Int) (la : Option Addr) (lc : Nat) (l : List MSym) (w : World) (hB : I64 B) (hK : I64 K) (hl : Lies w la (symCells l)) (hall : ∀ y ∈ l, SymIn w y) (hm : l.length ≤ maxLen) (hL : Laid w) :
    Calls Tryd.prog 9 #[.agg #[.int .i64 B, .int .i64 K], .slice la l.length lc] w fun e w' => ∃ (a' : Option Addr) (c' : Nat), e = .returned (.tuple #[.slice a' (decRes B K (l.map MSym.says)).length c', .int .i64 (decCode B K (l.map MSym.says))]) ∧ Lies w' a' (bs (decRes B K (l.map MSym.says))) ∧ Below w.heap.size w w' := by
  by_cases hc : chkP B K = 0
  · obtain ⟨n, k, nb, g⟩ := good_of hc
    by_cases h60 : l.length ≤ 60
    · exact decode_good B K n k nb l.length la lc l _ _ _ w g hB hK hl hall rfl h60 rfl hL rfl rfl
    · have e : decRes B K (l.map MSym.says) = [] := by rw [decRes, if_neg (by rw [hc]; simp), if_pos (by simp; omega)]
      rw [e]
      refine (decode_many B K n k nb la l.length lc (l.map MSym.says) w g hB hK hm (by simp) (by omega)).mono ?_
      rintro e w' ⟨rfl, hb⟩
      exact ⟨none, 0, rfl, Lies.nil _ _, hb⟩
  · have e : decRes B K (l.map MSym.says) = [] := if_pos hc
    rw [e]
    refine (decode_plan B K la l.length lc (l.map MSym.says) w hB hK hc).mono ?_
    rintro e w' ⟨rfl, hb⟩
    exact ⟨none, 0, rfl, Lies.nil _ _, hb⟩

end Go.Proofs.YtkiejflgphjfjacDoor

/-
  Chapter 5's Decode, pure: symbols of a cargo, in whatever order; when all is known; a byte that is turned.
-/
namespace Go.Proofs.YtkiejflgphjfjacDoor
open Go.RowKit
set_option linter.unusedVariables false
set_option linter.unusedSimpArgs false

theorem allL_some {B K : Int} {n k nb : Nat} (g : Good B K n k nb) : ∀ {l : List LSym} {A P : List LRow}, Right nb k A → allL B K nb A l = (0, P) → addAll A (l.map (rowOf nb)) = some P ∧ ∀ y ∈ l, y.2.length = k := by
  intro l
  induction l with
  | nil => intro A P _ h; simp only [allL, Prod.mk.injEq, true_and] at h; subst h; exact ⟨rfl, fun y hy => by cases hy⟩
  | cons y l ih =>
    intro A P hA h
    by_cases h0 : (stepL B K nb A y).1 = 0
    · rw [allL_go h0] at h
      obtain ⟨e1, e2, e3⟩ := stepL_right g hA h0
      obtain ⟨p1, p2⟩ := ih e3 h
      refine ⟨?_, fun z hz => ?_⟩
      · simp only [List.map_cons, addAll, e1, Option.bind_some]
        exact p1
      · rcases List.mem_cons.1 hz with rfl | hz
        · exact e2
        · exact p2 z hz
    · rw [allL_bad h0] at h
      exact absurd (congrArg Prod.fst h) h0

theorem allL_of {B K : Int} {n k nb : Nat} (g : Good B K n k nb) : ∀ {l : List LSym} {A P : List LRow}, (∀ y ∈ l, chkS B K y.1 y.2.length = 0) → addAll A (l.map (rowOf nb)) = some P → allL B K nb A l = (0, P) := by
  intro l
  induction l with
  | nil => intro A P _ h; simp only [List.map_nil, addAll, Option.some.injEq] at h; subst h; rfl
  | cons y l ih =>
    intro A P hl h
    simp only [List.map_cons, addAll] at h
    cases ha : addL A (rowOf nb y) with
    | none => rw [ha] at h; cases h
    | some Q =>
      rw [ha] at h
      have hs := stepL_ok (hl y List.mem_cons_self) ha
      rw [allL_go (by rw [hs]), hs]
      exact ih (fun z hz => hl z (List.mem_cons_of_mem _ hz)) h

/-- a symbol of a cargo -/
noncomputable def symOf (nb k : Nat) (c : List UInt8) (i : Nat) : LSym := ((i : Int), symL nb k c i)

theorem symOf_row (nb k : Nat) (c : List UInt8) (i : Nat) : rowOf nb (symOf nb k c i) = symRow nb k c i := by simp [rowOf, symOf, symRow]

theorem symOf_chk {B K : Int} {n k nb i : Nat} (g : Good B K n k nb) (c : List UInt8) (hi : i ≤ 9999) : chkS B K (symOf nb k c i).1 (symOf nb k c i).2.length = 0 := by
  refine chkS_ok (chkP_good g) (by simp only [symOf]; omega) ?_
  simp only [symOf, symL_length]
  exact g.eK.symm

/-- all rows there are: each has one block alone -/
theorem full_units {nb k : Nat} {P : List LRow} (hP : Right nb k P) (hl : P.length = nb) {j : Nat} (hj : j < P.length) : P[j].1.count true = 1 ∧ firstI P[j].1 = j := by
  have hu := hP.sys.units hP.of (by simpa using hl) j (by simpa using hj)
  simp only [List.getElem_map] at hu
  have hlead : Lead (LRow.v P[j]) j := ⟨by rw [hu j]; simp, fun i hi => by rw [hu i]; simp; omega⟩
  have hf := firstI_lead.2 hlead
  refine ⟨?_, hf⟩
  rw [count_one hf]
  intro hm
  obtain ⟨i, hi, he⟩ := List.getElem_of_mem hm
  rw [List.getElem_drop] at he
  have hlt : j + 1 + i < P[j].1.length := by simp at hi; omega
  have h := hu (j + 1 + i)
  rw [LRow.v_has hlt, he, decide_eq_false (by omega)] at h
  cases h

/-- all that is known, where all rows are there -/
theorem full_known {nb k : Nat} {P : List LRow} (hP : Right nb k P) (hl : P.length = nb) : knownL nb P = P.map Prod.snd := by
  apply List.ext_getElem?
  intro j
  by_cases hj : j < nb
  · have hj' : j < P.length := by omega
    obtain ⟨h1, h2⟩ := full_units hP hl hj'
    rw [known_has hP (List.getElem_mem hj') hj h1 h2]
    simp [hj']
  · rw [List.getElem?_eq_none (by rw [knownL_length]; omega), List.getElem?_eq_none (by simp; omega)]

theorem piece_of {k j : Nat} {c d : List UInt8} (hd : d.length = k) (h : ∀ i, d.getD i 0 = blkAt k c j i) : d = piece k j c := by
  apply List.ext_getElem (by rw [hd, piece_length])
  intro i h1 h2
  have := h i
  rw [List.getD_eq_getElem?_getD, List.getElem?_eq_getElem h1] at this
  unfold blkAt at this
  rw [List.getD_eq_getElem?_getD, List.getElem?_eq_getElem h2] at this
  simpa using this

/-- of true rows: all is known, and it is the cargo's blocks -/
theorem full_true {nb k : Nat} {c : List UInt8} {P : List LRow} (hP : Right nb k P) (hl : P.length = nb) (hT : ∀ s ∈ P, Tr nb (blkAt k c) (LRow.v s)) : knownL nb P = cutL nb k c := by
  rw [full_known hP hl]
  apply List.ext_getElem
  · simp [cutL_length, hl]
  · intro j h1 h2
    have hj : j < P.length := by simpa using h1
    obtain ⟨u1, u2⟩ := full_units hP hl hj
    have hu := unit_has u1 u2
    have h := (hT _ (List.getElem_mem hj)).one (by omega) hu
    simp only [List.getElem_map, cutL, List.getElem_range]
    exact piece_of (hP.fits _ (List.getElem_mem hj)).2 h

/-- the rows of symbols of a cargo -/
theorem sym_rows {B K : Int} {n k nb : Nat} (g : Good B K n k nb) (c : List UInt8) (ids : List Nat) (hi : ∀ i ∈ ids, i ≤ 9999) : ∃ P, addAll [] (ids.map (symRow nb k c)) = some P ∧ Right nb k P ∧ (∀ v, Span (P.map LRow.v) v ↔ Span ((ids.map (symRow nb k c)).map LRow.v) v) ∧ (∀ s ∈ P, Tr nb (blkAt k c) (LRow.v s)) ∧
    allL B K nb [] (ids.map (symOf nb k c)) = (0, P) := by
  have hR0 : Right nb k [] := ⟨g.b1, g.b2, g.k1, g.k2, (fun r hr => by cases hr), Sys.nil⟩
  have hfit : ∀ r ∈ ids.map (symRow nb k c), Fits nb k r ∧ Tr nb (blkAt k c) (LRow.v r) := fun r hr => by
    obtain ⟨i, _, rfl⟩ := List.mem_map.1 hr
    exact ⟨symRow_fits nb k c i, symRow_true g.b1 g.b2⟩
  obtain ⟨P, hP, hT⟩ := addAll_true (B := blkAt k c) hR0 (fun s hs => by cases hs) hfit
  obtain ⟨p1, p2⟩ := addAll_right hR0 (fun r hr => (hfit r hr).1) hP
  refine ⟨P, hP, p1, by simpa using p2, hT, ?_⟩
  refine allL_of g (fun y hy => ?_) ?_
  · obtain ⟨i, hi', rfl⟩ := List.mem_map.1 hy
    exact symOf_chk g c (hi i hi')
  · rw [List.map_map]
    have e : (rowOf nb ∘ symOf nb k c) = symRow nb k c := funext fun i => symOf_row nb k c i
    rw [e]
    exact hP

theorem nB_good {B K : Int} {n k nb : Nat} (g : Good B K n k nb) : (nB B K).toNat = nb := by rw [g.eN]; simp

/-- what Decode answers of symbols of a cargo -/
theorem dec_true {B K : Int} {n k nb : Nat} (g : Good B K n k nb) {c : List UInt8} (hc : c.length = n) {ids : List Nat} (hi : ∀ i ∈ ids, i ≤ 9999) (hl : ids.length ≤ 60) {P : List LRow} (hP : addAll [] (ids.map (symRow nb k c)) = some P) :
    (P.length < nb ∧ decCode B K (ids.map (symOf nb k c)) = 8 ∧ decRes B K (ids.map (symOf nb k c)) = []) ∨ (P.length = nb ∧ decCode B K (ids.map (symOf nb k c)) = 0 ∧ decRes B K (ids.map (symOf nb k c)) = c) := by
  obtain ⟨P', hP', hR, hS, hT, hA⟩ := sym_rows g c ids hi
  rw [hP] at hP'
  cases hP'
  have hfew := hR.few
  have e0 : ¬ (chkP B K ≠ 0) := by rw [chkP_good g]; simp
  have e1 : ¬ 60 < (ids.map (symOf nb k c)).length := by simp; omega
  have e2 : ¬ ((0 : Int) ≠ 0) := by simp
  unfold decCode decRes
  rw [if_neg e0, if_neg e1, if_neg e0, if_neg e1, nB_good g, hA]
  simp only [if_neg e2]
  by_cases h : P.length < nb
  · exact .inl ⟨h, if_pos h, if_pos h⟩
  · have hn : P.length = nb := by omega
    have hk := full_true hR hn hT
    obtain ⟨c1, c2⟩ := cutCode_good g hc
    obtain ⟨j1, j2⟩ := join_cut c1
    rw [c2] at j1 j2
    refine .inr ⟨hn, ?_, ?_⟩
    · rw [if_neg h, hk]; exact j1
    · rw [if_neg h, hk]; exact j2

/-- where others say as much, there are as many rows -/
theorem full_more {nb k : Nat} {P Q : List LRow} (hP : Right nb k P) (hQ : Right nb k Q) (hl : P.length = nb) (h : ∀ v, Span (P.map LRow.v) v → Span (Q.map LRow.v) v) : Q.length = nb := by
  have := hQ.sys.full hQ.of fun j hj => by
    have hj' : j < P.length := by omega
    obtain ⟨u1, u2⟩ := full_units hP hl hj'
    exact ⟨LRow.v P[j], h _ (.mem (List.mem_map_of_mem (List.getElem_mem hj'))), firstI_lead.1 u2⟩
  simpa using this

/-- the first symbols are enough -/
theorem first_enough {B K : Int} {n k nb : Nat} (g : Good B K n k nb) (c : List UInt8) {ids : List Nat} {P : List LRow} (hR : Right nb k P) (hS : ∀ v, Span (P.map LRow.v) v ↔ Span ((ids.map (symRow nb k c)).map LRow.v) v) (h : ∀ j, j < nb → j ∈ ids) : P.length = nb := by
  have := hR.sys.full hR.of fun j hj => by
    refine ⟨LRow.v (symRow nb k c j), (hS _).2 (.mem (List.mem_map_of_mem (List.mem_map_of_mem (h j hj)))), ?_⟩
    have e : ∀ i, (LRow.v (symRow nb k c j)).has i = decide (i = j) := fun i => by
      unfold symRow
      rw [maskL_has _ g.b1 g.b2, chosen_low hj]
      simp [mask]
    exact ⟨by rw [e]; simp, fun i hi => by rw [e]; simp; omega⟩
  simpa using this

/-- a symbol with its first byte turned is never of the cargo -/
theorem never_turned {B K : Int} {n k nb : Nat} (g : Good B K n k nb) {c : List UInt8} {l : List LSym} {i : Nat} {d : List UInt8} (hm : ((i : Int), d) ∈ l) (hd : d.getD 0 0 ≠ (symL nb k c i).getD 0 0) (h0 : decCode B K l = 0) (h1 : decRes B K l = c) : False := by
  have hR0 : Right nb k [] := ⟨g.b1, g.b2, g.k1, g.k2, (fun r hr => by cases hr), Sys.nil⟩
  have e0 : ¬ (chkP B K ≠ 0) := by rw [chkP_good g]; simp
  unfold decCode at h0
  unfold decRes at h1
  rw [if_neg e0] at h0 h1
  by_cases h60 : 60 < l.length
  · rw [if_pos h60] at h0; cases h0
  rw [if_neg h60, nB_good g] at h0 h1
  by_cases ha : (allL B K nb [] l).1 = 0
  · rw [if_neg (by rw [ha]; simp)] at h0 h1
    by_cases hlt : (allL B K nb [] l).2.length < nb
    · rw [if_pos hlt] at h0; cases h0
    rw [if_neg hlt] at h0 h1
    obtain ⟨P, hP⟩ : ∃ P, allL B K nb [] l = (0, P) := ⟨(allL B K nb [] l).2, by rw [← ha]⟩
    rw [hP] at h0 h1 hlt
    simp only at h0 h1 hlt
    obtain ⟨a1, a2⟩ := allL_some g hR0 hP
    obtain ⟨r1, r2⟩ := addAll_right hR0 (fun r hr => by
      obtain ⟨y, hy, rfl⟩ := List.mem_map.1 hr
      exact rowOf_fits (a2 y hy)) a1
    have hn : P.length = nb := by have := r1.few; omega
    obtain ⟨c1, c2⟩ := cut_join h0
    rw [h1] at c1 c2
    have hcl : c.length = n := by
      obtain ⟨n', k', nb', g', e'⟩ := cutCode_zero c1
      have := g.eB
      have := g'.eB
      omega
    rw [(cutCode_good g hcl).2, full_known r1 hn] at c2
    have hT : ∀ s ∈ P, Tr nb (blkAt k c) (LRow.v s) := by
      intro s hs
      obtain ⟨j, hj, rfl⟩ := List.getElem_of_mem hs
      obtain ⟨u1, u2⟩ := full_units r1 hn hj
      have hu := unit_has u1 u2
      intro t
      rw [sumAt_one hu, if_pos (by omega)]
      have e : P[j].2 = piece k j c := by
        have := congrArg (fun x => x[j]?) c2
        simp only [List.getElem?_map, List.getElem?_eq_getElem hj, Option.map_some, cutL_get c (show j < nb by omega), Option.some.injEq] at this
        exact this.symm
      show P[j].2.getD t 0 = blkAt k c j t
      rw [e]
      rfl
    have hsp : Span (P.map LRow.v) (LRow.v (rowOf nb ((i : Int), d))) := (r2 _).2 (.mem (by
      simp only [List.nil_append]
      exact List.mem_map_of_mem (List.mem_map_of_mem hm)))
    have ht := (hsp.tr fun s hs => by
      obtain ⟨t, ht, rfl⟩ := List.mem_map.1 hs
      exact hT t ht) 0
    have hs := symRow_true (k := k) (c := c) (i := i) g.b1 g.b2 0
    have e1 : (LRow.v (rowOf nb ((i : Int), d))).has = (LRow.v (symRow nb k c i)).has := by
      funext j
      show (maskL nb ((i : Int)).toNat).getD j false = (maskL nb i).getD j false
      simp
    rw [e1, ← hs] at ht
    exact hd ht
  · rw [if_pos ha] at h0
    exact ha h0

end Go.Proofs.YtkiejflgphjfjacDoor
