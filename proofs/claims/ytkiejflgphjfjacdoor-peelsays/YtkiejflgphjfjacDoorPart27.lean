/-
  bottlepostref.Peeled: its contract: what Known's is.
-/
import Derived.Test.YtkiejflgphjfjacDoorPart22
import Derived.Test.YtkiejflgphjfjacDoorPart23
import Derived.Test.YtkiejflgphjfjacDoorPart26
namespace Go.Proofs.YtkiejflgphjfjacDoor
open Go.RowKit
set_option linter.unusedVariables false
set_option linter.unusedSimpArgs false

theorem KnAt.grownT {w w' : World} {kb nb k g : Nat} {bl : List Blk} {K : Kn} {c : Array Value} {t : TypeId} {f : Nat × Nat} (h : KnAt w kb nb k bl K) (hg : w.grownBy w' (some g)) (hb : w.heap[g]? = some (.cells c t f)) (ht : t ≠ 5) (hne : kb ≠ g) : KnAt w' kb nb k bl K := by
  obtain ⟨h1, h2, h3, h4, h5, h6, h7⟩ := h
  have off : ∀ b ∈ bl, ∀ b' o, b.a = some ⟨b', o, none⟩ → b' ≠ g := fun b hb' => (h7 b hb').off hb ht
  refine ⟨(hg.block kb (blk_lt' h1) fun e => hne (Option.some.inj e)).trans h1, h2, fun b hb' => ⟨lies_grown hg (h3 b hb').1 (off b hb'), (h3 b hb').2⟩, h4, h5, h6, fun b hb' => (h7 b hb').grown hg fun b' o e e2 => off b hb' b' o e (Option.some.inj e2).symm⟩

/-- what Peeled keeps: what is known, its variable, what is used up -/
def PdSt (w wr : World) (vb kb ub nb k : Nat) (bl : List Blk) (K : Kn) (U : List Bool) : Prop :=
  KnAt wr kb nb k bl K ∧ wr.heap[vb]? = some (.cells #[.slice (some ⟨kb, 0, none⟩) nb nb] 48 (0, 0)) ∧ wr.heap[ub]? = some (.cells (U.map Value.bool).toArray 4 (0, 0)) ∧ Below w.heap.size w wr ∧ w.heap.size ≤ kb ∧ w.heap.size ≤ ub ∧ w.heap.size ≤ vb

theorem PdSt.below {w wr w' : World} {vb kb ub nb k : Nat} {bl : List Blk} {K : Kn} {U : List Bool} (h : PdSt w wr vb kb ub nb k bl K U) (hb : Below wr.heap.size wr w') : PdSt w w' vb kb ub nb k bl K U :=
  ⟨h.1.below hb, blk_below h.2.1 hb, blk_below h.2.2.1 hb, h.2.2.2.1.trans (hb.mono h.2.2.2.1.size), h.2.2.2.2⟩

theorem blk_ne {w : World} {a b : Nat} {c c' : Array Value} {t t' : TypeId} {f f' : Nat × Nat} (h : w.heap[a]? = some (.cells c t f)) (h' : w.heap[b]? = some (.cells c' t' f')) (ht : t ≠ t') : a ≠ b := by
  intro e
  subst e
  rw [h] at h'
  cases h'
  exact ht rfl

theorem below_grown {w a b : World} {g : Nat} (h : Below w.heap.size w a) (hg : a.grownBy b (some g)) (hw : w.heap.size ≤ g) : Below w.heap.size w b :=
  ⟨hg.os.trans h.os, hg.tape.trans h.tape, hg.output.trans h.output, Nat.le_trans h.size hg.size, fun i hi => (hg.block i (Nat.lt_of_lt_of_le hi h.size) fun e => by injection e; omega).trans (h.block i hi)⟩

/-- behind what is written into a block of numbers of one's own -/
theorem PdSt.ints {w wr w' : World} {vb kb ub nb k g : Nat} {bl : List Blk} {K : Kn} {U : List Bool} {c : Array Value} {f : Nat × Nat} (h : PdSt w wr vb kb ub nb k bl K U) (hg : wr.grownBy w' (some g)) (hb : wr.heap[g]? = some (.cells c 3 f)) (hw : w.heap.size ≤ g) : PdSt w w' vb kb ub nb k bl K U := by
  have n1 := blk_ne h.1.1 hb (by decide)
  have n2 := blk_ne h.2.1 hb (by decide)
  have n3 := blk_ne h.2.2.1 hb (by decide)
  exact ⟨h.1.grownT hg hb (by decide) n1, (hg.block vb (blk_lt' h.2.1) fun e => n2 (Option.some.inj e)).trans h.2.1, (hg.block ub (blk_lt' h.2.2.1) fun e => n3 (Option.some.inj e)).trans h.2.2.1, below_grown h.2.2.2.1 hg hw, h.2.2.2.2⟩

theorem PdSt.used {w wr : World} {vb kb ub nb k q : Nat} {bl : List Blk} {K : Kn} {U : List Bool} (h : PdSt w wr vb kb ub nb k bl K U) : PdSt w (wr.setCell ⟨ub, q, none⟩ (.bool true)) vb kb ub nb k bl K (U.set q true) := by
  have gr := grown_setCell wr ub q (.bool true)
  have n1 := blk_ne h.1.1 h.2.2.1 (by decide)
  have n2 := blk_ne h.2.1 h.2.2.1 (by decide)
  refine ⟨h.1.grownT gr h.2.2.1 (by decide) n1, block_set h.2.1 n2, ?_, below_grown h.2.2.2.1 gr h.2.2.2.2.2.1, h.2.2.2.2⟩
  rw [heap_set h.2.2.1]
  congr 2
  apply Array.ext'
  simp [List.map_set]

theorem PdSt.known {w wr : World} {vb kb ub nb k x q : Nat} {bl : List Blk} {K : Kn} {U : List Bool} {p : Option Addr} {d : List UInt8} (h : PdSt w wr vb kb ub nb k bl K U) (hx : x < nb) (hd : d.length = k) (k1 : 1 ≤ k) (k2 : k ≤ 16) (hp : Lies wr p (bs d)) (hty : TyU wr p) : PdSt w (wr.setCell ⟨kb, x, none⟩ (.slice p k q)) vb kb ub nb k (bl.set x ⟨p, q, d⟩) (K.set x d) U := by
  have gr := grown_setCell wr kb x (.slice p k q)
  have n1 := blk_ne h.2.2.1 h.1.1 (by decide)
  have n2 := blk_ne h.2.1 h.1.1 (by decide)
  exact ⟨h.1.set hx hd k1 k2 hp hty, block_set h.2.1 n2, block_set h.2.2.1 n1, below_grown h.2.2.2.1 gr h.2.2.2.2.1, h.2.2.2.2⟩

theorem PdSt.cells {w wr : World} {vb kb ub nb k : Nat} {bl : List Blk} {K : Kn} {U : List Bool} (h : PdSt w wr vb kb ub nb k bl K U) : wr.cell? ⟨vb, 0, none⟩ = some (.slice (some ⟨kb, 0, none⟩) nb nb) ∧ (∀ q (hq : q < U.length), wr.cell? ⟨ub, q, none⟩ = some (.bool U[q])) ∧ ∀ q, wr.frozen? ⟨ub, q, none⟩ = false := by
  refine ⟨?_, fun q hq => ?_, fun q => frozen_blk h.2.2.1 q⟩
  · rw [cell_blk h.2.1]; rfl
  · rw [cell_blk h.2.2.1]
    simp [hq]

theorem peeledR_plan (B K : Int) (la : Option Addr) (m lc : Nat) (w : World) (hB : I64 B) (hK : I64 K) (h : chkP B K ≠ 0) :
    Calls Tryd.prog 29 #[.agg #[.int .i64 B, .int .i64 K], .slice la m lc] w fun e w' => e = .returned (.tuple #[.slice none 0 0, .int .i64 (chkP B K)]) ∧ Below w.heap.size w w' := by
  have hBl : Below w.heap.size w (w.alloc (.cells #[.int .i64 B, .int .i64 K] 23)) := (Below.refl _ _).alloc (Nat.le_refl _) _
  obtain ⟨x0, x1⟩ := Box2.mk w (.int .i64 B) (.int .i64 K) 23
  have hC := checkPlan_any B K (w.alloc (.cells #[.int .i64 B, .int .i64 K] 23)) hB hK
  obtain ⟨q, hq⟩ : ∃ q, chkP B K = q := ⟨_, rfl⟩
  rw [hq] at hC h ⊢
  have h' : (q != 0) = true := by simpa using h
  clear hq
  go_enter Tryd.func29, Tryd.ntmps29
  go_wp2_with fail
  refine hC.mono ?_
  rintro e w1 ⟨rfl, hb⟩
  have hb1 := hBl.trans (hb.mono hBl.size)
  clear hC hb x0 x1 hBl
  go_wp2
  go_ret2
  exact ⟨rfl, hb1⟩

theorem peeledR_many (B K : Int) (n k nb : Nat) (la : Option Addr) (m lc : Nat) (w : World) (g : Good B K n k nb) (hB : I64 B) (hK : I64 K) (hm : m ≤ maxLen) (h : 60 < m) :
    Calls Tryd.prog 29 #[.agg #[.int .i64 B, .int .i64 K], .slice la m lc] w fun e w' => e = .returned (.tuple #[.slice none 0 0, .int .i64 2]) ∧ Below w.heap.size w w' := by
  have hBl : Below w.heap.size w (w.alloc (.cells #[.int .i64 B, .int .i64 K] 23)) := (Below.refl _ _).alloc (Nat.le_refl _) _
  obtain ⟨x0, x1⟩ := Box2.mk w (.int .i64 B) (.int .i64 K) 23
  have hC := checkPlan_any B K (w.alloc (.cells #[.int .i64 B, .int .i64 K] 23)) hB hK
  rw [chkP_good g] at hC
  unfold maxLen at hm
  go_enter Tryd.func29, Tryd.ntmps29
  go_wp2_with fail
  refine hC.mono ?_
  rintro e w1 ⟨rfl, hb⟩
  have hb1 := hBl.trans (hb.mono hBl.size)
  clear hC hb x0 x1 hBl
  go_wp2
  go_ret2
  exact ⟨rfl, hb1⟩

end Go.Proofs.YtkiejflgphjfjacDoor
