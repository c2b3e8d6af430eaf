/-
  What a slice's cells hold, said once, without any program: 'Lies w a xs'. And how that carries over worlds in which nothing old has turned.
-/
import Derived.WalkKit
import Derived.WalkSpells
import Derived.WalkSmall
import Derived.Deep.OwnRows
import Derived.BigQuiet
import Derived.Deep.QuietTactic
import Derived.Deep.Draws
namespace Go.Proofs.YtcpnbkgkknlocaaDoor
open Go.RowKit
set_option linter.unusedVariables false
set_option linter.unusedSimpArgs false

/-- The cells that begin at 'a' hold xs, one cell an element. -/
def Lies (w : World) (a : Option Addr) (xs : List Value) : Prop :=
  ∀ k u, xs[k]? = some u → ∃ b off, a = some ⟨b, off, none⟩ ∧ w.cell? ⟨b, off + k, none⟩ = some u

theorem Lies.nil (w : World) (a : Option Addr) : Lies w a [] := by
  intro k u h
  simp at h

theorem Lies.lt {w : World} {a : Option Addr} {xs : List Value} (h : Lies w a xs) {b off : Nat} (e : a = some ⟨b, off, none⟩) (k : Nat) (hk : k < xs.length) :
    w.cell? ⟨b, off + k, none⟩ = some xs[k] := by
  obtain ⟨b', off', e', hc⟩ := h k xs[k] (by simp [hk])
  rw [e] at e'
  simp at e'
  obtain ⟨rfl, rfl⟩ := e'
  exact hc

theorem Lies.some {w : World} {a : Option Addr} {xs : List Value} (h : Lies w a xs) {k : Nat} (hk : k < xs.length) : ∃ b off, a = .some ⟨b, off, none⟩ := by
  obtain ⟨b, off, e, _⟩ := h k xs[k] (by simp [hk])
  exact ⟨b, off, e⟩

theorem Lies.at {w : World} {b off : Nat} {xs : List Value} (h : Lies w (.some ⟨b, off, none⟩) xs) {k : Nat} {u : Value} (hu : xs[k]? = .some u) : w.cell? ⟨b, off + k, none⟩ = .some u := by
  obtain ⟨b', off', e', hc⟩ := h k u hu
  simp at e'
  obtain ⟨rfl, rfl⟩ := e'
  exact hc

theorem Lies.mk {w : World} {b off : Nat} {xs : List Value} (h : ∀ k (hk : k < xs.length), w.cell? ⟨b, off + k, none⟩ = .some xs[k]) : Lies w (.some ⟨b, off, none⟩) xs := by
  intro k u hu
  obtain ⟨hk, rfl⟩ := List.getElem?_eq_some_iff.1 hu
  exact ⟨b, off, rfl, h k hk⟩

/-- All that lies is old: whatever keeps the old blocks keeps it. -/
theorem Lies.below {w w' : World} {B : Nat} (hb : Below B w w') {a : Option Addr} {xs : List Value} (h : Lies w a xs) (hB : w.heap.size ≤ B) : Lies w' a xs := by
  intro k u hu
  obtain ⟨b, off, e, hc⟩ := h k u hu
  refine ⟨b, off, e, ?_⟩
  have := World.block_lt_of_cell? w _ hc
  rw [hb.cell (p := ⟨b, off + k, none⟩) (by simp at this ⊢; omega)]
  exact hc

theorem Lies.drewN {w : World} {a : Option Addr} {xs : List Value} (h : Lies w a xs) (n : Nat) : Lies (w.drewN n) a xs := by
  intro k u hu
  obtain ⟨b, off, e, hc⟩ := h k u hu
  exact ⟨b, off, e, by simpa using hc⟩

theorem bdn (w : World) (n B : Nat) : Below B w (w.drewN n) := by
  induction n with
  | zero => exact Below.refl _ _
  | succ n ih => exact ih.trans (by first | exact (Below.refl _ _).drew | simpa using (Below.refl _ _).drew)

/-- A block that is laid anew lies there. -/
theorem Lies.alloc_new (w : World) (c : Array Value) (t : TypeId) : Lies (w.alloc (.cells c t)) (.some ⟨w.heap.size, 0, none⟩) c.toList := by
  refine Lies.mk fun k hk => ?_
  have e : (w.alloc (.cells c t)).heap[w.heap.size]? = .some (.cells c t) := by show (w.heap.push _)[w.heap.size]? = _; simp
  simp only [World.cell?, e]
  simp at hk ⊢

theorem Lies.alloc {w : World} {a : Option Addr} {xs : List Value} (h : Lies w a xs) (o : Obj) : Lies (w.alloc o) a xs :=
  h.below ((Below.refl w.heap.size w).alloc (Nat.le_refl _) o) (Nat.le_refl _)

theorem Lies.of_block {w : World} {b : Nat} {c : Array Value} {t : TypeId} {f : Nat × Nat} (e : w.heap[b]? = .some (.cells c t f)) : Lies w (.some ⟨b, 0, none⟩) c.toList := by
  refine Lies.mk fun k hk => ?_
  simp only [World.cell?, e]
  simp at hk ⊢

/-- The blocks that are laid, one behind the other. -/
theorem heap_alloc_eq (w : World) (o : Obj) (b : Nat) : (w.alloc o).heap[b]? = if b = w.heap.size then some o else w.heap[b]? := by
  show (w.heap.push o)[b]? = _
  rw [Array.getElem?_push]

theorem size_alloc_eq (w : World) (o : Obj) : (w.alloc o).heap.size = w.heap.size + 1 := by simp

theorem grown_drewN {w w' : World} (h : Grown w w') (n : Nat) : Grown w (w'.drewN n) := h

/-- What a slice owns lies at its head. -/
theorem own_lies {w : World} {B : Nat} {e : TypeId} {v : Value} {n : Nat} {xs : List Value} (h : w.ownsRow B e 1 v n xs) : ∃ a cap, v = .slice a n cap ∧ Lies w a xs ∧ n = xs.length := by
  have hn : n = xs.length := by simpa using h.1.symm
  rcases h.2 with ⟨rfl, h0⟩ | ⟨g, cap, cur, rfl, hb, hg, hnc, hcm, hcs, htake⟩
  · subst h0
    have : xs = [] := List.eq_nil_of_length_eq_zero hn.symm
    subst this
    exact ⟨none, 0, rfl, Lies.nil _ _, rfl⟩
  · refine ⟨_, cap, rfl, Lies.mk fun k hk => ?_, hn⟩
    simp only [World.cell?, hg]
    have h2 : xs[k]? = cur.toList[k]? := by
      rw [← htake, List.getElem?_take, if_pos (by omega)]
    simp at h2
    simp [← h2]

theorem grown_trans {a b c : World} {row : Option Nat} (h : a.grownBy b row) (k : b.grownBy c row) : a.grownBy c row :=
  ⟨k.os.trans h.os, k.tape.trans h.tape, k.output.trans h.output, Nat.le_trans h.size k.size, fun i hi hr => (k.block i (by have := h.size; omega) hr).trans (h.block i hi hr)⟩

theorem grown_refl (a : World) (row : Option Nat) : a.grownBy a row := ⟨rfl, rfl, rfl, Nat.le_refl _, fun _ _ _ => rfl⟩

theorem grown_setCell (w : World) (g o : Nat) (v : Value) : w.grownBy (w.setCell ⟨g, o, none⟩ v) (some g) :=
  ⟨rfl, rfl, rfl, by simp [World.setCell], fun k hk hr => Below.heap_setCell _ _ _ _ (fun e => hr (by simp [e]))⟩

theorem lies_grown {w w' : World} {g : Nat} (h : w.grownBy w' (some g)) {a : Option Addr} {xs : List Value} (hl : Lies w a xs) (hne : ∀ b off, a = some ⟨b, off, none⟩ → b ≠ g) : Lies w' a xs := by
  intro k u hu
  obtain ⟨b, off, e, hc⟩ := hl k u hu
  exact ⟨b, off, e, h.cell hc (by have := hne b off e; simp; exact this)⟩

/-- bytes as cells -/
def bs (l : List UInt8) : List Value := l.map fun x => Value.int .u8 (x.toNat : Int)

theorem bs_length (l : List UInt8) : (bs l).length = l.length := by simp [bs]

theorem u8_lt (x : UInt8) : (x.toNat : Int) < 256 := by have := x.toNat_lt; omega

theorem bs_get (l : List UInt8) (k : Nat) (h : k < l.length) : (bs l)[k]? = some (.int .u8 (l[k].toNat : Int)) := by simp [bs, h]

end Go.Proofs.YtcpnbkgkknlocaaDoor
