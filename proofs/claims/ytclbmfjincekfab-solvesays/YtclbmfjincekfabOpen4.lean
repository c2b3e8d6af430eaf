/-
  Rows and systems that came in, opened, with what they have room for. Nothing of any program.
-/
import Derived.Test.YtclbmfjincekfabOpen2
import Derived.Test.YtclbmfjincekfabRow3
namespace Go.Proofs.Ytclbmfjincekfab
open Go.ChangeShapes Go.WideShapes Go.ChangeAt Go.RowKit
set_option linter.unusedVariables false
set_option linter.unusedSimpArgs false

section
variable {H : Type} {enc : TypeId × Value → H} {P : Program} {w : World} {held : Bool}

theorem open_bools {t e : TypeId} {fuel : Nat} {v : Value} {x : DataW H × List MemPlace} (ht : P.underlying t = some (.slice e)) (he : P.underlying e = some .bool) (hc : P.cellsOf e = 1)
    (h : DataW.trod enc P w 0 (fun _ => true) held fuel t [v] = some x) : ∃ (a : Option Addr) (cap : Nat) (l : List Bool), v = .slice a l.length cap ∧ Lies w a (l.map Value.bool) ∧ l.length ≤ maxLen ∧ l.length ≤ cap := by
  rcases Go.Deep.open_slice1 ht hc h with ⟨hcs, hx⟩ | ⟨a, len, cap, m, n, V, D, Pl, hcs, _, hl, hm, hmm, hx, hcell⟩
  · simp at hcs
    subst hcs
    exact ⟨none, 0, [], rfl, Lies.nil _ _, by simp, by simp⟩
  · simp at hcs hmm
    subst hcs hmm
    have hb : ∀ i, i < m → ∃ b : Bool, V i = .bool b := fun i hi => by
      obtain ⟨b, e1, _⟩ := DataW.trod_bool he (hcell i hi).2
      simp at e1
      exact ⟨b, e1⟩
    obtain ⟨B, hB⟩ := Go.Deep.choose_lt hb
    refine ⟨some a, m, (List.range len).map B, by simp, ?_, by simp; omega, by simpa using hl⟩
    intro k u hu
    have hk : k < len := by
      obtain ⟨hk, _⟩ := List.getElem?_eq_some_iff.1 hu
      simpa using hk
    have hu' : u = V k := by
      simp [hk] at hu
      rw [← hu, hB k (by omega)]
    subst hu'
    exact lies_addr (hcell 0 (by omega)).1 (hcell k (by omega)).1

/-- a row, by its two cells -/
theorem open_cells2 {t e8 eb : TypeId} {f0 f1 : Field} {fuel : Nat} {c0 c1 : Value} {x : DataW H × List MemPlace} (hs : P.underlying t = some (.struct #[f0, f1])) (hone : Go.Deep.oneCellFields P #[f0, f1] = true)
    (h0 : P.underlying f0.type = some (.slice eb)) (hb : P.underlying eb = some .bool) (hcb : P.cellsOf eb = 1) (h1 : P.underlying f1.type = some (.slice e8)) (he : P.underlying e8 = some (.int .u8)) (hc8 : P.cellsOf e8 = 1)
    (h : DataW.trod enc P w 0 (fun _ => true) held fuel t [c0, c1] = some x) : ∃ r : MRow, c0 = r.hv ∧ c1 = r.dv ∧ RowIn w r ∧ r.h.length ≤ r.hc := by
  obtain ⟨y0, y1, n, _, _, k0, k1⟩ := trod_struct2 hs h
  obtain ⟨o0, u0⟩ := Go.Deep.hone_of hone 0 f0 rfl
  obtain ⟨o1, u1⟩ := Go.Deep.hone_of hone 1 f1 rfl
  rw [o0, u0] at k0
  rw [o1, u1] at k1
  obtain ⟨a, ca, l, e1, e2, e3, e4⟩ := open_bools h0 hb hcb (by simpa using k0)
  obtain ⟨b, cb, d, g1, g2, g3, g4, _⟩ := open_bytes2 h1 he hc8 (by simpa using k1)
  exact ⟨⟨a, ca, l, b, cb, d⟩, e1, g1, ⟨e2, g2, e3, g3⟩, e4⟩

theorem open_row {r : Reach} {b0 : Nat} {t e8 eb : TypeId} {f0 f1 : Field} {v : Value} {d : DataW H} {p : List MemPlace} (hs : P.underlying t = some (.struct #[f0, f1])) (hone : Go.Deep.oneCellFields P #[f0, f1] = true) (hC : P.cellsOf t = 2)
    (h0 : P.underlying f0.type = some (.slice eb)) (hb : P.underlying eb = some .bool) (hcb : P.cellsOf eb = 1) (h1 : P.underlying f1.type = some (.slice e8)) (he : P.underlying e8 = some (.int .u8)) (hc8 : P.cellsOf e8 = 1)
    (hv : Value.okWide P w r b0 t v) (h : DataW.Trod enc P w 0 (fun _ => true) held t v d p) : ∃ r : MRow, v = .agg #[r.hv, r.dv] ∧ RowIn w r ∧ r.h.length ≤ r.hc := by
  obtain ⟨c0, c1, y0, y1, m, rfl, rfl, rfl, k0, k1⟩ := Go.Joins.open_agg2 hs hone hC hv h
  obtain ⟨a, ca, l, e1, e2, e3, e4⟩ := open_bools h0 hb hcb k0
  obtain ⟨b, cb, d, g1, g2, g3, g4, _⟩ := open_bytes2 h1 he hc8 k1
  exact ⟨⟨a, ca, l, b, cb, d⟩, by rw [e1, g1]; rfl, ⟨e2, g2, e3, g3⟩, e4⟩

theorem cells_two {base : Nat} {a : Addr} {cs : List Value} (h : w.cells? base a 2 = some cs) : ∃ c0 c1, cs = [c0, c1] ∧ w.cell? (a.add 0) = some c0 ∧ w.cell? (a.add 1) = some c1 := by
  obtain ⟨_, hlen, hc⟩ := World.cells?_some h
  match cs, hlen, hc with
  | [c0, c1], _, hc => exact ⟨c0, c1, rfl, hc 0 (by omega), hc 1 (by omega)⟩

theorem open_rows {t e e8 eb : TypeId} {f0 f1 : Field} {fuel : Nat} {v : Value} {x : DataW H × List MemPlace} (ht : P.underlying t = some (.slice e)) (hC : P.cellsOf e = 2) (hs : P.underlying e = some (.struct #[f0, f1])) (hone : Go.Deep.oneCellFields P #[f0, f1] = true)
    (h0 : P.underlying f0.type = some (.slice eb)) (hb : P.underlying eb = some .bool) (hcb : P.cellsOf eb = 1) (h1 : P.underlying f1.type = some (.slice e8)) (he : P.underlying e8 = some (.int .u8)) (hc8 : P.cellsOf e8 = 1)
    (h : DataW.trod enc P w 0 (fun _ => true) held fuel t [v] = some x) : ∃ (a : Option Addr) (cap : Nat) (rows : List MRow), v = .slice a rows.length cap ∧ Lies w a (rowCells rows) ∧ (∀ r ∈ rows, RowIn w r ∧ r.h.length ≤ r.hc) ∧ rows.length ≤ maxLen := by
  rcases Go.Deep.open_slice ht h with ⟨hcs, hx⟩ | ⟨a, len, cap, m, n, D, Pl, hcs, _, hl, hm, hmm, hx, hcell⟩
  · simp at hcs
    subst hcs
    exact ⟨none, 0, [], rfl, Lies.nil _ _, (fun r hr => by cases hr), by simp⟩
  · simp at hcs hmm
    subst hcs hmm
    rw [hC] at hcell
    have hb' : ∀ i, i < m → ∃ r : MRow, w.cell? ((a.add (i * 2)).add 0) = some r.hv ∧ w.cell? ((a.add (i * 2)).add 1) = some r.dv ∧ RowIn w r ∧ r.h.length ≤ r.hc := fun i hi => by
      obtain ⟨cs', e1, e2⟩ := hcell i hi
      obtain ⟨c0, c1, rfl, k0, k1⟩ := cells_two e1
      obtain ⟨r, rfl, rfl, r1, r2⟩ := open_cells2 hs hone h0 hb hcb h1 he hc8 e2
      exact ⟨r, k0, k1, r1, r2⟩
    have : Inhabited MRow := ⟨⟨none, 0, [], none, 0, []⟩⟩
    obtain ⟨B, hB⟩ := Go.Deep.choose_lt hb'
    refine ⟨some a, m, (List.range len).map B, by simp, ?_, ?_, by simp; omega⟩
    · intro k u hu
      have hk : k < 2 * len := by
        obtain ⟨hk, _⟩ := List.getElem?_eq_some_iff.1 hu
        rw [rowCells_length] at hk
        simpa using hk
      obtain ⟨g0, g1⟩ := rowCells_get (l := (List.range len).map B) (j := k / 2) (by simp; omega)
      simp only [List.getElem_map, List.getElem_range] at g0 g1
      obtain ⟨z0, _, _, _⟩ := hB 0 (by omega)
      obtain ⟨k0, k1, _, _⟩ := hB (k / 2) (by omega)
      rw [Go.Deep.add_add] at z0 k0 k1
      rcases Nat.mod_two_eq_zero_or_one k with e | e
      · rw [show 2 * (k / 2) = k by omega, hu] at g0
        rw [show k / 2 * 2 + 0 = k by omega, ← g0] at k0
        exact lies_addr (by simpa using z0) k0
      · rw [show 2 * (k / 2) + 1 = k by omega, hu] at g1
        rw [show k / 2 * 2 + 1 = k by omega, ← g1] at k1
        exact lies_addr (by simpa using z0) k1
    · intro r hr
      obtain ⟨i, hi, rfl⟩ := List.mem_map.1 hr
      exact (hB i (by simp at hi; omega)).2.2

theorem open_system {r : Reach} {b0 : Nat} {ts e e8 eb : TypeId} {g0 g1 g2 f0 f1 : Field} {v : Value} {d : DataW H} {p : List MemPlace} (hS : P.underlying ts = some (.struct #[g0, g1, g2])) (hSo : Go.Deep.oneCellFields P #[g0, g1, g2] = true) (hSC : P.cellsOf ts = 3)
    (hi0 : P.underlying g0.type = some (.int .i64)) (hi1 : P.underlying g1.type = some (.int .i64)) (ht : P.underlying g2.type = some (.slice e)) (hC : P.cellsOf e = 2) (hs : P.underlying e = some (.struct #[f0, f1])) (hone : Go.Deep.oneCellFields P #[f0, f1] = true)
    (h0 : P.underlying f0.type = some (.slice eb)) (hb : P.underlying eb = some .bool) (hcb : P.cellsOf eb = 1) (h1 : P.underlying f1.type = some (.slice e8)) (he : P.underlying e8 = some (.int .u8)) (hc8 : P.cellsOf e8 = 1)
    (hv : Value.okWide P w r b0 ts v) (h : DataW.Trod enc P w 0 (fun _ => true) held ts v d p) : ∃ s : MSys, v = .agg #[.int .i64 s.B, .int .i64 s.K, .slice s.ra s.rows.length s.rc] ∧ SysIn w s ∧ (∀ x ∈ s.rows, x.h.length ≤ x.hc) ∧ I64 s.B ∧ I64 s.K := by
  obtain ⟨c0, c1, c2, y0, y1, y2, m, rfl, rfl, rfl, k0, k1, k2⟩ := Go.Joins.open_agg3 hS hSo hSC hv h
  obtain ⟨B, e0, rfl, wa⟩ := DataW.trod_int hi0 k0
  obtain ⟨K, e1, rfl, wb⟩ := DataW.trod_int hi1 k1
  obtain ⟨a, cap, rows, rfl, l1, l2, l3⟩ := open_rows ht hC hs hone h0 hb hcb h1 he hc8 k2
  simp at e0 e1
  subst e0 e1
  exact ⟨⟨B, K, a, cap, rows⟩, rfl, ⟨l1, fun x hx => (l2 x hx).1, l3⟩, fun x hx => (l2 x hx).2, i64_of_wf wa, i64_of_wf wb⟩
end
end Go.Proofs.Ytclbmfjincekfab
