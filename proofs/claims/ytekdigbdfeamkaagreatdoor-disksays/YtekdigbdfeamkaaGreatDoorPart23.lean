import Derived.Test.YtekdigbdfeamkaaGreatDoorPart22
import Derived.Test.YtekdigbdfeamkaaGreatDoorPart2
import Derived.Lib.SmallJoins
import Derived.Test.YtekdigbdfeamkaaGreatDoorPart7
import Derived.Test.YtekdigbdfeamkaaGreatDoorPart18
import Derived.Test.YtekdigbdfeamkaaGreatDoorPart9
import Derived.Test.YtekdigbdfeamkaaGreatDoorTie
import Derived.ProofKit
import Derived.LaidMore
import Derived.OpenShut
import Derived.Stop.Joined
import Derived.Stop.LaidErr
import Derived.Lay
import Derived.Lib.LaidTab
import Derived.Handed
import Derived.ShapedOpen
/-
  What came in, opened, with what it has room for: byte slices, slices of byte slices, a struct of two ints, whatever their readings are. Nothing of any program.
-/
namespace Go.Proofs.YtekdigbdfeamkaaGreatDoor
open Go.ChangeShapes Go.WideShapes Go.ChangeAt Go.RowKit
set_option linter.unusedVariables false
set_option linter.unusedSimpArgs false

section
variable {H : Type} {enc : TypeId × Value → H} {P : Program} {w : World} {held : Bool}

/-- how many elements a reading has -/
def dlen : DataW H → Nat
  | .slice el _ => el.length
  | _ => 0

theorem i64_of_wf {n : Int} (h : (Lit.int .i64 n).wf = true) : I64 n := by
  have : -9223372036854775808 ≤ n ∧ n ≤ 9223372036854775807 := by simpa [Lit.wf, IntKind.min, IntKind.max, IntKind.signed, IntKind.bits] using h
  exact this

theorem open_bytes2 {t e : TypeId} {fuel : Nat} {v : Value} {x : DataW H × List MemPlace} (ht : P.underlying t = some (.slice e)) (he : P.underlying e = some (.int .u8)) (hc : P.cellsOf e = 1)
    (h : DataW.trod enc P w 0 (fun _ => true) held fuel t [v] = some x) : ∃ a cap l, v = .slice a l.length cap ∧ Lies w a (bs l) ∧ l.length ≤ maxLen ∧ l.length ≤ cap ∧ dlen x.1 = l.length := by
  rcases open_ints ht he hc h with ⟨hcs, rfl⟩ | ⟨a, len, cap, zs, hcs, _, hl, hm, hz, rfl, hcell, hwz⟩
  · simp at hcs
    subst hcs
    exact ⟨none, 0, [], rfl, Lies.nil _ _, by simp, by simp, rfl⟩
  · simp at hcs hz
    subst hcs
    refine ⟨some a, cap, (zs.take len).map fun z => UInt8.ofNat z.toNat, ?_, ?_, ?_, ?_, ?_⟩
    · simp; omega
    · intro k u hu
      have hk : k < len := by
        obtain ⟨hk, _⟩ := List.getElem?_eq_some_iff.1 hu
        simp [bs] at hk
        omega
      have hkz : k < zs.length := by omega
      have hcl := hcell k hkz
      have hwf := u8_of_wf (hwz zs[k] (by simp))
      have hu' : u = .int .u8 (zs[k]) := by
        simp [bs, hk, hkz] at hu
        rw [← hu]
        congr 1
        omega
      subst hu'
      have e2 : zs.getD k 0 = zs[k] := by simp [List.getD, hkz]
      rw [e2] at hcl
      exact lies_addr (hcell 0 (by omega)) hcl
    · simp; omega
    · simp; omega
    · simp [dlen, lits]

theorem open_blocks2 {t e e8 : TypeId} {fuel : Nat} {v : Value} {d : DataW H} {ps : List MemPlace} (ht : P.underlying t = some (.slice e)) (hte : P.underlying e = some (.slice e8)) (he : P.underlying e8 = some (.int .u8)) (hc : P.cellsOf e = 1) (hc8 : P.cellsOf e8 = 1)
    (h : DataW.trod enc P w 0 (fun _ => true) held fuel t [v] = some (d, ps)) :
    ∃ a cap bl, v = .slice a bl.length cap ∧ Lies w a (bl.map Blk.val) ∧ AllIn w bl ∧ bl.length ≤ maxLen ∧ Caps bl ∧ ((d = .nil ∧ bl = []) ∨ ∃ elems sp, d = .slice elems sp ∧ elems.map dlen = bl.map fun b => b.l.length) := by
  rcases Go.Deep.open_slice1 ht hc h with ⟨hcs, hx⟩ | ⟨a, len, cap, m, n, V, D, Pl, hcs, _, hl, hm, hmm, hx, hcell⟩
  · simp at hcs hx
    subst hcs
    exact ⟨none, 0, [], rfl, Lies.nil _ _, (fun b hb => by simp at hb), by simp, (fun b hb => by simp at hb), .inl ⟨hx.1, rfl⟩⟩
  · simp at hcs hx hmm
    subst hcs hmm
    have hb : ∀ i, i < m → ∃ b : Blk, V i = b.val ∧ Lies w b.a (bs b.l) ∧ b.l.length ≤ maxLen ∧ b.l.length ≤ b.cap ∧ dlen (D i) = b.l.length := fun i hi => by
      obtain ⟨a', cap', l, e1, e2, e3, e4, e5⟩ := open_bytes2 hte he hc8 (hcell i hi).2
      exact ⟨⟨a', cap', l⟩, e1, e2, e3, e4, e5⟩
    have : Inhabited Blk := ⟨⟨none, 0, []⟩⟩
    obtain ⟨B, hB⟩ := Go.Deep.choose_lt hb
    refine ⟨some a, m, (List.range len).map B, by simp, ?_, ?_, by simp; omega, ?_, .inr ⟨_, _, hx.1, ?_⟩⟩
    · intro k u hu
      have hk : k < len := by
        obtain ⟨hk, _⟩ := List.getElem?_eq_some_iff.1 hu
        simpa using hk
      have hu' : u = V k := by
        simp [hk] at hu
        rw [← hu, (hB k (by omega)).1]
      subst hu'
      exact lies_addr (hcell 0 (by omega)).1 (hcell k (by omega)).1
    · intro b hb
      obtain ⟨i, hi, rfl⟩ := List.mem_map.1 hb
      have := hB i (by simp at hi; omega)
      exact ⟨this.2.1, this.2.2.1⟩
    · intro b hb
      obtain ⟨i, hi, rfl⟩ := List.mem_map.1 hb
      exact (hB i (by simp at hi; omega)).2.2.2.1
    · rw [List.map_map, List.map_map]
      apply List.map_congr_left
      intro i hi
      exact (hB i (by simp at hi; omega)).2.2.2.2

theorem open_plan {r : Reach} {b0 : Nat} {t : TypeId} {f0 f1 : Field} {v : Value} {d : DataW H} {p : List MemPlace} (hs : P.underlying t = some (.struct #[f0, f1])) (hone : Go.Deep.oneCellFields P #[f0, f1] = true) (hC : P.cellsOf t = 2)
    (h0 : P.underlying f0.type = some (.int .i64)) (h1 : P.underlying f1.type = some (.int .i64))
    (hv : Value.okWide P w r b0 t v) (h : DataW.Trod enc P w 0 (fun _ => true) held t v d p) : ∃ B K : Int, v = .agg #[.int .i64 B, .int .i64 K] ∧ I64 B ∧ I64 K := by
  obtain ⟨c0, c1, y0, y1, m, rfl, rfl, rfl, hy0, hy1⟩ := Go.Joins.open_agg2 hs hone hC hv h
  obtain ⟨a, e0, rfl, wa⟩ := DataW.trod_int h0 hy0
  obtain ⟨b, e1, rfl, wb⟩ := DataW.trod_int h1 hy1
  simp at e0 e1
  subst e0 e1
  exact ⟨a, b, rfl, i64_of_wf wa, i64_of_wf wb⟩
end
end Go.Proofs.YtekdigbdfeamkaaGreatDoor

/-
  A symbol that came in, opened: an int and a byte slice. Nothing of any program.
-/
namespace Go.Proofs.YtekdigbdfeamkaaGreatDoor
open Go.ChangeShapes Go.WideShapes Go.ChangeAt Go.RowKit
set_option linter.unusedVariables false

section
variable {H : Type} {enc : TypeId × Value → H} {P : Program} {w : World} {held : Bool}

theorem open_symbol {r : Reach} {b0 : Nat} {t e8 : TypeId} {f0 f1 : Field} {v : Value} {d : DataW H} {p : List MemPlace} (hs : P.underlying t = some (.struct #[f0, f1])) (hone : Go.Deep.oneCellFields P #[f0, f1] = true) (hC : P.cellsOf t = 2)
    (h0 : P.underlying f0.type = some (.int .i64)) (h1 : P.underlying f1.type = some (.slice e8)) (he : P.underlying e8 = some (.int .u8)) (hc8 : P.cellsOf e8 = 1)
    (hv : Value.okWide P w r b0 t v) (h : DataW.Trod enc P w 0 (fun _ => true) held t v d p) : ∃ (id : Int) (a : Option Addr) (cap : Nat) (l : List UInt8), v = .agg #[.int .i64 id, .slice a l.length cap] ∧ I64 id ∧ Lies w a (bs l) ∧ l.length ≤ maxLen ∧ l.length ≤ cap := by
  obtain ⟨c0, c1, y0, y1, m, rfl, rfl, rfl, hy0, hy1⟩ := Go.Joins.open_agg2 hs hone hC hv h
  obtain ⟨a, e0, rfl, wa⟩ := DataW.trod_int h0 hy0
  obtain ⟨a', cap, l, rfl, h2, h3, h4, _⟩ := open_bytes2 h1 he hc8 hy1
  simp at e0
  subst e0
  exact ⟨a, a', cap, l, rfl, i64_of_wf wa, h2, h3, h4⟩
end
end Go.Proofs.YtekdigbdfeamkaaGreatDoor

/-
  A record that came in, opened.
-/
namespace Go.Proofs.YtekdigbdfeamkaaGreatDoor
open Go.ChangeShapes Go.WideShapes Go.ChangeAt Go.RowKit
set_option linter.unusedVariables false
set_option linter.unusedSimpArgs false

theorem array13 {α : Type} {cs : Array α} (h : cs.size = 13) : ∃ c0 c1 c2 c3 c4 c5 c6 c7 c8 c9 c10 c11 c12, cs = #[c0, c1, c2, c3, c4, c5, c6, c7, c8, c9, c10, c11, c12] := by
  obtain ⟨l⟩ := cs
  match l, h with
  | [c0, c1, c2, c3, c4, c5, c6, c7, c8, c9, c10, c11, c12], _ => exact ⟨c0, c1, c2, c3, c4, c5, c6, c7, c8, c9, c10, c11, c12, rfl⟩

theorem cInt1 : Tryz.prog.cellsOf 3 = 1 := by kernel_rfl
theorem cBlk1 : Tryz.prog.cellsOf 29 = 1 := by kernel_rfl
theorem cByt1 : Tryz.prog.cellsOf 22 = 1 := by kernel_rfl
theorem cU81 : Tryz.prog.cellsOf 5 = 1 := by kernel_rfl
theorem cPlan2 : Tryz.prog.cellsOf 26 = 2 := by kernel_rfl
theorem cSym2 : Tryz.prog.cellsOf 31 = 2 := by kernel_rfl
theorem cHead6 : Tryz.prog.cellsOf 28 = 6 := by kernel_rfl
theorem cRec13 : Tryz.prog.cellsOf 33 = 13 := by kernel_rfl

section
variable {H : Type} {enc : TypeId × Value → H} {w : World} {held : Bool}

theorem one_int {n : Nat} {c : Value} {y : DataW H × List MemPlace} (h : DataW.trod enc Tryz.prog w 0 (fun _ => true) held n 3 [c] = some y) : ∃ a : Int, c = .int .i64 a ∧ I64 a := by
  obtain ⟨a, e, _, wa⟩ := DataW.trod_int Tryz.underlying3 h
  simp at e
  exact ⟨a, e, i64_of_wf wa⟩

set_option maxRecDepth 8000 in
theorem open_rec {r : Reach} {b0 : Nat} {v : Value} {d : DataW H} {p : List MemPlace} (hv : Value.okWide Tryz.prog w r b0 33 v) (h : DataW.Trod enc Tryz.prog w 0 (fun _ => true) held 33 v d p) :
    ∃ (x : Rc) (da : Option Addr) (dc : Nat) (ca : Option Addr) (cc : Nat), v = rcV x da dc ca cc ∧ x.ints ∧ Lies w da (bs x.d) ∧ Lies w ca (bs x.c) ∧ x.d.length ≤ maxLen ∧ x.c.length ≤ maxLen := by
  obtain ⟨cs, rfl, hsz⟩ := okWide_struct Tryz.underlying33 hv
  obtain ⟨c0, c1, c2, c3, c4, c5, c6, c7, c8, c9, c10, c11, c12, rfl⟩ := array13 (hsz.trans cRec13)
  obtain ⟨fuel, hf⟩ := h
  obtain ⟨xs, n, _, _, _, hlen, hg⟩ := DataW.trod_struct Tryz.underlying33 hf
  match xs, hlen with
  | [y0, y1, y2, y3, y4, y5, y6], _ =>
    have g0 := hg 0 _ rfl
    have g1 := hg 1 _ rfl
    have g2 := hg 2 _ rfl
    have g3 := hg 3 _ rfl
    have g4 := hg 4 _ rfl
    have g5 := hg 5 _ rfl
    have g6 := hg 6 _ rfl
    simp [Value.cells, cInt1, cHead6, cSym2, cByt1] at g0 g1 g2 g3 g4 g5 g6
    obtain ⟨k, rfl, ik⟩ := one_int g0
    obtain ⟨pl, rfl, ip⟩ := one_int g1
    obtain ⟨nn, rfl, inn⟩ := one_int g2
    obtain ⟨ty, rfl, iy⟩ := one_int g3
    obtain ⟨hs, n4, _, _, _, hl4, hg4⟩ := DataW.trod_struct Tryz.underlying28 g4
    match hs, hl4 with
    | [z0, z1, z2, z3, z4], _ =>
      have e0 := hg4 0 _ rfl
      have e1 := hg4 1 _ rfl
      have e2 := hg4 2 _ rfl
      have e3 := hg4 3 _ rfl
      have e4 := hg4 4 _ rfl
      simp [cInt1, cPlan2] at e0 e1 e2 e3 e4
      obtain ⟨F, rfl, iF⟩ := one_int e0
      obtain ⟨Q, rfl, iQ⟩ := one_int e1
      obtain ⟨T, rfl, iT⟩ := one_int e2
      obtain ⟨L, rfl, iL⟩ := one_int e3
      obtain ⟨ps, n5, _, _, _, hl5, hg5⟩ := DataW.trod_struct Tryz.underlying26 e4
      match ps, hl5 with
      | [u0, u1], _ =>
        have a0 := hg5 0 _ rfl
        have a1 := hg5 1 _ rfl
        simp [cInt1] at a0 a1
        obtain ⟨B, rfl, iB⟩ := one_int a0
        obtain ⟨K, rfl, iK⟩ := one_int a1
        obtain ⟨ss, n6, _, _, _, hl6, hg6⟩ := DataW.trod_struct Tryz.underlying31 g5
        match ss, hl6 with
        | [s0, s1], _ =>
          have b0 := hg6 0 _ rfl
          have b1 := hg6 1 _ rfl
          simp [cInt1, cBlk1] at b0 b1
          obtain ⟨id, rfl, iid⟩ := one_int b0
          obtain ⟨da, dc, dl, rfl, h1, h2, _, _⟩ := open_bytes2 Tryz.underlying29 Tryz.underlying5 cU81 b1
          obtain ⟨ca, cc, cl, rfl, h3, h4, _, _⟩ := open_bytes2 Tryz.underlying22 Tryz.underlying5 cU81 g6
          exact ⟨⟨k, pl, nn, ty, ⟨F, Q, T, L, B, K⟩, id, dl, cl⟩, da, dc, ca, cc, rfl, ⟨ik, ip, inn, iy, ⟨iF, iQ, iT, iL, iB, iK⟩, iid⟩, h1, h3, h2, h4⟩
end
end Go.Proofs.YtekdigbdfeamkaaGreatDoor

/-
  A disk that came in, opened.
-/
namespace Go.Proofs.YtekdigbdfeamkaaGreatDoor
open Go.ChangeShapes Go.WideShapes Go.ChangeAt Go.RowKit
set_option linter.unusedVariables false
set_option linter.unusedSimpArgs false

theorem cDisk2 : Tryz.prog.cellsOf 24 = 2 := by kernel_rfl

theorem array2 {α : Type} {cs : Array α} (h : cs.size = 2) : ∃ c0 c1, cs = #[c0, c1] := by
  obtain ⟨l⟩ := cs
  match l, h with
  | [c0, c1], _ => exact ⟨c0, c1, rfl⟩

section
variable {H : Type} {enc : TypeId × Value → H} {w : World} {held : Bool}

set_option maxRecDepth 8000 in
theorem open_disk {r : Reach} {b0 : Nat} {v : Value} {d : DataW H} {p : List MemPlace} (hv : Value.okWide Tryz.prog w r b0 24 v) (h : DataW.Trod enc Tryz.prog w 0 (fun _ => true) held 24 v d p) :
    ∃ (s u : List UInt8) (sa : Option Addr) (n sc : Nat) (wa : Option Addr) (m wc : Nat), v = .agg #[.slice sa n sc, .slice wa m wc] ∧ DkIn w s u sa n sc wa m wc ∧ n ≤ maxLen ∧ m ≤ maxLen := by
  obtain ⟨cs, rfl, hsz⟩ := okWide_struct Tryz.underlying24 hv
  obtain ⟨c0, c1, rfl⟩ := array2 (hsz.trans cDisk2)
  obtain ⟨fuel, hf⟩ := h
  obtain ⟨hs, n4, _, _, _, hl4, hg4⟩ := DataW.trod_struct Tryz.underlying24 hf
  match hs, hl4 with
  | [z0, z1], _ =>
    have e0 := hg4 0 _ rfl
    have e1 := hg4 1 _ rfl
    simp [Value.cells, cByt1] at e0 e1
    obtain ⟨sa, sc, s, rfl, h1, h2, h3, _⟩ := open_bytes2 Tryz.underlying22 Tryz.underlying5 cU81 e0
    obtain ⟨wa, wc, u, rfl, g1, g2, g3, _⟩ := open_bytes2 Tryz.underlying22 Tryz.underlying5 cU81 e1
    exact ⟨s, u, sa, _, sc, wa, _, wc, rfl, ⟨rfl, rfl, h3, g3, h1, g1⟩, h2, g2⟩

end

end Go.Proofs.YtekdigbdfeamkaaGreatDoor

/-
  What the rows' condition on the listed variables gives chapter 7's walks, and that the heap of the door's own run meets it.
-/
namespace Go.Proofs.YtekdigbdfeamkaaGreatDoor
open Go.ChangeShapes Go.WideShapes Go.ChangeAt Go.RowKit
set_option linter.unusedVariables false

theorem own : ownKnob Tryz.prog.godebug = none := by kernel_rfl

/-- what the rows list -/
def listed : List (String × DataW Unit) := [("math/bits.deBruijn32tab", Rows.laid_math_bits_deBruijn32tab), ("math/bits.deBruijn64tab", Rows.laid_math_bits_deBruijn64tab), ("internal/strconv.uint64pow10", Rows.laid_internal_strconv_uint64pow10), ("unicode/utf8.acceptRanges", Rows.laid_unicode_utf8_acceptRanges), ("strconv.ErrRange", Rows.laid_strconv_ErrRange), ("strconv.ErrSyntax", Rows.laid_strconv_ErrSyntax), ("unicode/utf8.first", Rows.laid_unicode_utf8_first)]

/-- The door's own heap meets the condition. -/
theorem door_met (os : Os) (args : Array Value) : laidMetH Tryz.prog listed ((World.laidAll Tryz.prog os listed).forCall (fun _ _ => 0) ⟨#[], args, []⟩).memory := by
  rw [MakeChecks.laidMetH_plain _ _ _ (by kernel_rfl)]
  exact laidMet_laidAll _ (by kernel_rfl) (by kernel_rfl)

theorem cU64 : Tryz.prog.cellsOf 120 = 1 := by kernel_rfl
theorem cTab : Tryz.prog.cellsOf 142 = 20 := by kernel_rfl
theorem cStr : Tryz.prog.cellsOf 9 = 1 := by kernel_rfl
theorem cErrS : Tryz.prog.cellsOf 162 = 1 := by kernel_rfl

noncomputable def gPow : Nat := (Tryz.prog.globalNamed "internal/strconv.uint64pow10").getD 0
noncomputable def gSyn : Nat := (Tryz.prog.globalNamed "strconv.ErrSyntax").getD 0
noncomputable def gRng : Nat := (Tryz.prog.globalNamed "strconv.ErrRange").getD 0

theorem nPow : Tryz.prog.globalNamed "internal/strconv.uint64pow10" = some gPow := by kernel_rfl
theorem nSyn : Tryz.prog.globalNamed "strconv.ErrSyntax" = some gSyn := by kernel_rfl
theorem nRng : Tryz.prog.globalNamed "strconv.ErrRange" = some gRng := by kernel_rfl
theorem tPow : (Tryz.prog.globals[gPow]?).map (·.type) = some 142 := by kernel_rfl
theorem tSyn : (Tryz.prog.globals[gSyn]?).map (·.type) = some 89 := by kernel_rfl
theorem tRng : (Tryz.prog.globals[gRng]?).map (·.type) = some 89 := by kernel_rfl

theorem starE : ("*" ++ "errors.errorString" : String) = "*errors.errorString" := by decide

theorem rowErr (u : TypeId) (h : Tryz.prog.typeName? 3 u = some "*errors.errorString") : u = 160 :=
  typeName_ptr_named (nm := "errors.errorString") (by rw [starE]; kernel_rfl) (by kernel_rfl) (by decide) u (by rw [starE]; exact h)

/-- What the condition gives the walks. -/
theorem laid_of {W : World} (h : laidMetH Tryz.prog listed W) (hs : W.ShapedOpen Tryz.prog) : LaidN W := by
  rw [MakeChecks.laidMetH_plain _ _ _ (by kernel_rfl)] at h
  refine ⟨?_, ?_, ?_, ?_⟩
  · exact Lib.tabIs_of_head nPow tPow Tryz.underlying142 Tryz.underlying120 cU64 cTab h.tail.tail
  · exact Go.Proofs.cell_of_shapedOpen_int (zero := #[.int .i64 0]) (t := 3) hs (of_decide_eq_true (by kernel_rfl)) (by kernel_rfl) rfl (by kernel_rfl) (by kernel_rfl) Tryz.underlying3
  · obtain ⟨a, s, hv, -, -, -⟩ := laid_sentinel h.tail.tail.tail.tail.tail nSyn tSyn Tryz.underlying89 rowErr Tryz.underlying160 Tryz.underlying162 rfl rfl Tryz.underlying9 cErrS cStr
    exact ⟨_, _, hv⟩
  · obtain ⟨a, s, hv, -, -, -⟩ := laid_sentinel h.tail.tail.tail.tail nRng tRng Tryz.underlying89 rowErr Tryz.underlying160 Tryz.underlying162 rfl rfl Tryz.underlying9 cErrS cStr
    exact ⟨_, _, hv⟩

end Go.Proofs.YtekdigbdfeamkaaGreatDoor

/-
  A law's step from its walk to its row, where the walk asks the shape of the world as it stands at the call. Nothing of any program.
-/
namespace Go.Proofs.YtekdigbdfeamkaaGreatDoor
open Go.ChangeShapes Go.WideShapes Go.ChangeAt Go.RowKit
set_option linter.unusedVariables false

section
variable {H : Type} {enc : TypeId × Value → H}

theorem returns_shaped {a : Assume} {C : Checked} {os : Os} {f : FuncId} {fn : Func} {s : ChangeSpec} {conds : List PathCond} {apart fresh handsOn again : Bool} {X : World → Array Value → Prop}
    (hX : ∀ (w w' : World) (args : Array Value), w.heap = w'.heap → X w args → X w' args)
    (own : ownKnob C.prog.godebug = none) (started : os.Started) (noInit : C.prog.inits.idxOf? f = none) (hfn : C.prog.funcs[f]? = some fn)
    (witness : ∃ (w : World) (tape : Tape) (i : Input), w.os = os ∧ (w.forCall tape i).Shaped C.prog ∧ i.vars = [] ∧ Input.okWide C.prog (w.forCall tape i) .any w.heap.size f i ∧
      ((s.pre enc C.prog fn conds apart (w.forCall tape i).memory i.args ∧ X (w.forCall tape i).memory i.args) ∧ sizedMet enc C.prog fn (OpenSpec.ofChange s) apart (w.forCall tape i).memory i.args) ∧ a.holds C.prog (lone (Frame.enter C.prog f i.args .normal) [] (w.forCall tape i)))
    (contract : ∀ (W : World) (base : Nat) (args : Array Value) (ds gs : List (DataW H)) (before : List MemPlace),
      (∀ (j : Nat) t v, fn.params[j]? = some t → args[j]? = some v → Value.okWide C.prog W .any base t v) →
      DataW.Whole enc C.prog fn.params.toList s.vars apart W args.toList ds gs before → X W args → W.ShapedOpen C.prog →
      Calls C.prog f args W fun e W' => ∃ v, e = .returned v ∧ s.post enc C.prog fn apart fresh handsOn again W args v W') :
    ReturnsInHanded a C os f .any (fun w args => (s.pre enc C.prog fn conds apart w args ∧ X w args) ∧ sizedMet enc C.prog fn (OpenSpec.ofChange s) apart w args) (s.post enc C.prog fn apart fresh handsOn again) := by
  refine returnsInHanded_of_calls own started noInit witness ?_
  intro w tape i _ hsh _ hok hpre hholds
  obtain ⟨_, _, _, fn', hfn', _, _, _, _, hval⟩ := hok
  have e : fn' = fn := Option.some.inj (hfn'.symm.trans hfn)
  subst e
  obtain ⟨⟨⟨ds, gs, before, hw, hc⟩, hx⟩, hz⟩ := hpre
  have hw' := DataW.Whole.of_heap (w' := w.forCall tape i) (by rfl) hw
  refine (contract (w.forCall tape i) w.heap.size i.args ds gs before hval hw' (hX _ _ _ (by rfl) hx) hsh).mono fun e W' ⟨v, he, hp⟩ => ?_
  subst he
  exact ChangeSpec.post_blind hp

end
end Go.Proofs.YtekdigbdfeamkaaGreatDoor
