/-
  A record that came in, opened.
-/
import Derived.Test.YtcpnbkgkknlocaaDoorOpen3
import Derived.Test.YtcpnbkgkknlocaaDoorNote8
namespace Go.Proofs.YtcpnbkgkknlocaaDoor
open Go.ChangeShapes Go.WideShapes Go.ChangeAt Go.RowKit
set_option linter.unusedVariables false
set_option linter.unusedSimpArgs false

theorem array13 {α : Type} {cs : Array α} (h : cs.size = 13) : ∃ c0 c1 c2 c3 c4 c5 c6 c7 c8 c9 c10 c11 c12, cs = #[c0, c1, c2, c3, c4, c5, c6, c7, c8, c9, c10, c11, c12] := by
  obtain ⟨l⟩ := cs
  match l, h with
  | [c0, c1, c2, c3, c4, c5, c6, c7, c8, c9, c10, c11, c12], _ => exact ⟨c0, c1, c2, c3, c4, c5, c6, c7, c8, c9, c10, c11, c12, rfl⟩

theorem cInt1 : Tryd.prog.cellsOf 3 = 1 := by kernel_rfl
theorem cBlk1 : Tryd.prog.cellsOf 27 = 1 := by kernel_rfl
theorem cByt1 : Tryd.prog.cellsOf 26 = 1 := by kernel_rfl
theorem cU81 : Tryd.prog.cellsOf 5 = 1 := by kernel_rfl
theorem cPlan2 : Tryd.prog.cellsOf 23 = 2 := by kernel_rfl
theorem cSym2 : Tryd.prog.cellsOf 29 = 2 := by kernel_rfl
theorem cHead6 : Tryd.prog.cellsOf 25 = 6 := by kernel_rfl
theorem cRec13 : Tryd.prog.cellsOf 31 = 13 := by kernel_rfl

section
variable {H : Type} {enc : TypeId × Value → H} {w : World} {held : Bool}

theorem one_int {n : Nat} {c : Value} {y : DataW H × List MemPlace} (h : DataW.trod enc Tryd.prog w 0 (fun _ => true) held n 3 [c] = some y) : ∃ a : Int, c = .int .i64 a ∧ I64 a := by
  obtain ⟨a, e, _, wa⟩ := DataW.trod_int Tryd.underlying3 h
  simp at e
  exact ⟨a, e, i64_of_wf wa⟩

set_option maxRecDepth 8000 in
theorem open_rec {r : Reach} {b0 : Nat} {v : Value} {d : DataW H} {p : List MemPlace} (hv : Value.okWide Tryd.prog w r b0 31 v) (h : DataW.Trod enc Tryd.prog w 0 (fun _ => true) held 31 v d p) :
    ∃ (x : Rc) (da : Option Addr) (dc : Nat) (ca : Option Addr) (cc : Nat), v = rcV x da dc ca cc ∧ x.ints ∧ Lies w da (bs x.d) ∧ Lies w ca (bs x.c) ∧ x.d.length ≤ maxLen ∧ x.c.length ≤ maxLen := by
  obtain ⟨cs, rfl, hsz⟩ := okWide_struct Tryd.underlying31 hv
  obtain ⟨c0, c1, c2, c3, c4, c5, c6, c7, c8, c9, c10, c11, c12, rfl⟩ := array13 (hsz.trans cRec13)
  obtain ⟨fuel, hf⟩ := h
  obtain ⟨xs, n, _, _, _, hlen, hg⟩ := DataW.trod_struct Tryd.underlying31 hf
  match xs, hlen with
  | [y0, y1, y2, y3, y4, y5, y6], _ =>
    have g0 := hg 0 _ rfl
    have g1 := hg 1 _ rfl
    have g2 := hg 2 _ rfl
    have g3 := hg 3 _ rfl
    have g4 := hg 4 _ rfl
    have g5 := hg 5 _ rfl
    have g6 := hg 6 _ rfl
    simp [Value.cells, cInt1, cHead6, cSym2, cByt1] at g0 g1 g2 g3 g4 g5 g6
    obtain ⟨k, rfl, ik⟩ := one_int g0
    obtain ⟨pl, rfl, ip⟩ := one_int g1
    obtain ⟨nn, rfl, inn⟩ := one_int g2
    obtain ⟨ty, rfl, iy⟩ := one_int g3
    obtain ⟨hs, n4, _, _, _, hl4, hg4⟩ := DataW.trod_struct Tryd.underlying25 g4
    match hs, hl4 with
    | [z0, z1, z2, z3, z4], _ =>
      have e0 := hg4 0 _ rfl
      have e1 := hg4 1 _ rfl
      have e2 := hg4 2 _ rfl
      have e3 := hg4 3 _ rfl
      have e4 := hg4 4 _ rfl
      simp [cInt1, cPlan2] at e0 e1 e2 e3 e4
      obtain ⟨F, rfl, iF⟩ := one_int e0
      obtain ⟨Q, rfl, iQ⟩ := one_int e1
      obtain ⟨T, rfl, iT⟩ := one_int e2
      obtain ⟨L, rfl, iL⟩ := one_int e3
      obtain ⟨ps, n5, _, _, _, hl5, hg5⟩ := DataW.trod_struct Tryd.underlying23 e4
      match ps, hl5 with
      | [u0, u1], _ =>
        have a0 := hg5 0 _ rfl
        have a1 := hg5 1 _ rfl
        simp [cInt1] at a0 a1
        obtain ⟨B, rfl, iB⟩ := one_int a0
        obtain ⟨K, rfl, iK⟩ := one_int a1
        obtain ⟨ss, n6, _, _, _, hl6, hg6⟩ := DataW.trod_struct Tryd.underlying29 g5
        match ss, hl6 with
        | [s0, s1], _ =>
          have b0 := hg6 0 _ rfl
          have b1 := hg6 1 _ rfl
          simp [cInt1, cBlk1] at b0 b1
          obtain ⟨id, rfl, iid⟩ := one_int b0
          obtain ⟨da, dc, dl, rfl, h1, h2, _, _⟩ := open_bytes2 Tryd.underlying27 Tryd.underlying5 cU81 b1
          obtain ⟨ca, cc, cl, rfl, h3, h4, _, _⟩ := open_bytes2 Tryd.underlying26 Tryd.underlying5 cU81 g6
          exact ⟨⟨k, pl, nn, ty, ⟨F, Q, T, L, B, K⟩, id, dl, cl⟩, da, dc, ca, cc, rfl, ⟨ik, ip, inn, iy, ⟨iF, iQ, iT, iL, iB, iK⟩, iid⟩, h1, h3, h2, h4⟩
end
end Go.Proofs.YtcpnbkgkknlocaaDoor
