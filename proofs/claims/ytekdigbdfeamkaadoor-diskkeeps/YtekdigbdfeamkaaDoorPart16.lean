import Derived.Test.YtekdigbdfeamkaaDoorPart15
import Derived.Deep.AppendLies
import Derived.Test.YtekdigbdfeamkaaDoorPart4
import Derived.Lib.AppendZeros
import Derived.Test.YtekdigbdfeamkaaDoorPart13
import Derived.Test.YtekdigbdfeamkaaDoorPart1
/-
  Chapter 8: DiskKeeps' closure: it puts records onto the disk that it has captured, and answers those that were taken.
-/
namespace Go.Proofs.YtekdigbdfeamkaaDoor
open Go.RowKit
set_option linter.unusedVariables false
set_option linter.unusedSimpArgs false

/-- how far the records are put -/
def KpInv (w0 w wr : World) (v : Value) (g : Nat) (A B0 : List Rc) (LR : List MRec) (q : Nat) : Prop :=
  ∃ (OL : List MRec) (sa : Option Addr) (n sc : Nat) (wa : Option Addr) (m wc : Nat), wr.ownsRow w.heap.size 35 13 v OL.length (recCells OL) ∧ (∀ y ∈ OL, y ∈ LR) ∧ OL.length ≤ q ∧ Goods (OL.map MRec.r) ∧
    wr.heap[g]? = some (.cells #[.slice sa n sc, .slice wa m wc] 26 (0, 0)) ∧ DkIn wr (linesT A) (linesT (B0 ++ OL.map MRec.r)) sa n sc wa m wc ∧ (∀ b o, sa = some ⟨b, o, none⟩ → g < b) ∧ (∀ b o, wa = some ⟨b, o, none⟩ → g < b) ∧
    OffRow v sa (linesT A) ∧ OffRow v wa (linesT (B0 ++ OL.map MRec.r)) ∧ (linesT A).length + (linesT (B0 ++ OL.map MRec.r)).length ≤ 60000 ∧ Below w0.heap.size w0 wr ∧ w.heap.size ≤ wr.heap.size ∧ ∀ k, k < w.heap.size → k ≠ g → wr.heap[k]? = w.heap[k]?

theorem OffRow.stay {v : Value} {a : Option Addr} {l : List UInt8} (h : OffRow v a l) : OffRow v a l := h

theorem KpInv.below {w0 w wr W : World} {v : Value} {g : Nat} {A B0 : List Rc} {LR : List MRec} {q : Nat} (h : KpInv w0 w wr v g A B0 LR q) (hb : Below wr.heap.size wr W) : KpInv w0 w W v g A B0 LR (q + 1) := by
  obtain ⟨OL, sa, n, sc, wa, m, wc, h1, h2, h3, h4, h5, h6, h7, h8, h9, h10, h11, h12, h13, h14⟩ := h
  exact ⟨OL, sa, n, sc, wa, m, wc, ownB h1 hb, h2, by omega, h4, blkB h5 hb, h6.below hb, h7, h8, h9, h10, h11, h12.trans (hb.mono h12.size), Nat.le_trans h13 hb.size, fun k e1 e2 => (hb.block k (Nat.lt_of_lt_of_le e1 h13)).trans (h14 k e1 e2)⟩

theorem newCells (W : World) {c : Array Value} {T : TypeId} {l : List Value} (h : c.toList = l) : ∀ j u, l[j]? = some u → ((W.alloc (.cells c T)).drew).cell? ((⟨W.heap.size, 0, none⟩ : Addr).add j) = some u := by
  intro j u hj
  subst h
  rw [Addr.add_lit, Nat.zero_add]
  exact cellB (w := W.alloc (.cells c T)) (by rw [heap_alloc_eq, if_pos rfl]) j u (by simpa using hj)

theorem DkIn.grown {w w' : World} {v : Value} {s u : List UInt8} {sa : Option Addr} {n sc : Nat} {wa : Option Addr} {m wc : Nat} (h : DkIn w s u sa n sc wa m wc) (hg : w.grownBy w' v.ownBlock) (h1 : OffRow v sa s) (h2 : OffRow v wa u) : DkIn w' s u sa n sc wa m wc :=
  ⟨h.hn, h.hm, h.hsc, h.hwc, lies_grownO hg h.ls h1, lies_grownO hg h.lv h2⟩

theorem KpInv.step {w0 w wr WA w4 W9 : World} {v v' : Value} {g : Nat} {A B0 : List Rc} {LR OL : List MRec} {q : Nat} {x : MRec} {sa : Option Addr} {n sc : Nat} {wa : Option Addr} {m wc : Nat} (hown : wr.ownsRow w.heap.size 35 13 v OL.length (recCells OL)) (hsub : ∀ y ∈ OL, y ∈ LR) (hq : OL.length ≤ q) (hgood : Goods (OL.map MRec.r)) (hgw : g < w.heap.size) (hw0 : w0.heap.size ≤ g)
    (h12 : Below w0.heap.size w0 wr) (h13 : w.heap.size ≤ wr.heap.size) (h14 : ∀ k, k < w.heap.size → k ≠ g → wr.heap[k]? = w.heap[k]?) (hx : x ∈ LR) (hxi : x.r.ints) (hx0 : x.r.code = 0) (hbA : Below wr.heap.size wr WA) (hd : DkIn WA (linesT A) (linesT (B0 ++ OL.map MRec.r) ++ (x.r.text ++ [10])) sa n sc wa m wc) (hs : ∀ b o, sa = some ⟨b, o, none⟩ → wr.heap.size ≤ b) (hv : ∀ b o, wa = some ⟨b, o, none⟩ → wr.heap.size ≤ b)
    (htot : (linesT A).length + (linesT (B0 ++ OL.map MRec.r) ++ (x.r.text ++ [10])).length ≤ 60000) (hown' : w4.ownsRow w.heap.size 35 13 v' (OL.length + 1) (recCells OL ++ x.cells)) (hg : WA.grownBy w4 v.ownBlock) (hvv : v'.ownBlock = v.ownBlock ∨ v'.ownBlock = some WA.heap.size)
    (hq9 : W9.heap[g]? = some (.cells #[.slice sa n sc, .slice wa m wc] 26 (0, 0))) (hk9 : ∀ k, k ≠ g → W9.heap[k]? = w4.heap[k]?) (hB9 : ∀ B w, B ≤ g → Below B w w4 → Below B w W9) : KpInv w0 w W9 v' g A B0 LR (q + 1) := by
  have hlt : ∀ k, v.ownBlock = some k → w.heap.size ≤ k ∧ k < wr.heap.size := fun k hk => hown.lt k hk
  have o1 : OffRow v sa (linesT A) := fun _ b o e e' => by have := hs b o e; have := (hlt b e').2; omega
  have o2 : OffRow v wa (linesT (B0 ++ OL.map MRec.r) ++ (x.r.text ++ [10])) := fun _ b o e e' => by have := hv b o e; have := (hlt b e').2; omega
  have hd4 := hd.grown hg o1 o2
  have hd9 := hd4.far (g := g) hk9 (fun b o e => by have := hs b o e; omega) (fun b o e => by have := hv b o e; omega)
  have e1 : linesT (B0 ++ (OL ++ [x]).map MRec.r) = linesT (B0 ++ OL.map MRec.r) ++ (x.r.text ++ [10]) := by
    rw [List.map_append, ← List.append_assoc]
    exact linesT_snoc _ _
  have h4A : Below w.heap.size WA w4 := (Below.refl _ WA).grown hg (Nat.le_trans h13 hbA.size) (fun k hk => (hlt k hk).1)
  refine ⟨OL ++ [x], sa, n, sc, wa, m, wc, ?_, ?_, ?_, ?_, hq9, ?_, ?_, ?_, ?_, ?_, ?_, ?_, ?_, ?_⟩
  · rw [recCells_append, List.length_append]
    have e : recCells [x] = x.cells := by simp [recCells]
    rw [e]
    have hne : v'.ownBlock ≠ some g := fun e => by have := (hown'.lt g e).1; omega
    refine hown'.kept (row := some g) ⟨?_, ?_, ?_, ?_, ?_⟩ ?_
    · exact (hB9 0 w4 (Nat.zero_le _) (Below.refl _ _)).os
    · exact (hB9 0 w4 (Nat.zero_le _) (Below.refl _ _)).tape
    · exact (hB9 0 w4 (Nat.zero_le _) (Below.refl _ _)).output
    · exact (hB9 0 w4 (Nat.zero_le _) (Below.refl _ _)).size
    · intro k _ hne2
      exact hk9 k (fun e => hne2 (by rw [e]))
    · exact Or.inr hne
  · intro y hy
    rcases List.mem_append.1 hy with hy | hy
    · exact hsub y hy
    · obtain rfl : y = x := by simpa using hy
      exact hx
  · rw [List.length_append, List.length_singleton]; omega
  · rw [List.map_append]
    exact goods_append hgood (fun r hr => by
      obtain rfl : r = x.r := by simpa using hr
      exact ⟨hxi, hx0⟩)
  · rw [e1]; exact hd9
  · intro b o e; have := hs b o e; omega
  · intro b o e; have := hv b o e; omega
  · exact o1.next hd.ls hvv
  · rw [e1]; exact o2.next hd.lv hvv
  · rw [e1]; exact htot
  · refine hB9 _ _ hw0 ?_
    have hA := h12.trans (hbA.mono h12.size)
    exact hA.trans (h4A.mono (by omega))
  · have := h4A.size
    have := hbA.size
    have := (hB9 0 w4 (Nat.zero_le _) (Below.refl _ _)).size
    omega
  · intro k e2 e3
    rw [hk9 k e3, h4A.block k e2, hbA.block k (by omega)]
    exact h14 k e2 e3

set_option maxHeartbeats 4000000 in
set_option maxRecDepth 8000 in
theorem putC_any (p : Option Addr) (cp : Nat) (LR : List MRec) (g : Nat) (A B0 : List Rc) (sa : Option Addr) (n sc : Nat) (wa : Option Addr) (m wc : Nat) (w0 w : World) (hL0 : LaidN w0) (hcap : LR.length ≤ cp) (hlen : LR.length ≤ maxLen) (hl : Lies w0 p (recCells LR)) (hall : ∀ y ∈ LR, RecIn w0 y ∧ RecShort y ∧ y.r.ints)
    (hw0 : w0.heap.size ≤ g) (hB0 : Below w0.heap.size w0 w) (hg : w.heap[g]? = some (.cells #[.slice sa n sc, .slice wa m wc] 26 (0, 0))) (hd : DkIn w (linesT A) (linesT B0) sa n sc wa m wc) (hs : ∀ b o, sa = some ⟨b, o, none⟩ → g < b) (hv : ∀ b o, wa = some ⟨b, o, none⟩ → g < b) (hA : Goods A) (hAl : A.length ≤ 200) (htot : (linesT A).length + (linesT B0).length ≤ 60000) :
    Calls Tryd.prog 5 #[.slice p LR.length cp, .pointer (some ⟨g, 0, none⟩)] w fun e w' => ∃ v, e = .returned v ∧ KpInv w0 w w' v g A B0 LR 20 := by
  obtain ⟨i0, hii, hz0, hz1, hz2⟩ := info_parts infoRec
  obtain ⟨ll, hll⟩ : ∃ ll, LR.length = ll := ⟨_, rfl⟩
  have HLL := Shut.mk hll
  rw [hll] at hcap hlen ⊢
  unfold maxLen at hlen
  clear hll
  obtain ⟨N, hN, hN20, hmin⟩ : ∃ N : Nat, N ≤ ll ∧ N ≤ 20 ∧ min (ll : Int) 20 = (N : Int) := ⟨min ll 20, by omega, by omega, by omega⟩
  have H0 : Shut (KpInv w0 w w (.slice none 0 0) g A B0 LR 0) := ⟨[], sa, n, sc, wa, m, wc, World.ownsRow_nil _ _ _ _, fun y hy => absurd hy (by simp), Nat.le_refl _, fun r hr => absurd hr (by simp), hg, by simpa using hd, hs, hv, (fun _ b o e e' => by cases e'), (fun _ b o e e' => by cases e'), by simpa using htot, hB0, Nat.le_refl _, fun _ _ _ => rfl⟩
  have hgw : g < w.heap.size := (Array.getElem?_eq_some_iff.1 hg).1
  clear hg hd hs hv htot hB0 sa n sc wa m wc
  go_enter Tryd.func5, Tryd.ntmps5
  go_wp2_with fail
  go_loopw [4, 15] (fun v i wr => ∃ q : Nat, q ≤ N ∧ i = .int .i64 q ∧ Shut (KpInv w0 w wr v g A B0 LR q)) (fun _ i _ => N - (intOf i).toNat)
  case atStart => exact ⟨0, Nat.zero_le _, rfl, H0⟩
  case round =>
    clear H0
    obtain ⟨q, hq, rfl, hI⟩ := hrel
    by_cases hlt : q < N
    · obtain ⟨OL, sa, n, sc, wa, m, wc, k1, k2, k3, k4, k5, k6, k7, k8, k9, k10, k11, k12, k13, k14⟩ := hI.out
      obtain ⟨pv, cv, rfl, hlo, hcv⟩ := own_recs k1
      clear hlo
      obtain ⟨pb, po, rfl⟩ := hl.some (k := 0) (by rw [recCells_length, HLL.out]; omega)
      obtain ⟨x, hxq⟩ : ∃ x, LR[q]? = some x := ⟨_, List.getElem?_eq_getElem (by rw [HLL.out]; omega)⟩
      obtain ⟨hx1, hx2, hx3⟩ := hall x (List.mem_of_getElem? hxq)
      have HXM := Shut.mk (List.mem_of_getElem? hxq)
      have h1 := And.intro (hl.below k12 (Nat.le_refl _)) hxq
      clear hxq
      have p0 : wr.cell? ⟨pb, po + q * 13, none⟩ = some (.int .i64 x.r.k) := recs_cell h1 0 rfl
      have p1 : wr.cell? ⟨pb, po + q * 13 + 1, none⟩ = some (.int .i64 x.r.p) := recs_cell h1 1 rfl
      have p2 : wr.cell? ⟨pb, po + q * 13 + 2, none⟩ = some (.int .i64 x.r.n) := recs_cell h1 2 rfl
      have p3 : wr.cell? ⟨pb, po + q * 13 + 3, none⟩ = some (.int .i64 x.r.y) := recs_cell h1 3 rfl
      have p4 : wr.cell? ⟨pb, po + q * 13 + 4, none⟩ = some (.int .i64 x.r.h.F) := recs_cell h1 4 rfl
      have p5 : wr.cell? ⟨pb, po + q * 13 + 5, none⟩ = some (.int .i64 x.r.h.Q) := recs_cell h1 5 rfl
      have p6 : wr.cell? ⟨pb, po + q * 13 + 6, none⟩ = some (.int .i64 x.r.h.T) := recs_cell h1 6 rfl
      have p7 : wr.cell? ⟨pb, po + q * 13 + 7, none⟩ = some (.int .i64 x.r.h.L) := recs_cell h1 7 rfl
      have p8 : wr.cell? ⟨pb, po + q * 13 + 8, none⟩ = some (.int .i64 x.r.h.B) := recs_cell h1 8 rfl
      have p9 : wr.cell? ⟨pb, po + q * 13 + 9, none⟩ = some (.int .i64 x.r.h.K) := recs_cell h1 9 rfl
      have p10 : wr.cell? ⟨pb, po + q * 13 + 10, none⟩ = some (.int .i64 x.r.id) := recs_cell h1 10 rfl
      have p11 : wr.cell? ⟨pb, po + q * 13 + 11, none⟩ = some (.slice x.da x.r.d.length x.dc) := recs_cell h1 11 rfl
      have p12 : wr.cell? ⟨pb, po + q * 13 + 12, none⟩ = some (.slice x.ca x.r.c.length x.cc) := recs_cell h1 12 rfl
      go_upto_region 5 with fail
      generalize hW1 : wr.alloc (.cells #[.int .i64 x.r.k, .int .i64 x.r.p, .int .i64 x.r.n, .int .i64 x.r.y, .int .i64 x.r.h.F, .int .i64 x.r.h.Q, .int .i64 x.r.h.T, .int .i64 x.r.h.L, .int .i64 x.r.h.B, .int .i64 x.r.h.K, .int .i64 x.r.id, .slice x.da x.r.d.length x.dc, .slice x.ca x.r.c.length x.cc] 35) = W1
      have hb1 : Below wr.heap.size wr W1 := by rw [← hW1]; exact (Below.refl _ _).alloc (Nat.le_refl _) _
      have hq1 : W1.heap[wr.heap.size]? = some (.cells #[.int .i64 x.r.k, .int .i64 x.r.p, .int .i64 x.r.n, .int .i64 x.r.y, .int .i64 x.r.h.F, .int .i64 x.r.h.Q, .int .i64 x.r.h.T, .int .i64 x.r.h.L, .int .i64 x.r.h.B, .int .i64 x.r.h.K, .int .i64 x.r.id, .slice x.da x.r.d.length x.dc, .slice x.ca x.r.c.length x.cc] 35 (0, 0)) := by rw [← hW1, heap_alloc_eq, if_pos rfl]
      have hg1 := blkB k5 hb1
      have hd1 := k6.below hb1
      have hB1 := k12.trans (hb1.mono k12.size)
      have ok : DkOk (linesT A) (linesT (B0 ++ OL.map MRec.r)) := DkOk.log hA hAl k11
      have hxin := hx1.below hB1
      clear hW1 h1 p0 p1 p2 p3 p4 p5 p6 p7 p8 p9 p10 p11 p12
      have q0 : W1.cell? ⟨wr.heap.size, 0, none⟩ = some (.int .i64 x.r.k) := cellB hq1 0 _ rfl
      have q1 : W1.cell? ⟨wr.heap.size, 1, none⟩ = some (.int .i64 x.r.p) := cellB hq1 1 _ rfl
      have q2 : W1.cell? ⟨wr.heap.size, 2, none⟩ = some (.int .i64 x.r.n) := cellB hq1 2 _ rfl
      have q3 : W1.cell? ⟨wr.heap.size, 3, none⟩ = some (.int .i64 x.r.y) := cellB hq1 3 _ rfl
      have q4 : W1.cell? ⟨wr.heap.size, 4, none⟩ = some (.int .i64 x.r.h.F) := cellB hq1 4 _ rfl
      have q5 : W1.cell? ⟨wr.heap.size, 5, none⟩ = some (.int .i64 x.r.h.Q) := cellB hq1 5 _ rfl
      have q6 : W1.cell? ⟨wr.heap.size, 6, none⟩ = some (.int .i64 x.r.h.T) := cellB hq1 6 _ rfl
      have q7 : W1.cell? ⟨wr.heap.size, 7, none⟩ = some (.int .i64 x.r.h.L) := cellB hq1 7 _ rfl
      have q8 : W1.cell? ⟨wr.heap.size, 8, none⟩ = some (.int .i64 x.r.h.B) := cellB hq1 8 _ rfl
      have q9 : W1.cell? ⟨wr.heap.size, 9, none⟩ = some (.int .i64 x.r.h.K) := cellB hq1 9 _ rfl
      have q10 : W1.cell? ⟨wr.heap.size, 10, none⟩ = some (.int .i64 x.r.id) := cellB hq1 10 _ rfl
      have q11 : W1.cell? ⟨wr.heap.size, 11, none⟩ = some (.slice x.da x.r.d.length x.dc) := cellB hq1 11 _ rfl
      have q12 : W1.cell? ⟨wr.heap.size, 12, none⟩ = some (.slice x.ca x.r.c.length x.cc) := cellB hq1 12 _ rfl
      obtain ⟨c0, c1, f0, f1⟩ := cellsD hg1
      by_cases hz : putCode (linesT A) (linesT (B0 ++ OL.map MRec.r)) x.r = 0
      · obtain ⟨hx0, hroom⟩ := putCode_room hz ok
        have hP := put_ok hd1 ok x.r x.da x.dc x.ca x.cc hx3 hx2.1 hxin.1 hxin.2 hz (hL0.below hB1)
        simp only [rcV] at hP
        have HIN := Shut.mk (And.intro k1 (And.intro k2 (And.intro k3 (And.intro k4 (And.intro k12 (And.intro k13 k14))))))
        have HX0 := Shut.mk (And.intro hx3 (And.intro hx0 hroom))
        clear hz ok hx0 hroom hI
        go_wp2_with fail
        refine hP.mono ?_
        rintro e W2 ⟨⟨sa2, n2, sc2, wa2, m2, wc2, rfl, hd2, hs2, hv2⟩, hb2⟩
        have hq2 := blkB hq1 hb2
        have hg2 := blkB hg1 hb2
        have hbw2 := hb1.trans (hb2.mono hb1.size)
        have hsz1 := hb1.size
        clear hP hd1 hg1 hq1 hB1 c0 c1 f0 f1 q0 q1 q2 q3 q4 q5 q6 q7 q8 q9 q10 q11 q12
        go_upto_region 6 with fail
        generalize hW3 : W2.alloc (.cells #[.slice sa2 n2 sc2, .slice wa2 m2 wc2] 26) = W3
        have hb3 : Below W2.heap.size W2 W3 := by rw [← hW3]; exact (Below.refl _ _).alloc (Nat.le_refl _) _
        have hx3' : W3.heap[W2.heap.size]? = some (.cells #[.slice sa2 n2 sc2, .slice wa2 m2 wc2] 26 (0, 0)) := by rw [← hW3, heap_alloc_eq, if_pos rfl]
        have hq3 := blkB hq2 hb3
        have hg3 := blkB hg2 hb3
        have hbw3 := hbw2.trans (hb3.mono hbw2.size)
        have hd3 := hd2.below hb3
        have hown3 := ownB k1 hbw3
        have hown3 : ∀ o, (W3.alloc o).drew.ownsRow w.heap.size 35 13 (.slice pv OL.length cv) OL.length (recCells OL) := fun o => ownB k1 ((hbw3.alloc hbw3.size o).drew)
        have hOL := k3
        have hwr := k13
        have hlt3 : ∀ b, (Value.slice pv OL.length cv).ownBlock = some b → w.heap.size ≤ b ∧ b < wr.heap.size := fun b e => k1.lt b e
        have hsz2 : wr.heap.size < W2.heap.size := (Array.getElem?_eq_some_iff.1 hq2).1
        have hsz3 : W2.heap.size < W3.heap.size := (Array.getElem?_eq_some_iff.1 hx3').1
        clear hW3 hb3 hb2 hd2 hbw2 hq2 hg2 k1 k2 k3 k4 k5 k6 k7 k8 k9 k10 k11 k12 k13 k14
        go_upto_region 7 with fail
        have X0 : W3.drew.cell? ⟨W2.heap.size, 0, none⟩ = some (.slice sa2 n2 sc2) := (cellsD hx3').1
        have X1 : W3.drew.cell? ⟨W2.heap.size, 1, none⟩ = some (.slice wa2 m2 wc2) := (cellsD hx3').2.1
        have q0 : W3.drew.cell? ⟨wr.heap.size, 0, none⟩ = some (.int .i64 x.r.k) := cellB hq3 0 _ rfl
        have q1 : W3.drew.cell? ⟨wr.heap.size, 1, none⟩ = some (.int .i64 x.r.p) := cellB hq3 1 _ rfl
        have q2 : W3.drew.cell? ⟨wr.heap.size, 2, none⟩ = some (.int .i64 x.r.n) := cellB hq3 2 _ rfl
        have q3 : W3.drew.cell? ⟨wr.heap.size, 3, none⟩ = some (.int .i64 x.r.y) := cellB hq3 3 _ rfl
        have q4 : W3.drew.cell? ⟨wr.heap.size, 4, none⟩ = some (.int .i64 x.r.h.F) := cellB hq3 4 _ rfl
        have q5 : W3.drew.cell? ⟨wr.heap.size, 5, none⟩ = some (.int .i64 x.r.h.Q) := cellB hq3 5 _ rfl
        have q6 : W3.drew.cell? ⟨wr.heap.size, 6, none⟩ = some (.int .i64 x.r.h.T) := cellB hq3 6 _ rfl
        have q7 : W3.drew.cell? ⟨wr.heap.size, 7, none⟩ = some (.int .i64 x.r.h.L) := cellB hq3 7 _ rfl
        have q8 : W3.drew.cell? ⟨wr.heap.size, 8, none⟩ = some (.int .i64 x.r.h.B) := cellB hq3 8 _ rfl
        have q9 : W3.drew.cell? ⟨wr.heap.size, 9, none⟩ = some (.int .i64 x.r.h.K) := cellB hq3 9 _ rfl
        have q10 : W3.drew.cell? ⟨wr.heap.size, 10, none⟩ = some (.int .i64 x.r.id) := cellB hq3 10 _ rfl
        have q11 : W3.drew.cell? ⟨wr.heap.size, 11, none⟩ = some (.slice x.da x.r.d.length x.dc) := cellB hq3 11 _ rfl
        have q12 : W3.drew.cell? ⟨wr.heap.size, 12, none⟩ = some (.slice x.ca x.r.c.length x.cc) := cellB hq3 12 _ rfl
        have Y0 : ∀ o, (W3.alloc o).drew.cell? ⟨W2.heap.size, 0, none⟩ = some (.slice sa2 n2 sc2) := fun o => cellW (w := W3) X0 (((Below.refl _ _).alloc (Nat.le_refl _) o).drew)
        have Y1 : ∀ o, (W3.alloc o).drew.cell? ⟨W2.heap.size, 1, none⟩ = some (.slice wa2 m2 wc2) := fun o => cellW (w := W3) X1 (((Below.refl _ _).alloc (Nat.le_refl _) o).drew)
        go_region_law (refine step_append_lies _ rfl (.tmp 28) (.tmp 30) 22 rfl w.heap.size 35 i0 (rcV rc0 none 0 none 0) 13 136 Tryd.underlying22 hii hz0 hz1 hz2 rfl (by decide) (.slice pv OL.length cv) OL.length (recCells OL) (by simp [Act.eval, Act.put]) (hown3 _) ⟨W3.heap.size, 0, none⟩ 1 1 [.int .i64 x.r.k, .int .i64 x.r.p, .int .i64 x.r.n, .int .i64 x.r.y, .int .i64 x.r.h.F, .int .i64 x.r.h.Q, .int .i64 x.r.h.T, .int .i64 x.r.h.L, .int .i64 x.r.h.B, .int .i64 x.r.h.K, .int .i64 x.r.id, .slice x.da x.r.d.length x.dc, .slice x.ca x.r.c.length x.cc] (by simp [Act.eval, Act.put]) rfl (newCells W3 rfl) (fun u hu => List.all_eq_true.1 (show List.all [.int .i64 x.r.k, .int .i64 x.r.p, .int .i64 x.r.n, .int .i64 x.r.y, .int .i64 x.r.h.F, .int .i64 x.r.h.Q, .int .i64 x.r.h.T, .int .i64 x.r.h.L, .int .i64 x.r.h.B, .int .i64 x.r.h.K, .int .i64 x.r.id, .slice x.da x.r.d.length x.dc, .slice x.ca x.r.c.length x.cc] (fun v => v.oneCell') = true from rfl) u hu) (by decide) (by unfold maxLen; omega) (by omega) (by simp; omega) _ rfl ?_; intro gg cap w4 hown4 hgrow hat hlt4; have hx4 : w4.heap[W2.heap.size]? = some (.cells #[.slice sa2 n2 sc2, .slice wa2 m2 wc2] 26 (0, 0)) := (hgrow.block W2.heap.size (by simp; omega) (fun e => by have := (hlt3 _ e.symm).2; omega)).trans (blkB (w := W3) hx3' (((Below.refl _ _).alloc (Nat.le_refl _) _).drew)); have hg4 : w4.heap[g]? = some (.cells #[.slice sa n sc, .slice wa m wc] 26 (0, 0)) := (hgrow.block g (by simp; omega) (fun e => by have := (hlt3 _ e.symm).1; omega)).trans (blkB (w := W3) hg3 (((Below.refl _ _).alloc (Nat.le_refl _) _).drew)); obtain ⟨a0, a1, a2, a3⟩ := cellsD hg4; obtain ⟨a4, a5, a6, a7⟩ := cellsD hx4)
        all_goals
          obtain ⟨W9, hW9, hq9, hk9, hB9⟩ := box2 w4 g 26 _ _ (.slice sa2 n2 sc2) (.slice wa2 m2 wc2) hg4
          have R := Shut.mk (KpInv.step HIN.out.1 HIN.out.2.1 HIN.out.2.2.1 HIN.out.2.2.2.1 hgw hw0 HIN.out.2.2.2.2.1 HIN.out.2.2.2.2.2.1 HIN.out.2.2.2.2.2.2 HXM.out HX0.out.1 HX0.out.2.1 ((hbw3.alloc hbw3.size _).drew) (hd3.below (((Below.refl _ _).alloc (Nat.le_refl _) _).drew)) (fun b o e => Nat.le_trans hsz1 (hs2 b o e)) (fun b o e => Nat.le_trans hsz1 (hv2 b o e)) HX0.out.2.2 hown4 hgrow (by rcases hat with h | h; exact Or.inl h.symm; exact Or.inr (by rw [h]; rfl)) hq9 hk9 hB9)
          rw [hW9]
          clear hW9 hB9 hq9 hk9 hown4 hgrow hat hlt4 hx4 hg4 a0 a1 a2 a3 a4 a5 a6 a7 X0 X1 Y0 Y1 hown3 hd3 hs2 hv2 q0 q1 q2 q3 q4 q5 q6 q7 q8 q9 q10 q11 q12
          go_wp2
          go_roundw
          case rel => exact ⟨q + 1, by omega, by go_num, R⟩
          case measure => simp [intOf]; omega
      · have hP := put_no hd1 ok x.r x.da x.dc x.ca x.cc hx3 hx2.1 hxin.1 hxin.2 hz (hL0.below hB1)
        simp only [rcV] at hP
        have bz : (putCode (linesT A) (linesT (B0 ++ OL.map MRec.r)) x.r == 0) = false := by simpa using hz
        generalize putCode (linesT A) (linesT (B0 ++ OL.map MRec.r)) x.r = z at hP bz
        clear hz ok
        go_wp2_with fail
        refine hP.mono ?_
        rintro e W2 ⟨⟨sa2, n2, sc2, wa2, m2, wc2, rfl, hd2, hs2, hv2⟩, hb2⟩
        have hbw2 := hb1.trans (hb2.mono hb1.size)
        clear hP hd1 hg1 hq1 hB1 c0 c1 f0 f1 hd2 hs2 hv2 q0 q1 q2 q3 q4 q5 q6 q7 q8 q9 q10 q11 q12
        go_upto_region 6 with fail
        generalize hW3 : W2.alloc (.cells #[.slice sa2 n2 sc2, .slice wa2 m2 wc2] 26) = W3
        have hb3 : Below W2.heap.size W2 W3 := by rw [← hW3]; exact (Below.refl _ _).alloc (Nat.le_refl _) _
        have R := Shut.mk (hI.out.below (hbw2.trans (hb3.mono hbw2.size)))
        clear hW3 hb3 hb2 hbw2 hb1 k1 k2 k3 k4 k5 k6 k7 k8 k9 k10 k11 k12 k13 k14 hI
        go_wp2
        go_roundw
        case rel => exact ⟨q + 1, by omega, by go_num, R⟩
        case measure => simp [intOf]; omega
    · have R := hI.out
      obtain ⟨OL, sa, n, sc, wa, m, wc, k1, k2, k3, kk⟩ := R
      have F : Shut (KpInv w0 w wr _ g A B0 LR 20) := ⟨OL, sa, n, sc, wa, m, wc, k1, k2, by omega, kk⟩
      clear hI k1 k2 k3 kk
      go_wp2
      go_ret
      exact ⟨_, rfl, F.out⟩

end Go.Proofs.YtekdigbdfeamkaaDoor

/-
  slices.Grow of nothing and slices.Concat of blocks: the contract of each.
-/
namespace Go.Proofs.YtekdigbdfeamkaaDoor
open Go.RowKit
set_option linter.unusedVariables false
set_option linter.unusedSimpArgs false

theorem zeroCells_size (z : Value) (n : Nat) : (Builtin.zeroCells #[z] n).size = n := by simp [Builtin.zeroCells]

theorem storeCells_nil {P : Program} (w : World) (a : Addr) (i : Nat) : (storeCells a [] i).run P w = .ok () w := rfl

/-- append of a slice that has nothing -/
theorem run_append_nothing {P : Program} (w : World) (t ty e : TypeId) (i : TypeInfo) (ht : P.underlying t = some (.slice e)) (hi : P.info? e = some i) (base : Option Addr) (n cap c : Nat) (h : n ≤ cap) :
    (Builtin.append_ #[t, t] ty #[.slice base n cap, .slice none 0 c]).run P w = .ok (.slice base n cap) w := by
  cases base with
  | none => simp [Builtin.append_, run_underlying ht, sizeOf, typeInfo, hi, Builtin.lenOf, Builtin.firstCells, h]
  | some a => simp [Builtin.append_, run_underlying ht, sizeOf, typeInfo, hi, Builtin.lenOf, Builtin.firstCells, h, storeCells_nil]

/-- how many bytes the first m have -/
def totTo (bl : List Blk) (m : Nat) : Nat := (((bl.map Blk.l).take m).flatten).length

theorem totTo_succ {bl : List Blk} {m : Nat} (h : m < bl.length) : totTo bl (m + 1) = totTo bl m + bl[m].l.length := by
  unfold totTo
  rw [List.take_succ_eq_append_getElem (by simpa using h)]
  simp

theorem totTo_le (bl : List Blk) (m : Nat) : totTo bl m ≤ ((bl.map Blk.l).flatten).length := by
  unfold totTo
  have h := congrArg (fun l => l.flatten.length) (List.take_append_drop m (bl.map Blk.l))
  simp only [List.flatten_append, List.length_append] at h
  omega

theorem concat_step {w wr w1 : World} {v v' : Value} {bl : List Blk} {m : Nat} (hlt : m < bl.length) (hb : Below w.heap.size w wr) (ho : wr.ownsRow w.heap.size 5 1 v (totTo bl m) (bs ((bl.map Blk.l).take m).flatten))
    (ho' : w1.ownsRow w.heap.size 5 1 v' (totTo bl m + bl[m].l.length) (bs ((bl.map Blk.l).take m).flatten ++ bs bl[m].l)) (hg : wr.grownBy w1 v.ownBlock) :
    w1.ownsRow w.heap.size 5 1 v' (totTo bl (m + 1)) (bs ((bl.map Blk.l).take (m + 1)).flatten) ∧ Below w.heap.size w w1 := by
  refine ⟨?_, hb.grown hg hb.size fun g hg' => (ho.lt g hg').1⟩
  rw [totTo_succ hlt, List.take_succ_eq_append_getElem (by simpa using hlt)]
  simpa [bs] using ho'

theorem lies_none {w : World} {l : List UInt8} (h : Lies w none (bs l)) : l = [] := by
  cases l with
  | nil => rfl
  | cons x r =>
    obtain ⟨_, _, e, _⟩ := h 0 _ (by simp [bs]; rfl)
    simp at e

theorem lies_add {w : World} {ad : Addr} {l : List UInt8} (h : Lies w (some ad) (bs l)) : ∀ j u, (bs l)[j]? = some u → w.cell? (ad.add j) = some u := by
  intro j u hu
  obtain ⟨b, o, e, hc⟩ := h j u hu
  simp at e
  subst e
  simpa [Addr.add_lit] using hc

theorem own_none {w : World} {B : Nat} {e : TypeId} {n q : Nat} {xs : List Value} (h : w.ownsRow B e 1 (.slice none n q) n xs) : q = 0 := by
  rcases h.2 with ⟨e1, h0⟩ | ⟨g, cap, cur, e1, hb, hg, hnc, hcm, hcs, htake⟩
  · simp at e1
    exact e1.2
  · simp at e1

end Go.Proofs.YtekdigbdfeamkaaDoor

/-
  Chapter 8: slices.Grow of nothing and slices.Concat at records: the contract of each.
-/
namespace Go.Proofs.YtekdigbdfeamkaaDoor
open Go.RowKit
set_option linter.unusedVariables false
set_option linter.unusedSimpArgs false

/-- a list of records in memory -/
structure RBlk where
  a : Option Addr
  cap : Nat
  l : List MRec

def RBlk.val (b : RBlk) : Value := .slice b.a b.l.length b.cap

theorem zeroCells_size13 (c : Array Value) (hc : c.size = 13) (n : Nat) : (Builtin.zeroCells c n).size = n * 13 := by simp [Builtin.zeroCells, hc]

theorem own_slice13 {w : World} {B : Nat} {e : TypeId} {v : Value} {n : Nat} {xs : List Value} (h : w.ownsRow B e 13 v n xs) : ∃ a cap, v = .slice a n cap ∧ n ≤ cap := by
  rcases h.2 with ⟨rfl, h0⟩ | ⟨g, cap, cur, rfl, hb, hg, hnc, hcm, hcs, htake⟩
  · exact ⟨none, 0, by rw [h0], by omega⟩
  · exact ⟨_, _, rfl, hnc⟩

theorem own_none13 {w : World} {B : Nat} {e : TypeId} {n q : Nat} {xs : List Value} (h : w.ownsRow B e 13 (.slice none n q) n xs) : q = 0 := by
  rcases h.2 with ⟨e1, h0⟩ | ⟨g, cap, cur, e1, hb, hg, hnc, hcm, hcs, htake⟩
  · simp at e1
    exact e1.2
  · simp at e1

set_option maxRecDepth 8000 in
set_option maxHeartbeats 1000000 in
theorem growR_nil (s : Nat) (w : World) (hs : s ≤ 65536) :
    Calls Tryd.prog 21 #[.slice none 0 0, .int .i64 s] w fun e w' => ∃ v, e = .returned v ∧ w'.ownsRow w.heap.size 35 13 v 0 [] ∧ Below w.heap.size w w' := by
  obtain ⟨i0, hi, hz0, hz1, hz2⟩ := info_parts infoRec
  by_cases h0 : s = 0
  · subst h0
    go_enter Tryd.func21, Tryd.ntmps21
    go_wp2
    go_ret
    exact ⟨_, rfl, World.ownsRow_nil _ _ _ _, Below.refl _ _⟩
  · have h1 : 0 < s := by omega
    have h2 : (0 : Int) < (s : Int) := by omega
    clear h0
    have hrz : ∀ ty, (Builtin.append_ #[22, 3] ty #[.slice none 0 0, .int .i64 s]).run Tryd.prog w = .ok (.slice (some ⟨w.heap.size, 0, none⟩) s (grownCap w s 0 35)) (w.drew.alloc (.cells (Builtin.zeroCells #[.int .i64 0, .int .i64 0, .int .i64 0, .int .i64 0, .int .i64 0, .int .i64 0, .int .i64 0, .int .i64 0, .int .i64 0, .int .i64 0, .int .i64 0, .slice none 0 0, .slice none 0 0] s ++ Builtin.zeroCells #[.int .i64 0, .int .i64 0, .int .i64 0, .int .i64 0, .int .i64 0, .int .i64 0, .int .i64 0, .int .i64 0, .int .i64 0, .int .i64 0, .int .i64 0, .slice none 0 0, .slice none 0 0] (grownCap w s 0 35 - s)) 35)) := fun ty =>
      Lib.run_append_nil_zeros w 22 3 ty 35 i0 (rcV rc0 none 0 none 0) .i64 .i64 Tryd.underlying22 Tryd.underlying3 hi hz0 s h1 (by omega) (by omega) (by rw [hz2]; omega)
    have hGn : s ≤ grownCap w s 0 35 := grownCap_ge w _ _ _
    have hG63 := grownCap_le_maxLen w s 0 35 (by unfold maxLen; omega)
    have HR : Hid ((w.drew.alloc (.cells (Builtin.zeroCells #[.int .i64 0, .int .i64 0, .int .i64 0, .int .i64 0, .int .i64 0, .int .i64 0, .int .i64 0, .int .i64 0, .int .i64 0, .int .i64 0, .int .i64 0, .slice none 0 0, .slice none 0 0] s ++ Builtin.zeroCells #[.int .i64 0, .int .i64 0, .int .i64 0, .int .i64 0, .int .i64 0, .int .i64 0, .int .i64 0, .int .i64 0, .int .i64 0, .int .i64 0, .int .i64 0, .slice none 0 0, .slice none 0 0] (grownCap w s 0 35 - s)) 35)).ownsRow w.heap.size 35 13 (.slice (some ⟨w.heap.size, 0, none⟩) 0 (grownCap w s 0 35)) 0 []) :=
      ⟨rfl, .inr ⟨w.heap.size, _, _, rfl, Nat.le_refl _, (heap_alloc_eq w.drew _ _).trans (if_pos rfl), Nat.zero_le _, hG63, by rw [Array.size_append, zeroCells_size13 _ rfl, zeroCells_size13 _ rfl]; omega, rfl⟩⟩
    generalize grownCap w s 0 35 = G at *
    unfold maxLen at hG63
    have hG : (G : Int) ≤ 9223372036854775807 := by omega
    clear hG63
    go_enter Tryd.func21, Tryd.ntmps21
    go_wp2_with (at_builtin; refine Lib.wpList_append_run _ rfl _ _ _ _ rfl _ _ rfl rfl _ _ (hrz _) ?_)
    all_goals
      go_ret
      exact ⟨_, rfl, HR.out, (Below.refl _ _).drew.alloc (Nat.le_refl _) _⟩

/-- how many bytes the first m have -/
def totR (bl : List RBlk) (m : Nat) : Nat := (((bl.map RBlk.l).take m).flatten).length

theorem totR_succ {bl : List RBlk} {m : Nat} (h : m < bl.length) : totR bl (m + 1) = totR bl m + bl[m].l.length := by
  unfold totR
  rw [List.take_succ_eq_append_getElem (by simpa using h)]
  simp

theorem totR_le (bl : List RBlk) (m : Nat) : totR bl m ≤ ((bl.map RBlk.l).flatten).length := by
  unfold totR
  have h := congrArg (fun l => l.flatten.length) (List.take_append_drop m (bl.map RBlk.l))
  simp only [List.flatten_append, List.length_append] at h
  omega

theorem concatR_step {w wr w1 : World} {v v' : Value} {bl : List RBlk} {m : Nat} (hlt : m < bl.length) (hb : Below w.heap.size w wr) (ho : wr.ownsRow w.heap.size 35 13 v (totR bl m) (recCells ((bl.map RBlk.l).take m).flatten))
    (ho' : w1.ownsRow w.heap.size 35 13 v' (totR bl m + bl[m].l.length) (recCells ((bl.map RBlk.l).take m).flatten ++ recCells bl[m].l)) (hg : wr.grownBy w1 v.ownBlock) :
    w1.ownsRow w.heap.size 35 13 v' (totR bl (m + 1)) (recCells ((bl.map RBlk.l).take (m + 1)).flatten) ∧ Below w.heap.size w w1 := by
  refine ⟨?_, hb.grown hg hb.size fun g hg' => (ho.lt g hg').1⟩
  rw [totR_succ hlt, List.take_succ_eq_append_getElem (by simpa using hlt)]
  simpa [recCells] using ho'

theorem liesR_none {w : World} {l : List MRec} (h : Lies w none (recCells l)) : l = [] := by
  cases l with
  | nil => rfl
  | cons x r =>
    obtain ⟨_, _, e, _⟩ := h 0 _ (by simp [recCells, MRec.cells]; rfl)
    simp at e

theorem liesR_add {w : World} {ad : Addr} {l : List MRec} (h : Lies w (some ad) (recCells l)) : ∀ j u, (recCells l)[j]? = some u → w.cell? (ad.add j) = some u := by
  intro j u hu
  obtain ⟨b, o, e, hc⟩ := h j u hu
  simp at e
  subst e
  simpa [Addr.add_lit] using hc

set_option maxRecDepth 8000 in
set_option maxHeartbeats 1000000 in
theorem concatR_any (a : Option Addr) (cap : Nat) (bl : List RBlk) (w : World) (hn : bl.length ≤ maxLen) (htot : ((bl.map RBlk.l).flatten).length ≤ 65536) (ha : Lies w a (bl.map RBlk.val)) (hall : ∀ b ∈ bl, Lies w b.a (recCells b.l)) :
    Calls Tryd.prog 12 #[.slice a bl.length cap] w fun e w' => ∃ v, e = .returned v ∧ w'.ownsRow w.heap.size 35 13 v ((bl.map RBlk.l).flatten).length (recCells (bl.map RBlk.l).flatten) ∧ Below w.heap.size w w' := by
  obtain ⟨i0, hi, hz0, hz1, hz2⟩ := info_parts infoRec
  have HT : Hid (((bl.map RBlk.l).flatten).length ≤ 65536) := htot
  unfold maxLen at hn
  clear htot
  go_enter Tryd.func12, Tryd.ntmps12
  go_wp2
  go_loop [3, 11] (fun c i => ∃ m : Nat, m ≤ bl.length ∧ i = .int .i64 m ∧ c = .int .i64 (totR bl m)) (fun _ i => bl.length - (intOf i).toNat)
  case atStart => exact ⟨0, Nat.zero_le _, rfl, rfl⟩
  case round =>
    obtain ⟨m, hm, rfl, rfl⟩ := hrel
    by_cases hlt : m < bl.length
    · obtain ⟨b1, o1, rfl⟩ := ha.some (k := m) (by simpa using hlt)
      have h1 : w.cell? ⟨b1, o1 + m, none⟩ = some (.slice bl[m].a bl[m].l.length bl[m].cap) := ha.at (by simp [hlt, RBlk.val])
      have hs := totR_succ hlt
      have hle := totR_le bl (m + 1)
      have := HT.out
      have hb1 : totR bl m ≤ 65536 := by omega
      have hb2 : bl[m].l.length ≤ 65536 := by omega
      have HS : Hid (totR bl (m + 1) = totR bl m + bl[m].l.length) := hs
      clear hs hle this
      go_wp2
      go_round
      case rel => exact ⟨m + 1, by omega, by go_num, congrArg (Value.int .i64) (by rw [HS.out]; simp)⟩
      case measure => simp [intOf]; omega
    · have HM : Hid (m = bl.length) := by have : m = bl.length := by omega
                                          exact this
      have hle := totR_le bl m
      have := HT.out
      have hb1 : totR bl m ≤ 65536 := by omega
      clear hle this
      go_wp2_with fail
      refine (growR_nil _ _ hb1).mono ?_
      rintro e w1 ⟨v1, rfl, ho1, hb⟩
      clear hb1
      go_wp2
      go_loopw [6, 27] (fun v i wr => ∃ m : Nat, m ≤ bl.length ∧ i = .int .i64 m ∧ wr.ownsRow w.heap.size 35 13 v (totR bl m) (recCells ((bl.map RBlk.l).take m).flatten) ∧ Below w.heap.size w wr) (fun _ i _ => bl.length - (intOf i).toNat)
      case atStart => exact ⟨0, Nat.zero_le _, rfl, ho1, hb⟩
      case round =>
        clear ho1 hb
        obtain ⟨m, hm, rfl, hown, hbw⟩ := hrel
        by_cases hlt : m < bl.length
        · obtain ⟨b1, o1, rfl⟩ := ha.some (k := m) (by simpa using hlt)
          have h1 : wr.cell? ⟨b1, o1 + m, none⟩ = some (.slice bl[m].a bl[m].l.length bl[m].cap) := (ha.below hbw (Nat.le_refl _)).at (by simp [hlt, RBlk.val])
          have hla := (hall bl[m] (by simp)).below hbw (Nat.le_refl _)
          have hsz := hbw.size
          have hs := totR_succ hlt
          have hle := totR_le bl (m + 1)
          have := HT.out
          have hb1 : totR bl m + bl[m].l.length ≤ 65536 := by omega
          have HS : Hid (totR bl (m + 1) = totR bl m + bl[m].l.length) := hs
          clear hs hle this
          cases had : bl[m].a with
          | none =>
            rw [had] at h1 hla
            have HE : Hid (bl[m].l = []) := liesR_none hla
            have h0 : bl[m].l.length = 0 := by rw [HE.out]; rfl
            rw [h0] at h1
            obtain ⟨p6, q6, rfl, hq6⟩ := own_slice13 hown
            have hq : p6 = none → q6 = 0 := fun e => by subst e; exact own_none13 hown
            have R : Hid (wr.ownsRow w.heap.size 35 13 (.slice p6 (totR bl m) q6) (totR bl (m + 1)) (recCells ((bl.map RBlk.l).take (m + 1)).flatten)) := by
              show wr.ownsRow w.heap.size 35 13 (.slice p6 (totR bl m) q6) (totR bl (m + 1)) (recCells ((bl.map RBlk.l).take (m + 1)).flatten)
              rw [HS.out, List.take_succ_eq_append_getElem (by simpa using hlt)]
              simpa [h0, HE.out] using hown
            clear had hla h0 hown hb1
            go_wp2_with (first | (at_builtin; refine Lib.wpList_append_run _ rfl _ _ _ _ rfl _ _ rfl rfl _ _ (run_append_nothing _ _ _ 35 i0 Tryd.underlying22 hi _ _ _ _ hq6) ?_) | go_in)
            go_roundw
            case rel => exact ⟨m + 1, by omega, by go_num, R.out, hbw⟩
            case measure => simp [intOf]; omega
          | some ad =>
            rw [had] at h1 hla
            clear had
            go_wp2_with (first | (at_builtin; refine wpList_append_own _ rfl _ _ 22 rfl w.heap.size 35 i0 (rcV rc0 none 0 none 0) 13 136 Tryd.underlying22 hi hz0 hz1 hz2 rfl (by decide) _ _ _ rfl hown ad bl[m].l.length bl[m].cap (recCells bl[m].l) rfl ?c0 ?c1 ?c2 ?c3 ?c4 ?c5 ?_) | go_in)
            case c0 => rw [recCells_length]; omega
            case c1 => exact liesR_add hla
            case c2 =>
              intro u hu
              obtain ⟨x, _, hx⟩ := List.mem_flatMap.1 hu
              exact List.all_eq_true.1 (show List.all x.cells (fun v => v.oneCell') = true from rfl) u hx
            case c3 => unfold maxLen; omega
            case c4 => omega
            case c5 => omega
            intro v' w1 hown' hgrow _
            have R := concatR_step hlt hbw hown hown' hgrow
            clear hown' hgrow hown hbw h1 hla
            go_wp2
            go_roundw
            case rel => exact ⟨m + 1, by omega, by go_num, R.1, R.2⟩
            case measure => simp [intOf]; omega
        · have HK : Hid (m = bl.length) := by have : m = bl.length := by omega
                                              exact this
          go_wp2
          go_ret
          refine ⟨_, rfl, ?_, hbw⟩
          have hk := HK.out
          subst hk
          unfold totR at hown
          rwa [List.take_of_length_le (by simp)] at hown

end Go.Proofs.YtekdigbdfeamkaaDoor

/-
  'at' of the statements: its contract.
-/
namespace Go.Proofs.YtekdigbdfeamkaaDoor
open Go.RowKit
set_option linter.unusedVariables false
set_option linter.unusedSimpArgs false

/-- a number brought among so many -/
def atN (k n : Int) : Int := if k.tmod n < 0 then k.tmod n + n else k.tmod n

theorem atN_lt (k : Int) {n : Int} (h : 0 < n) : 0 ≤ atN k n ∧ atN k n < n := by
  unfold atN
  have h1 := Int.tmod_lt_of_pos k h
  have h2 := Int.lt_tmod_of_pos k h
  split <;> omega

theorem at_any (k n : Int) (w : World) (hk : -9223372036854775808 ≤ k ∧ k ≤ 9223372036854775807) (hn : 0 < n) (hn2 : n ≤ 9223372036854775807) :
    Calls Tryd.prog 9 #[.int .i64 k, .int .i64 n] w fun e w' => e = .returned (.int .i64 (atN k n)) ∧ w = w' := by
  obtain ⟨hk1, hk2⟩ := hk
  have h1 := Int.tmod_lt_of_pos k hn
  have h2 := Int.lt_tmod_of_pos k hn
  have hn0 : (n == 0) = false := by rw [beq_eq_false_iff_ne]; omega
  have HA : Hid (atN k n = if k.tmod n < 0 then k.tmod n + n else k.tmod n) := rfl
  go_enter Tryd.func9, Tryd.ntmps9
  go_wp2
  · go_ret
    exact ⟨ret_int (by rw [HA.out, if_pos (by assumption)]), rfl⟩
  · go_ret
    exact ⟨ret_int (by rw [HA.out, if_neg (by omega)]), rfl⟩

end Go.Proofs.YtekdigbdfeamkaaDoor
