import Derived.Test.YtekdigbdfeamkaaDoorPart16
import Derived.Test.YtekdigbdfeamkaaDoorPart7
import Derived.Test.YtekdigbdfeamkaaDoorPart1
import Derived.ProofKit
import Derived.OpenShut
import Derived.ShutString
import Derived.ChangeOld
import Derived.Below
import Derived.Carry
import Derived.SizedLaws
import Derived.Deep.Slices
import Derived.Test.YtekdigbdfeamkaaDoorPart2
import Derived.Lib.SmallJoins
import Derived.Test.YtekdigbdfeamkaaDoorPart6
/-
  DiskKeeps' walk.
-/
namespace Go.Proofs.YtekdigbdfeamkaaDoor
open Go.RowKit
set_option linter.unusedVariables false
set_option linter.unusedSimpArgs false

theorem entersPutC : ∀ args w, (callFunc 5 args).run Tryd.prog w = .ok (.enter 5 args) w := enters_of Tryd.func5 (by kernel_rfl) rfl

theorem liesKeep' {w w' : World} {a : Option Addr} {xs : List Value} {g : Nat} (h : Lies w a xs) (hk : ∀ k, k < w.heap.size → k ≠ g → w'.heap[k]? = w.heap[k]?) (hne : ∀ b o, a = some ⟨b, o, none⟩ → b ≠ g) : Lies w' a xs := by
  intro k u hu
  obtain ⟨b, off, e, hc⟩ := h k u hu
  refine ⟨b, off, e, ?_⟩
  have := World.block_lt_of_cell? w _ hc
  rw [← hc]
  simp only [World.cell?, hk b this (hne b off e)]

theorem entersAt : ∀ args w, (callFunc 9 args).run Tryd.prog w = .ok (.enter 9 args) w := enters_of Tryd.func9 (by kernel_rfl) rfl
theorem entersCrash : ∀ args w, (callFunc 8 args).run Tryd.prog w = .ok (.enter 8 args) w := enters_of Tryd.func8 (by kernel_rfl) rfl

/-- a disk that a call answers without an error, as one value -/
def CrOut (B : Nat) (s v : List UInt8) (x : Value) (w' : World) : Prop :=
  ∃ (sa : Option Addr) (n sc : Nat) (wa : Option Addr) (m wc : Nat), x = .tuple #[.agg #[.slice sa n sc, .slice wa m wc], .int .i64 0] ∧ DkIn w' s v sa n sc wa m wc ∧ (∀ b o, sa = some ⟨b, o, none⟩ → B ≤ b) ∧ ∀ b o, wa = some ⟨b, o, none⟩ → B ≤ b

theorem entersNSame : ∀ args w, (callFunc 13 args).run Tryd.prog w = .ok (.enter 13 args) w := enters_of Tryd.func13 (by kernel_rfl) rfl

/-- lists of records that say the same -/
theorem equalN (a b : Option Addr) (ca cb q : Nat) (xl yl : List MRec) (w : World) (h1 : xl.length = q) (h2 : yl.length = q) (hq : q ≤ 65536) (hx : Lies w a (recCells xl)) (hy : Lies w b (recCells yl)) (hxa : ∀ y ∈ xl, RecIn w y ∧ RecShort y) (hya : ∀ y ∈ yl, RecIn w y ∧ RecShort y) (he : xl.map MRec.r = yl.map MRec.r) :
    Calls Tryd.prog 11 #[.slice a q ca, .slice b q cb, .func (.func 13) #[] #[]] w fun e w' => e = .returned (.bool true) ∧ Below w.heap.size w w' := by
  have h := equalRec_any 13 entersNSame (fun x y w hx hy sx sy => noteSame_any x.r y.r x.da x.dc x.ca x.cc y.da y.dc y.ca y.cc w hx.1 hx.2 hy.1 hy.2 sx.1 sx.2 sy.1 sy.2) a b ca cb xl yl w (by omega) (by omega) hx hy hxa hya
  rw [h1, h2, decide_eq_true he] at h
  exact h

theorem short_of {y : MRec} {C : List Rc} (h : y.r ∈ C) (hg : Goods C) : RecShort y := by
  obtain ⟨a, b⟩ := code_short (hg y.r h).2
  exact ⟨by unfold maxLen; omega, by unfold maxLen; omega⟩

theorem recCells_take {w : World} {a : Option Addr} {l : List MRec} (h : Lies w a (recCells l)) (q : Nat) : Lies w a (recCells (l.take q)) := by
  intro k u hu
  refine h k u ?_
  have e : recCells l = recCells (l.take q) ++ recCells (l.drop q) := by rw [← recCells_append, List.take_append_drop]
  rw [e, List.getElem?_append_left (List.getElem?_eq_some_iff.1 hu).1]
  exact hu

theorem linesT_takeL (l : List Rc) (j : Nat) : (linesT (l.take j)).length ≤ (linesT l).length := by
  have h : linesT l = linesT (l.take j) ++ linesT (l.drop j) := by rw [← linesT_append, List.take_append_drop]
  rw [h, List.length_append]
  omega

set_option maxHeartbeats 4000000 in
set_option maxRecDepth 8000 in
theorem W_diskKeeps (p1 : Option Addr) (c1 : Nat) (L1 : List MRec) (p2 : Option Addr) (c2 : Nat) (L2 : List MRec) (k : Int) (w : World) (hk : I64 k) (hc1 : L1.length ≤ c1) (hc2 : L2.length ≤ c2) (hm1 : L1.length ≤ maxLen) (hm2 : L2.length ≤ maxLen) (hl1 : Lies w p1 (recCells L1)) (hl2 : Lies w p2 (recCells L2)) (ha1 : ∀ y ∈ L1, RecIn w y ∧ RecShort y ∧ y.r.ints) (ha2 : ∀ y ∈ L2, RecIn w y ∧ RecShort y ∧ y.r.ints) (hL : LaidN w) :
    Calls Tryd.prog 3 #[.slice p1 L1.length c1, .slice p2 L2.length c2, .int .i64 k] w fun e w' => e = .returned (.bool true) ∧ Below w.heap.size w w' := by
  have hF := filed_any w hL
  have eg := entersPutC
  go_enter Tryd.func3, Tryd.ntmps3
  go_wp2_with fail
  refine hF.mono ?_
  rintro e W1 ⟨rfl, hb1⟩
  clear hF
  go_upto_region 4 with fail
  generalize hW2 : W1.alloc (.cells #[.slice none 0 0, .slice none 0 0] 26) = W2
  have hb2 : Below W1.heap.size W1 W2 := by rw [← hW2]; exact (Below.refl _ _).alloc (Nat.le_refl _) _
  have hq2 : W2.heap[W1.heap.size]? = some (.cells #[.slice none 0 0, .slice none 0 0] 26 (0, 0)) := by rw [← hW2, heap_alloc_eq, if_pos rfl]
  have hB2 := hb1.trans (hb2.mono hb1.size)
  have hC1 := putC_any p1 c1 L1 W1.heap.size [] [] none 0 0 none 0 0 w W2 hL hc1 hm1 hl1 ha1 hb1.size hB2 hq2 ⟨rfl, rfl, Nat.le_refl _, Nat.le_refl _, Lies.nil _ _, Lies.nil _ _⟩ (fun b o e => by cases e) (fun b o e => by cases e) (fun r hr => absurd hr (by simp)) (by simp) (by simp [linesT])
  clear hW2 hb2
  go_wp2_with fail
  refine hC1.mono ?_
  rintro e W3 ⟨v1, rfl, OL, sa, n, sc, wa, m, wc, k1, k2, k3, k4, k5, k6, k7, k8, k9, k10, k11, k12, k13, k14⟩
  clear hC1
  obtain ⟨po, co, rfl, hlo, hco⟩ := own_recs k1
  rw [List.nil_append] at k6 k10 k11
  have hgs : W1.heap.size < W2.heap.size := (Array.getElem?_eq_some_iff.1 hq2).1
  have hfo : ∀ b o, po = some ⟨b, o, none⟩ → W1.heap.size < b := fun b o e => by have := (k1.lt b (by rw [e]; rfl)).1; omega
  have hS := sync_ok k6 ⟨k11, by rw [show linesT [] = [] from rfl, linesL_nil]⟩ (by rw [show linesT [] = [] from rfl, List.nil_append]; exact DkOk.log k4 (by rw [List.length_map]; omega) (by simpa [linesT] using k11)) (hL.below k12)
  rw [show linesT [] = [] from rfl, List.nil_append] at hS
  obtain ⟨c0', c1', f0, f1⟩ := cellsD k5
  go_wp2_with fail
  refine hS.mono ?_
  rintro e W4 ⟨⟨sa4, n4, sc4, wa4, m4, wc4, rfl, hd4, hs4, hv4⟩, hb4⟩
  have hq4 := blkB k5 hb4
  clear c0' c1' f0 f1 hS
  obtain ⟨c0', c1', f0, f1⟩ := cellsD hq4
  go_upto_region 7 with fail
  obtain ⟨W5, hW5, hq5, hk5, hB5⟩ := box2 W4 W1.heap.size 26 _ _ (.slice sa4 n4 sc4) (.slice wa4 m4 wc4) hq4
  rw [hW5]
  have hsz13 : W1.heap.size < W3.heap.size := Nat.lt_of_lt_of_le hgs k13
  have hF5 : Below w.heap.size w W5 := hB5 _ _ hb1.size (k12.trans (hb4.mono k12.size))
  have hd5 := hd4.far hk5 (fun b o e => by have := hs4 b o e; omega) (fun b o e => by have := hv4 b o e; omega)
  have hlo5 := liesFar (hlo.below hb4 (Nat.le_refl _)) hk5 (fun b o e => Nat.ne_of_gt (hfo b o e))
  have hA20 : (OL.map MRec.r).length ≤ 20 := by rw [List.length_map]; exact k3
  have hT : (linesT (OL.map MRec.r)).length ≤ 60000 := by simpa [linesT] using k11
  have hC2 := putC_any p2 c2 L2 W1.heap.size (OL.map MRec.r) [] sa4 n4 sc4 wa4 m4 wc4 w W5 hL hc2 hm2 hl2 ha2 hb1.size hF5 hq5 hd5 (fun b o e => by have := hs4 b o e; omega) (fun b o e => by have := hv4 b o e; omega) k4 (by omega) (by simpa [linesT] using hT)
  have HOL : Shut ((∀ y ∈ OL, y ∈ L1) ∧ Goods (OL.map MRec.r)) := ⟨k2, k4⟩
  clear hW5 hB5 hk5 hq4 hd4 hd5 hs4 hv4 c0' c1' f0 f1 hb4 k1 k2 k4 k5 k6 k7 k8 k9 k10 k12 k14 hlo
  go_wp2_with fail
  refine hC2.mono ?_
  rintro e W6 ⟨v2, rfl, OM, sa, n, sc, wa, m, wc, j1, j2, j3, j4, j5, j6, j7, j8, j9, j10, j11, j12, j13, j14⟩
  clear hC2
  obtain ⟨pm, cm, rfl, hlm, hcm⟩ := own_recs j1
  have hlo6 := liesKeep' hlo5 j14 (fun b o e => Nat.ne_of_gt (hfo b o e))
  rw [List.nil_append] at j6 j10 j11
  have hgs6 : W1.heap.size < W6.heap.size := (Array.getElem?_eq_some_iff.1 j5).1
  have hm6 : m ≤ 60000 := by have := j6.hm; omega
  have okc : DkOk (linesT (OL.map MRec.r)) (linesT (OM.map MRec.r)) := DkOk.log HOL.out.2 (by omega) j11
  obtain ⟨n0, hn0⟩ : ∃ x, atN k ((m : Int) + 1) = x := ⟨_, rfl⟩
  have hnb := atN_lt k (n := (m : Int) + 1) (by omega)
  have hat : ∀ W : World, Calls Tryd.prog 9 #[.int .i64 k, .int .i64 ((m : Int) + 1)] W fun e w' => ∃ x, e = .returned x ∧ (x = .int .i64 n0 ∧ w' = W) := fun W => (at_any k ((m : Int) + 1) W hk (by omega) (by omega)).mono fun e w' h => ⟨_, h.1, by rw [hn0], h.2.symm⟩
  rw [hn0] at hnb
  have hCr : ∀ W : World, Below W6.heap.size W6 W → Calls Tryd.prog 8 #[.agg #[.slice sa n sc, .slice wa m wc], .int .i64 n0] W fun e w' => ∃ x, e = .returned x ∧ CrOut W6.heap.size (linesT (OL.map MRec.r)) ((linesT (OM.map MRec.r)).take n0.toNat) x w' ∧ Below W6.heap.size W6 w' := fun W hb =>
    (crash_ok (j6.below hb) okc n0 hnb.1 (by omega) (hL.below (j12.trans (hb.mono j12.size)))).mono fun e w' h => by
      obtain ⟨⟨sa', n', sc', wa', m', wc', h1, h2, h3, h4⟩, h5⟩ := h
      exact ⟨_, h1, ⟨sa', n', sc', wa', m', wc', rfl, h2, fun b o e => Nat.le_trans hb.size (h3 b o e), fun b o e => Nat.le_trans hb.size (h4 b o e)⟩, hb.trans (h5.mono hb.size)⟩
  have HR6 : ∀ W : World, Below W6.heap.size W6 W → W.cell? ⟨W1.heap.size, 0, none⟩ = some (.slice sa n sc) ∧ W.cell? ⟨W1.heap.size, 1, none⟩ = some (.slice wa m wc) ∧ W.frozen? ⟨W1.heap.size, 0, none⟩ = false ∧ W.frozen? ⟨W1.heap.size, 1, none⟩ = false := fun W hb => cellsD (blkB j5 hb)
  have hw1 : IntKind.i64.wrap ((m : Int) + 1) = (m : Int) + 1 := by rw [IntKind.wrap_i64]; omega
  have hmo : ∀ b o, pm = some ⟨b, o, none⟩ → W1.heap.size < b := fun b o e => by have := (j1.lt b (by rw [e]; rfl)).1; have := (Array.getElem?_eq_some_iff.1 hq5).1; omega
  have HO : Shut (OM.length ≤ 20 ∧ (∀ y ∈ OM, y ∈ L2) ∧ Goods (OM.map MRec.r)) := ⟨j3, j2, j4⟩
  have B0 : Below W6.heap.size W6 W6.drew := (Below.refl _ _).drew
  have egA := entersAt
  have egC := entersCrash
  clear hn0 hlo5 hq5 hF5 j1 j2 j3 j4 j7 j8 j9 j10 j13 j14 hm6
  go_upto_region 10 with fail
  obtain ⟨a0, a1, a2, a3⟩ := HR6 _ (Below.refl _ _)
  obtain ⟨c0, c1, c2, c3⟩ := HR6 _ B0
  go_region_law (first
    | (refine step_call2 entersAt rfl (.tmp 34) (.tmp 38) 3 3 rfl (.int .i64 k) (.int .i64 ((m : Int) + 1)) (by simp [Act.eval, Act.put]) (by simp [Act.eval, Act.put, hw1]) (hat _) ?_; rintro _ wk ⟨rfl, rfl⟩)
    | (refine step_call2 entersCrash rfl (.tmp 33) (.tmp 39) 26 3 rfl (.agg #[.slice sa n sc, .slice wa m wc]) (.int .i64 n0) (by simp [Act.eval, Act.put]) (by simp [Act.eval, Act.put]) (hCr _ (by with_reducible assumption)) ?_; rintro _ wk ⟨⟨sa7, n7, sc7, wa7, m7, wc7, rfl, hd7, hs7, hv7⟩, hb7⟩; obtain ⟨x0, x1, x2, x3⟩ := HR6 _ hb7))
  all_goals
    have hq7 := blkB j5 hb7
    have hlo7 := hlo6.below hb7 (Nat.le_refl _)
    have hlm7 := hlm.below hb7 (Nat.le_refl _)
    have hF7 := j12.trans (hb7.mono j12.size)
    clear a0 a1 a2 a3 c0 c1 c2 c3 x0 x1 x2 x3 hlo6 hlm j5 j6 hCr HR6 hat B0 egA egC hw1 hb7 j12
    obtain ⟨W9, hW9, hq9, hk9, hB9⟩ := box2 wk W1.heap.size 26 _ _ (.slice sa7 n7 sc7) (.slice wa7 m7 wc7) hq7
    rw [hW9]
    have hF9 := hB9 _ _ hb1.size hF7
    have hd9 := hd7.far hk9 (fun b o e => by have := hs7 b o e; omega) (fun b o e => by have := hv7 b o e; omega)
    have hlo9 := liesFar hlo7 hk9 (fun b o e => Nat.ne_of_gt (hfo b o e))
    have hlm9 := liesFar hlm7 hk9 (fun b o e => Nat.ne_of_gt (hmo b o e))
    clear hW9 hB9 hk9 hq7 hF7 hd7 hs7 hv7 hlo7 hlm7
    obtain ⟨j, ze, hj, hpart⟩ := linesL_part (m := 200) (OL.map MRec.r) (OM.map MRec.r) n0.toNat HOL.out.2 HO.out.2.2 (by rw [List.length_map, List.length_map]; have := HO.out.1; omega)
    have okc9 : DkOk (linesT (OL.map MRec.r)) ((linesT (OM.map MRec.r)).take n0.toNat) := DkOk.log HOL.out.2 (by omega) (by rw [List.length_take]; omega)
    have hR := recov_ok hd9 okc9 (hL.below hF9)
    have htk := linesL_take 200 (linesT (OL.map MRec.r) ++ (linesT (OM.map MRec.r)).take n0.toNat)
    rw [htk, hpart] at hR
    simp only at hR
    obtain ⟨C, hC⟩ : ∃ C, OL.map MRec.r ++ (OM.map MRec.r).take j = C := ⟨_, rfl⟩
    rw [hC] at hR
    have HT : Shut ((linesT C).length ≤ 60000) := ⟨by rw [← hC, linesT_append, List.length_append]; have := linesT_takeL (OM.map MRec.r) j; omega⟩
    have HC : Shut (C = OL.map MRec.r ++ (OM.map MRec.r).take j ∧ Goods C ∧ OL.length ≤ C.length ∧ C.length ≤ OL.length + OM.length) := ⟨hC.symm, by rw [← hC]; exact goods_append HOL.out.2 (fun r hr => HO.out.2.2 r (List.mem_of_mem_take hr)), by rw [← hC]; simp, by rw [← hC]; simp; omega⟩
    clear hpart htk hC hd9 okc okc9 hnb
    obtain ⟨c0, c1, c2, c3⟩ := cellsD hq9
    go_wp2_with fail
    refine hR.mono ?_
    rintro e W10 ⟨⟨LC, q, p, cp, sa10, n10, sc10, rfl, hLq, hd10, hmap, hqc, hlp, hall, hs10, hp10⟩, hb10⟩
    have hlo10 := hlo9.below hb10 (Nat.le_refl _)
    have hlm10 := hlm9.below hb10 (Nat.le_refl _)
    have hF10 := hF9.trans (hb10.mono hF9.size)
    clear hR c0 c1 c2 c3 hlo9 hlm9 hq9 hb10
    go_upto_region 14 with fail
    generalize hW11 : W10.alloc (.cells #[.slice sa10 n10 sc10, .slice none 0 0] 26) = W11
    have hb11 : Below W10.heap.size W10 W11 := by rw [← hW11]; exact (Below.refl _ _).alloc (Nat.le_refl _) _
    have hq11 : W11.heap[W10.heap.size]? = some (.cells #[.slice sa10 n10 sc10, .slice none 0 0] 26 (0, 0)) := by rw [← hW11, heap_alloc_eq, if_pos rfl]
    have hF11 := hF10.trans (hb11.mono hF10.size)
    have hlo11 := hlo10.below hb11 (Nat.le_refl _)
    have hlm11 := hlm10.below hb11 (Nat.le_refl _)
    have hlp11 := hlp.below hb11 (Nat.le_refl _)
    have hd11 := hd10.below hb11
    have HALL : Shut (∀ y ∈ LC, RecIn W11 y) := ⟨fun y hy => (hall y hy).1.below hb11⟩
    have hqC : q = C.length := by rw [← hLq, ← hmap, List.length_map]
    have hql : OL.length ≤ q ∧ q ≤ OL.length + OM.length := by rw [hqC]; exact ⟨HC.out.2.2.1, HC.out.2.2.2⟩
    have hOM := HO.out.1
    have n1 : ¬ q < OL.length := by omega
    have n2 : ¬ (OL.length : Int) + (OM.length : Int) < (q : Int) := by omega
    have n3 : ¬ OL.length + OM.length < q := by omega
    have n4 : IntKind.i64.wrap ((OL.length : Int) + (OM.length : Int)) = (OL.length : Int) + (OM.length : Int) := by rw [IntKind.wrap_i64]; omega
    clear hW11 hb11 hlo10 hlm10 hlp hd10 hall hs10 hp10
    have hCc : Calls Tryd.prog 12 #[.slice (some ⟨W11.heap.size, 0, none⟩) 2 2] (W11.alloc (.cells #[.slice po OL.length co, .slice pm OM.length cm] 22)) fun e w' => ∃ v, e = .returned v ∧ w'.ownsRow (W11.heap.size + 1) 35 13 v (OL ++ OM).length (recCells (OL ++ OM)) ∧ Below W11.heap.size W11 w' := by
      have hbA : Below W11.heap.size W11 (W11.alloc (.cells #[.slice po OL.length co, .slice pm OM.length cm] 22)) := (Below.refl _ _).alloc (Nat.le_refl _) _
      refine (concatR_any (some ⟨W11.heap.size, 0, none⟩) 2 [⟨po, co, OL⟩, ⟨pm, cm, OM⟩] (W11.alloc (.cells #[.slice po OL.length co, .slice pm OM.length cm] 22)) (by unfold maxLen; simp) (by simp; omega) (Lies.alloc_new _ _ _) ?_).mono ?_
      · intro b hb
        rcases List.mem_cons.1 hb with rfl | hb
        · exact hlo11.below hbA (Nat.le_refl _)
        · obtain rfl : b = ⟨pm, cm, OM⟩ := by simpa using hb
          exact hlm11.below hbA (Nat.le_refl _)
      · rintro e w' ⟨v, rfl, h1, h2⟩
        refine ⟨v, rfl, ?_, hbA.trans (h2.mono hbA.size)⟩
        simpa using h1
    have hEq : ∀ (W : World) (b : Option Addr) (cb : Nat), Below W11.heap.size W11 W → Lies W b (recCells ((OL ++ OM).take q)) → Calls Tryd.prog 11 #[.slice p q cp, .slice b q cb, .func (.func 13) #[] #[]] W fun e w' => e = .returned (.bool true) ∧ Below W.heap.size W w' := fun W b cb hb hl =>
      equalN p b cp cb q LC ((OL ++ OM).take q) W hLq (by rw [List.length_take, List.length_append]; omega) (by omega) (hlp11.below hb (Nat.le_refl _)) hl
        (fun y hy => ⟨(HALL.out y hy).below hb, short_of (C := C) (by rw [← hmap]; exact List.mem_map_of_mem hy) HC.out.2.1⟩)
        (fun y hy => by
          have hW := hF11.trans (hb.mono hF11.size)
          rcases List.mem_append.1 (List.mem_of_mem_take hy) with h | h
          · have := ha1 y (HOL.out.1 y h); exact ⟨this.1.below hW, this.2.1⟩
          · have := ha2 y (HO.out.2.1 y h); exact ⟨this.1.below hW, this.2.1⟩)
        (by
          rw [hmap, List.map_take, List.map_append, hqC]
          have h := HC.out.1
          have hp : C <+: OL.map MRec.r ++ OM.map MRec.r := by rw [h]; exact List.prefix_append_right_inj _ |>.2 (List.take_prefix _ _)
          exact List.prefix_iff_eq_take.1 hp)
    have hOS : ((OL ++ OM).length : Nat) = OL.length + OM.length := List.length_append
    have HQC := Shut.mk hqC
    clear hqC
    go_wp2_with fail
    refine hCc.mono ?_
    rintro e W13 ⟨v3, rfl, hvo, hb13⟩
    obtain ⟨pv, cv, rfl, hlv, hcv⟩ := own_recs hvo
    have hE13 := hEq W13 pv
    have hlt13 := recCells_take hlv q
    have hqv : q ≤ cv := by omega
    clear hCc hEq hvo hlv
    rw [hOS]
    have hqo : q ≤ OL.length + OM.length := hql.2
    have hB13 := hb13
    clear hOS
    rcases pv with _ | ⟨vb, vo, vp⟩
    · go_wp2_with fail
      refine (hE13 cv hb13 hlt13).mono ?_
      rintro e W14 ⟨rfl, hb14⟩
      have hB14 := hb13.trans (hb14.mono hb13.size)
      clear hE13 hlt13 hb13 hb14
      have hq14 := blkB hq11 hB14
      have hd14 := hd11.below hB14
      have hF14 := hF11.trans (hB14.mono hF11.size)
      have okC : DkOk (linesT C) [] := DkOk.log HC.out.2.1 (by have := HC.out.2.2.2; omega) (by have := HT.out; simpa using this)
      have hR2 := recov_ok hd14 okC (hL.below hF14)
      rw [List.append_nil, linesL_log C HC.out.2.1 (by have := HC.out.2.2.2; omega)] at hR2
      simp only [List.take_length] at hR2
      obtain ⟨c0, c1, c2, c3⟩ := cellsD hq14
      clear okC
      go_wp2_with fail
      refine hR2.mono ?_
      rintro e W15 ⟨⟨LD, q2, pD, cD, sa15, n15, sc15, rfl, hLq2, hd15, hmap2, hqc2, hlp2, hall2, -, -⟩, hb15⟩
      have hB15 := hB14.trans (hb15.mono hB14.size)
      have hq15 := blkB hq14 hb15
      have hd10' := hd14.below hb15
      have hqq : q2 = q := by rw [← hLq2, HQC.out, ← hmap2, List.length_map]
      subst hqq
      clear hR2 c0 c1 c2 c3 hb15 hB14 hq14 hd14 hF14
      go_upto_region 17 with fail
      generalize hW16 : W15.alloc (.cells #[.slice sa15 n15 sc15, .slice none 0 0] 26) = W16
      have hb16 : Below W15.heap.size W15 W16 := by rw [← hW16]; exact (Below.refl _ _).alloc (Nat.le_refl _) _
      have hq16 : W16.heap[W15.heap.size]? = some (.cells #[.slice sa15 n15 sc15, .slice none 0 0] 26 (0, 0)) := by rw [← hW16, heap_alloc_eq, if_pos rfl]
      have hr16 := blkB hq15 hb16
      have hB16 := hB15.trans (hb16.mono hB15.size)
      have hd16 := hd15.below hb16
      have he16 := hd10'.below hb16
      have hF16 := hF11.trans (hB16.mono hF11.size)
      have hSm : Calls Tryd.prog 14 #[.agg #[.slice sa15 n15 sc15, .slice none 0 0], .agg #[.slice sa10 n10 sc10, .slice none 0 0]] W16 fun e w' => e = .returned (.bool true) ∧ Below W16.heap.size W16 w' := by
        have h := sameD_any sa15 sc15 none 0 (linesT C) [] sa10 sc10 none 0 (linesT C) [] W16 hd16.ls hd16.lv he16.ls he16.lv
        rw [decide_eq_true ⟨rfl, rfl⟩] at h
        have e1 := hd16.hn
        have e2 := he16.hn
        unfold dkV at h
        rw [show (linesT C).length = n15 from e1] at h
        have e3 : n15 = n10 := by rw [← e1, e2]
        rw [e3] at h ⊢
        exact h
      have hE16 : ∀ W : World, Below W16.heap.size W16 W → Calls Tryd.prog 11 #[.slice pD q2 cD, .slice p q2 cp, .func (.func 13) #[] #[]] W fun e w' => e = .returned (.bool true) ∧ Below W.heap.size W w' := fun W hb =>
        equalN pD p cD cp q2 LD LC W hLq2 hLq (by omega) ((hlp2.below hb16 (Nat.le_refl _)).below hb (Nat.le_refl _)) ((hlp11.below hB16 (Nat.le_refl _)).below hb (Nat.le_refl _))
          (fun y hy => ⟨((hall2 y hy).1.below hb16).below hb, short_of (C := C) (by rw [← hmap2]; exact List.mem_map_of_mem hy) HC.out.2.1⟩)
          (fun y hy => ⟨((HALL.out y hy).below hB16).below hb, short_of (C := C) (by rw [← hmap]; exact List.mem_map_of_mem hy) HC.out.2.1⟩)
          (by rw [hmap, hmap2])
      obtain ⟨c0, c1, c2, c3⟩ := cellsD hq16
      obtain ⟨d0, d1, d2, d3⟩ := cellsD hr16
      clear hW16 hb16 hlp2 hd15 hd10' hB15
      go_wp2_with fail
      refine hSm.mono ?_
      rintro e W17 ⟨rfl, hb17⟩
      have hE17 := hE16 W17 hb17
      have hr17 := blkB hr16 hb17
      have hF17 := hF16.trans (hb17.mono hF16.size)
      clear hSm hE16 c0 c1 c2 c3 d0 d1 d2 d3 hq16 hr16 hb17 hd16 he16
      obtain ⟨d0, d1, d2, d3⟩ := cellsD hr17
      go_wp2_with fail
      refine hE17.mono ?_
      rintro e W18 ⟨rfl, hb18⟩
      have hr18 := blkB hr17 hb18
      have hF18 := hF17.trans (hb18.mono hF17.size)
      clear hE17 d0 d1 d2 d3 hr17 hb18
      obtain ⟨d0, d1, d2, d3⟩ := cellsD hr18
      go_wp2
      go_ret
      exact ⟨rfl, hF18⟩
    · go_wp2_with fail
      refine (hE13 cv hb13 hlt13).mono ?_
      rintro e W14 ⟨rfl, hb14⟩
      have hB14 := hb13.trans (hb14.mono hb13.size)
      clear hE13 hlt13 hb13 hb14
      have hq14 := blkB hq11 hB14
      have hd14 := hd11.below hB14
      have hF14 := hF11.trans (hB14.mono hF11.size)
      have okC : DkOk (linesT C) [] := DkOk.log HC.out.2.1 (by have := HC.out.2.2.2; omega) (by have := HT.out; simpa using this)
      have hR2 := recov_ok hd14 okC (hL.below hF14)
      rw [List.append_nil, linesL_log C HC.out.2.1 (by have := HC.out.2.2.2; omega)] at hR2
      simp only [List.take_length] at hR2
      obtain ⟨c0, c1, c2, c3⟩ := cellsD hq14
      clear okC
      go_wp2_with fail
      refine hR2.mono ?_
      rintro e W15 ⟨⟨LD, q2, pD, cD, sa15, n15, sc15, rfl, hLq2, hd15, hmap2, hqc2, hlp2, hall2, -, -⟩, hb15⟩
      have hB15 := hB14.trans (hb15.mono hB14.size)
      have hq15 := blkB hq14 hb15
      have hd10' := hd14.below hb15
      have hqq : q2 = q := by rw [← hLq2, HQC.out, ← hmap2, List.length_map]
      subst hqq
      clear hR2 c0 c1 c2 c3 hb15 hB14 hq14 hd14 hF14
      go_upto_region 17 with fail
      generalize hW16 : W15.alloc (.cells #[.slice sa15 n15 sc15, .slice none 0 0] 26) = W16
      have hb16 : Below W15.heap.size W15 W16 := by rw [← hW16]; exact (Below.refl _ _).alloc (Nat.le_refl _) _
      have hq16 : W16.heap[W15.heap.size]? = some (.cells #[.slice sa15 n15 sc15, .slice none 0 0] 26 (0, 0)) := by rw [← hW16, heap_alloc_eq, if_pos rfl]
      have hr16 := blkB hq15 hb16
      have hB16 := hB15.trans (hb16.mono hB15.size)
      have hd16 := hd15.below hb16
      have he16 := hd10'.below hb16
      have hF16 := hF11.trans (hB16.mono hF11.size)
      have hSm : Calls Tryd.prog 14 #[.agg #[.slice sa15 n15 sc15, .slice none 0 0], .agg #[.slice sa10 n10 sc10, .slice none 0 0]] W16 fun e w' => e = .returned (.bool true) ∧ Below W16.heap.size W16 w' := by
        have h := sameD_any sa15 sc15 none 0 (linesT C) [] sa10 sc10 none 0 (linesT C) [] W16 hd16.ls hd16.lv he16.ls he16.lv
        rw [decide_eq_true ⟨rfl, rfl⟩] at h
        have e1 := hd16.hn
        have e2 := he16.hn
        unfold dkV at h
        rw [show (linesT C).length = n15 from e1] at h
        have e3 : n15 = n10 := by rw [← e1, e2]
        rw [e3] at h ⊢
        exact h
      have hE16 : ∀ W : World, Below W16.heap.size W16 W → Calls Tryd.prog 11 #[.slice pD q2 cD, .slice p q2 cp, .func (.func 13) #[] #[]] W fun e w' => e = .returned (.bool true) ∧ Below W.heap.size W w' := fun W hb =>
        equalN pD p cD cp q2 LD LC W hLq2 hLq (by omega) ((hlp2.below hb16 (Nat.le_refl _)).below hb (Nat.le_refl _)) ((hlp11.below hB16 (Nat.le_refl _)).below hb (Nat.le_refl _))
          (fun y hy => ⟨((hall2 y hy).1.below hb16).below hb, short_of (C := C) (by rw [← hmap2]; exact List.mem_map_of_mem hy) HC.out.2.1⟩)
          (fun y hy => ⟨((HALL.out y hy).below hB16).below hb, short_of (C := C) (by rw [← hmap]; exact List.mem_map_of_mem hy) HC.out.2.1⟩)
          (by rw [hmap, hmap2])
      obtain ⟨c0, c1, c2, c3⟩ := cellsD hq16
      obtain ⟨d0, d1, d2, d3⟩ := cellsD hr16
      clear hW16 hb16 hlp2 hd15 hd10' hB15
      go_wp2_with fail
      refine hSm.mono ?_
      rintro e W17 ⟨rfl, hb17⟩
      have hE17 := hE16 W17 hb17
      have hr17 := blkB hr16 hb17
      have hF17 := hF16.trans (hb17.mono hF16.size)
      clear hSm hE16 c0 c1 c2 c3 d0 d1 d2 d3 hq16 hr16 hb17 hd16 he16
      obtain ⟨d0, d1, d2, d3⟩ := cellsD hr17
      go_wp2_with fail
      refine hE17.mono ?_
      rintro e W18 ⟨rfl, hb18⟩
      have hr18 := blkB hr17 hb18
      have hF18 := hF17.trans (hb18.mono hF17.size)
      clear hE17 d0 d1 d2 d3 hr17 hb18
      obtain ⟨d0, d1, d2, d3⟩ := cellsD hr18
      go_wp2
      go_ret
      exact ⟨rfl, hF18⟩

end Go.Proofs.YtekdigbdfeamkaaDoor

/-
  What came in, opened: byte slices and slices of byte slices, whatever their readings are. Nothing of any program.
-/
namespace Go.Proofs.YtekdigbdfeamkaaDoor
open Go.ChangeShapes Go.WideShapes Go.ChangeAt Go.RowKit
set_option linter.unusedVariables false
set_option linter.unusedSimpArgs false

section
variable {H : Type} {enc : TypeId × Value → H} {P : Program} {w : World} {held : Bool}

theorem u8_of_wf {n : Int} (h : (Lit.int .u8 n).wf = true) : 0 ≤ n ∧ n < 256 := by
  have : 0 ≤ n ∧ n ≤ 255 := by simpa [Lit.wf, IntKind.min, IntKind.max, IntKind.signed, IntKind.bits] using h
  omega

/-- an address of cells has no spot of its own -/
theorem lies_addr {a : Addr} {k : Nat} {u u0 : Value} (h0 : w.cell? (a.add 0) = some u0) (hk : w.cell? (a.add k) = some u) : ∃ b off, some a = some (⟨b, off, none⟩ : Addr) ∧ w.cell? ⟨b, off + k, none⟩ = some u := by
  obtain ⟨b, off, spot⟩ := a
  have hspot : spot = none := by simpa [Addr.add] using World.cell?_spot h0
  subst hspot
  exact ⟨b, off, rfl, by simpa [Addr.add_lit] using hk⟩

theorem open_bytes {t e : TypeId} {fuel : Nat} {v : Value} {x : DataW H × List MemPlace} (ht : P.underlying t = some (.slice e)) (he : P.underlying e = some (.int .u8)) (hc : P.cellsOf e = 1)
    (h : DataW.trod enc P w 0 (fun _ => true) held fuel t [v] = some x) : ∃ a cap l, v = .slice a l.length cap ∧ Lies w a (bs l) ∧ l.length ≤ maxLen := by
  rcases open_ints ht he hc h with ⟨hcs, _⟩ | ⟨a, len, cap, zs, hcs, _, hl, hm, hz, _, hcell, hwz⟩
  · simp at hcs
    subst hcs
    exact ⟨none, 0, [], rfl, Lies.nil _ _, by simp⟩
  · simp at hcs hz
    subst hcs
    refine ⟨some a, cap, (zs.take len).map fun z => UInt8.ofNat z.toNat, ?_, ?_, ?_⟩
    · simp; omega
    · intro k u hu
      have hk : k < len := by
        obtain ⟨hk, _⟩ := List.getElem?_eq_some_iff.1 hu
        simp [bs] at hk
        omega
      have hkz : k < zs.length := by omega
      have hcl := hcell k hkz
      have hwf := u8_of_wf (hwz zs[k] (by simp))
      have hu' : u = .int .u8 (zs[k]) := by
        simp [bs, hk, hkz] at hu
        rw [← hu]
        congr 1
        omega
      subst hu'
      have e2 : zs.getD k 0 = zs[k] := by simp [List.getD, hkz]
      rw [e2] at hcl
      exact lies_addr (hcell 0 (by omega)) hcl
    · simp; omega

theorem open_blocks {t e e8 : TypeId} {fuel : Nat} {v : Value} {d : DataW H} {ps : List MemPlace} (ht : P.underlying t = some (.slice e)) (hte : P.underlying e = some (.slice e8)) (he : P.underlying e8 = some (.int .u8)) (hc : P.cellsOf e = 1) (hc8 : P.cellsOf e8 = 1)
    (h : DataW.trod enc P w 0 (fun _ => true) held fuel t [v] = some (d, ps)) :
    ∃ a cap bl, v = .slice a bl.length cap ∧ Lies w a (bl.map Blk.val) ∧ AllIn w bl ∧ bl.length ≤ maxLen ∧ ((d = .nil ∧ bl = []) ∨ ∃ elems sp, d = .slice elems sp ∧ elems.length = bl.length) := by
  rcases Go.Deep.open_slice1 ht hc h with ⟨hcs, hx⟩ | ⟨a, len, cap, m, n, V, D, Pl, hcs, _, hl, hm, hmm, hx, hcell⟩
  · simp at hcs hx
    subst hcs
    exact ⟨none, 0, [], rfl, Lies.nil _ _, (fun b hb => by simp at hb), by simp, .inl ⟨hx.1, rfl⟩⟩
  · simp at hcs hx hmm
    subst hcs hmm
    have hb : ∀ i, i < m → ∃ b : Blk, V i = b.val ∧ Lies w b.a (bs b.l) ∧ b.l.length ≤ maxLen := fun i hi => by
      obtain ⟨a', cap', l, e1, e2, e3⟩ := open_bytes hte he hc8 (hcell i hi).2
      exact ⟨⟨a', cap', l⟩, e1, e2, e3⟩
    have : Inhabited Blk := ⟨⟨none, 0, []⟩⟩
    obtain ⟨B, hB⟩ := Go.Deep.choose_lt hb
    refine ⟨some a, m, (List.range len).map B, by simp, ?_, ?_, by simp; omega, .inr ⟨_, _, hx.1, by simp⟩⟩
    · intro k u hu
      have hk : k < len := by
        obtain ⟨hk, _⟩ := List.getElem?_eq_some_iff.1 hu
        simpa using hk
      have hu' : u = V k := by
        simp [hk] at hu
        rw [← hu, (hB k (by omega)).1]
      subst hu'
      exact lies_addr (hcell 0 (by omega)).1 (hcell k (by omega)).1
    · intro b hb
      obtain ⟨i, hi, rfl⟩ := List.mem_map.1 hb
      exact (hB i (by simp at hi; omega)).2
end
end Go.Proofs.YtekdigbdfeamkaaDoor

/-
  What came in, opened, with what it has room for: byte slices, slices of byte slices, a struct of two ints, whatever their readings are. Nothing of any program.
-/
namespace Go.Proofs.YtekdigbdfeamkaaDoor
open Go.ChangeShapes Go.WideShapes Go.ChangeAt Go.RowKit
set_option linter.unusedVariables false
set_option linter.unusedSimpArgs false

section
variable {H : Type} {enc : TypeId × Value → H} {P : Program} {w : World} {held : Bool}

/-- how many elements a reading has -/
def dlen : DataW H → Nat
  | .slice el _ => el.length
  | _ => 0

theorem i64_of_wf {n : Int} (h : (Lit.int .i64 n).wf = true) : I64 n := by
  have : -9223372036854775808 ≤ n ∧ n ≤ 9223372036854775807 := by simpa [Lit.wf, IntKind.min, IntKind.max, IntKind.signed, IntKind.bits] using h
  exact this

theorem open_bytes2 {t e : TypeId} {fuel : Nat} {v : Value} {x : DataW H × List MemPlace} (ht : P.underlying t = some (.slice e)) (he : P.underlying e = some (.int .u8)) (hc : P.cellsOf e = 1)
    (h : DataW.trod enc P w 0 (fun _ => true) held fuel t [v] = some x) : ∃ a cap l, v = .slice a l.length cap ∧ Lies w a (bs l) ∧ l.length ≤ maxLen ∧ l.length ≤ cap ∧ dlen x.1 = l.length := by
  rcases open_ints ht he hc h with ⟨hcs, rfl⟩ | ⟨a, len, cap, zs, hcs, _, hl, hm, hz, rfl, hcell, hwz⟩
  · simp at hcs
    subst hcs
    exact ⟨none, 0, [], rfl, Lies.nil _ _, by simp, by simp, rfl⟩
  · simp at hcs hz
    subst hcs
    refine ⟨some a, cap, (zs.take len).map fun z => UInt8.ofNat z.toNat, ?_, ?_, ?_, ?_, ?_⟩
    · simp; omega
    · intro k u hu
      have hk : k < len := by
        obtain ⟨hk, _⟩ := List.getElem?_eq_some_iff.1 hu
        simp [bs] at hk
        omega
      have hkz : k < zs.length := by omega
      have hcl := hcell k hkz
      have hwf := u8_of_wf (hwz zs[k] (by simp))
      have hu' : u = .int .u8 (zs[k]) := by
        simp [bs, hk, hkz] at hu
        rw [← hu]
        congr 1
        omega
      subst hu'
      have e2 : zs.getD k 0 = zs[k] := by simp [List.getD, hkz]
      rw [e2] at hcl
      exact lies_addr (hcell 0 (by omega)) hcl
    · simp; omega
    · simp; omega
    · simp [dlen, lits]

theorem open_blocks2 {t e e8 : TypeId} {fuel : Nat} {v : Value} {d : DataW H} {ps : List MemPlace} (ht : P.underlying t = some (.slice e)) (hte : P.underlying e = some (.slice e8)) (he : P.underlying e8 = some (.int .u8)) (hc : P.cellsOf e = 1) (hc8 : P.cellsOf e8 = 1)
    (h : DataW.trod enc P w 0 (fun _ => true) held fuel t [v] = some (d, ps)) :
    ∃ a cap bl, v = .slice a bl.length cap ∧ Lies w a (bl.map Blk.val) ∧ AllIn w bl ∧ bl.length ≤ maxLen ∧ Caps bl ∧ ((d = .nil ∧ bl = []) ∨ ∃ elems sp, d = .slice elems sp ∧ elems.map dlen = bl.map fun b => b.l.length) := by
  rcases Go.Deep.open_slice1 ht hc h with ⟨hcs, hx⟩ | ⟨a, len, cap, m, n, V, D, Pl, hcs, _, hl, hm, hmm, hx, hcell⟩
  · simp at hcs hx
    subst hcs
    exact ⟨none, 0, [], rfl, Lies.nil _ _, (fun b hb => by simp at hb), by simp, (fun b hb => by simp at hb), .inl ⟨hx.1, rfl⟩⟩
  · simp at hcs hx hmm
    subst hcs hmm
    have hb : ∀ i, i < m → ∃ b : Blk, V i = b.val ∧ Lies w b.a (bs b.l) ∧ b.l.length ≤ maxLen ∧ b.l.length ≤ b.cap ∧ dlen (D i) = b.l.length := fun i hi => by
      obtain ⟨a', cap', l, e1, e2, e3, e4, e5⟩ := open_bytes2 hte he hc8 (hcell i hi).2
      exact ⟨⟨a', cap', l⟩, e1, e2, e3, e4, e5⟩
    have : Inhabited Blk := ⟨⟨none, 0, []⟩⟩
    obtain ⟨B, hB⟩ := Go.Deep.choose_lt hb
    refine ⟨some a, m, (List.range len).map B, by simp, ?_, ?_, by simp; omega, ?_, .inr ⟨_, _, hx.1, ?_⟩⟩
    · intro k u hu
      have hk : k < len := by
        obtain ⟨hk, _⟩ := List.getElem?_eq_some_iff.1 hu
        simpa using hk
      have hu' : u = V k := by
        simp [hk] at hu
        rw [← hu, (hB k (by omega)).1]
      subst hu'
      exact lies_addr (hcell 0 (by omega)).1 (hcell k (by omega)).1
    · intro b hb
      obtain ⟨i, hi, rfl⟩ := List.mem_map.1 hb
      have := hB i (by simp at hi; omega)
      exact ⟨this.2.1, this.2.2.1⟩
    · intro b hb
      obtain ⟨i, hi, rfl⟩ := List.mem_map.1 hb
      exact (hB i (by simp at hi; omega)).2.2.2.1
    · rw [List.map_map, List.map_map]
      apply List.map_congr_left
      intro i hi
      exact (hB i (by simp at hi; omega)).2.2.2.2

theorem open_plan {r : Reach} {b0 : Nat} {t : TypeId} {f0 f1 : Field} {v : Value} {d : DataW H} {p : List MemPlace} (hs : P.underlying t = some (.struct #[f0, f1])) (hone : Go.Deep.oneCellFields P #[f0, f1] = true) (hC : P.cellsOf t = 2)
    (h0 : P.underlying f0.type = some (.int .i64)) (h1 : P.underlying f1.type = some (.int .i64))
    (hv : Value.okWide P w r b0 t v) (h : DataW.Trod enc P w 0 (fun _ => true) held t v d p) : ∃ B K : Int, v = .agg #[.int .i64 B, .int .i64 K] ∧ I64 B ∧ I64 K := by
  obtain ⟨c0, c1, y0, y1, m, rfl, rfl, rfl, hy0, hy1⟩ := Go.Joins.open_agg2 hs hone hC hv h
  obtain ⟨a, e0, rfl, wa⟩ := DataW.trod_int h0 hy0
  obtain ⟨b, e1, rfl, wb⟩ := DataW.trod_int h1 hy1
  simp at e0 e1
  subst e0 e1
  exact ⟨a, b, rfl, i64_of_wf wa, i64_of_wf wb⟩
end
end Go.Proofs.YtekdigbdfeamkaaDoor

/-
  A symbol that came in, opened: an int and a byte slice. Nothing of any program.
-/
namespace Go.Proofs.YtekdigbdfeamkaaDoor
open Go.ChangeShapes Go.WideShapes Go.ChangeAt Go.RowKit
set_option linter.unusedVariables false

section
variable {H : Type} {enc : TypeId × Value → H} {P : Program} {w : World} {held : Bool}

theorem open_symbol {r : Reach} {b0 : Nat} {t e8 : TypeId} {f0 f1 : Field} {v : Value} {d : DataW H} {p : List MemPlace} (hs : P.underlying t = some (.struct #[f0, f1])) (hone : Go.Deep.oneCellFields P #[f0, f1] = true) (hC : P.cellsOf t = 2)
    (h0 : P.underlying f0.type = some (.int .i64)) (h1 : P.underlying f1.type = some (.slice e8)) (he : P.underlying e8 = some (.int .u8)) (hc8 : P.cellsOf e8 = 1)
    (hv : Value.okWide P w r b0 t v) (h : DataW.Trod enc P w 0 (fun _ => true) held t v d p) : ∃ (id : Int) (a : Option Addr) (cap : Nat) (l : List UInt8), v = .agg #[.int .i64 id, .slice a l.length cap] ∧ I64 id ∧ Lies w a (bs l) ∧ l.length ≤ maxLen ∧ l.length ≤ cap := by
  obtain ⟨c0, c1, y0, y1, m, rfl, rfl, rfl, hy0, hy1⟩ := Go.Joins.open_agg2 hs hone hC hv h
  obtain ⟨a, e0, rfl, wa⟩ := DataW.trod_int h0 hy0
  obtain ⟨a', cap, l, rfl, h2, h3, h4, _⟩ := open_bytes2 h1 he hc8 hy1
  simp at e0
  subst e0
  exact ⟨a, a', cap, l, rfl, i64_of_wf wa, h2, h3, h4⟩
end
end Go.Proofs.YtekdigbdfeamkaaDoor

/-
  A record that came in, opened.
-/
namespace Go.Proofs.YtekdigbdfeamkaaDoor
open Go.ChangeShapes Go.WideShapes Go.ChangeAt Go.RowKit
set_option linter.unusedVariables false
set_option linter.unusedSimpArgs false

theorem array13 {α : Type} {cs : Array α} (h : cs.size = 13) : ∃ c0 c1 c2 c3 c4 c5 c6 c7 c8 c9 c10 c11 c12, cs = #[c0, c1, c2, c3, c4, c5, c6, c7, c8, c9, c10, c11, c12] := by
  obtain ⟨l⟩ := cs
  match l, h with
  | [c0, c1, c2, c3, c4, c5, c6, c7, c8, c9, c10, c11, c12], _ => exact ⟨c0, c1, c2, c3, c4, c5, c6, c7, c8, c9, c10, c11, c12, rfl⟩

theorem cInt1 : Tryd.prog.cellsOf 3 = 1 := by kernel_rfl
theorem cBlk1 : Tryd.prog.cellsOf 31 = 1 := by kernel_rfl
theorem cByt1 : Tryd.prog.cellsOf 24 = 1 := by kernel_rfl
theorem cU81 : Tryd.prog.cellsOf 5 = 1 := by kernel_rfl
theorem cPlan2 : Tryd.prog.cellsOf 28 = 2 := by kernel_rfl
theorem cSym2 : Tryd.prog.cellsOf 33 = 2 := by kernel_rfl
theorem cHead6 : Tryd.prog.cellsOf 30 = 6 := by kernel_rfl
theorem cRec13 : Tryd.prog.cellsOf 35 = 13 := by kernel_rfl

section
variable {H : Type} {enc : TypeId × Value → H} {w : World} {held : Bool}

theorem one_int {n : Nat} {c : Value} {y : DataW H × List MemPlace} (h : DataW.trod enc Tryd.prog w 0 (fun _ => true) held n 3 [c] = some y) : ∃ a : Int, c = .int .i64 a ∧ I64 a := by
  obtain ⟨a, e, _, wa⟩ := DataW.trod_int Tryd.underlying3 h
  simp at e
  exact ⟨a, e, i64_of_wf wa⟩

set_option maxRecDepth 8000 in
theorem open_rec {r : Reach} {b0 : Nat} {v : Value} {d : DataW H} {p : List MemPlace} (hv : Value.okWide Tryd.prog w r b0 35 v) (h : DataW.Trod enc Tryd.prog w 0 (fun _ => true) held 35 v d p) :
    ∃ (x : Rc) (da : Option Addr) (dc : Nat) (ca : Option Addr) (cc : Nat), v = rcV x da dc ca cc ∧ x.ints ∧ Lies w da (bs x.d) ∧ Lies w ca (bs x.c) ∧ x.d.length ≤ maxLen ∧ x.c.length ≤ maxLen := by
  obtain ⟨cs, rfl, hsz⟩ := okWide_struct Tryd.underlying35 hv
  obtain ⟨c0, c1, c2, c3, c4, c5, c6, c7, c8, c9, c10, c11, c12, rfl⟩ := array13 (hsz.trans cRec13)
  obtain ⟨fuel, hf⟩ := h
  obtain ⟨xs, n, _, _, _, hlen, hg⟩ := DataW.trod_struct Tryd.underlying35 hf
  match xs, hlen with
  | [y0, y1, y2, y3, y4, y5, y6], _ =>
    have g0 := hg 0 _ rfl
    have g1 := hg 1 _ rfl
    have g2 := hg 2 _ rfl
    have g3 := hg 3 _ rfl
    have g4 := hg 4 _ rfl
    have g5 := hg 5 _ rfl
    have g6 := hg 6 _ rfl
    simp [Value.cells, cInt1, cHead6, cSym2, cByt1] at g0 g1 g2 g3 g4 g5 g6
    obtain ⟨k, rfl, ik⟩ := one_int g0
    obtain ⟨pl, rfl, ip⟩ := one_int g1
    obtain ⟨nn, rfl, inn⟩ := one_int g2
    obtain ⟨ty, rfl, iy⟩ := one_int g3
    obtain ⟨hs, n4, _, _, _, hl4, hg4⟩ := DataW.trod_struct Tryd.underlying30 g4
    match hs, hl4 with
    | [z0, z1, z2, z3, z4], _ =>
      have e0 := hg4 0 _ rfl
      have e1 := hg4 1 _ rfl
      have e2 := hg4 2 _ rfl
      have e3 := hg4 3 _ rfl
      have e4 := hg4 4 _ rfl
      simp [cInt1, cPlan2] at e0 e1 e2 e3 e4
      obtain ⟨F, rfl, iF⟩ := one_int e0
      obtain ⟨Q, rfl, iQ⟩ := one_int e1
      obtain ⟨T, rfl, iT⟩ := one_int e2
      obtain ⟨L, rfl, iL⟩ := one_int e3
      obtain ⟨ps, n5, _, _, _, hl5, hg5⟩ := DataW.trod_struct Tryd.underlying28 e4
      match ps, hl5 with
      | [u0, u1], _ =>
        have a0 := hg5 0 _ rfl
        have a1 := hg5 1 _ rfl
        simp [cInt1] at a0 a1
        obtain ⟨B, rfl, iB⟩ := one_int a0
        obtain ⟨K, rfl, iK⟩ := one_int a1
        obtain ⟨ss, n6, _, _, _, hl6, hg6⟩ := DataW.trod_struct Tryd.underlying33 g5
        match ss, hl6 with
        | [s0, s1], _ =>
          have b0 := hg6 0 _ rfl
          have b1 := hg6 1 _ rfl
          simp [cInt1, cBlk1] at b0 b1
          obtain ⟨id, rfl, iid⟩ := one_int b0
          obtain ⟨da, dc, dl, rfl, h1, h2, _, _⟩ := open_bytes2 Tryd.underlying31 Tryd.underlying5 cU81 b1
          obtain ⟨ca, cc, cl, rfl, h3, h4, _, _⟩ := open_bytes2 Tryd.underlying24 Tryd.underlying5 cU81 g6
          exact ⟨⟨k, pl, nn, ty, ⟨F, Q, T, L, B, K⟩, id, dl, cl⟩, da, dc, ca, cc, rfl, ⟨ik, ip, inn, iy, ⟨iF, iQ, iT, iL, iB, iK⟩, iid⟩, h1, h3, h2, h4⟩
end
end Go.Proofs.YtekdigbdfeamkaaDoor
