import Derived.Test.YtekdigbdfeamkaaGreatDoorPart18
import Derived.Test.YtekdigbdfeamkaaGreatDoorPart16
/-
  Chapter 8: the law's closed fact: one record is safe, another one half there.
-/
namespace Go.Proofs.YtekdigbdfeamkaaGreatDoor
open Go.RowKit
set_option linter.unusedVariables false
set_option linter.unusedSimpArgs false

def tick (n : Int) : Rc := ⟨8, 0, n, 0, ⟨0, 0, 0, 0, 0, 0⟩, 0, [], []⟩
def text5 : List UInt8 := [56, 32, 48, 32, 53, 32, 48, 32, 48, 32, 48, 32, 48, 32, 48, 32, 48, 32, 48, 32, 48, 32, 45, 32, 45]
def text6 : List UInt8 := [56, 32, 48, 32, 54, 32, 48, 32, 48, 32, 48, 32, 48, 32, 48, 32, 48, 32, 48, 32, 48, 32, 45, 32, 45]

theorem tick5_ints : (tick 5).ints := by
  refine ⟨?_, ?_, ?_, ?_, ⟨?_, ?_, ?_, ?_, ?_, ?_⟩, ?_⟩ <;> (constructor <;> decide)
theorem tick6_ints : (tick 6).ints := by
  refine ⟨?_, ?_, ?_, ?_, ⟨?_, ?_, ?_, ?_, ?_, ?_⟩, ?_⟩ <;> (constructor <;> decide)

theorem tick_code (n : Int) (h : 0 ≤ n ∧ n ≤ 1000000) : (tick n).code = 0 := by
  have hu : usesL 8 = some [78] := by decide
  have a1 : hasB [78] 72 = false := by decide
  have a2 : hasB [78] 83 = false := by decide
  have a3 : hasB [78] 67 = false := by decide
  have a4 : hasB [78] 78 = true := by decide
  have hf : formB [78] 0 n 0 ⟨0, 0, 0, 0, 0, 0⟩ 0 0 0 = true := by simp [formB, a1, a2, a3, a4]
  show recCode 8 0 n 0 ⟨0, 0, 0, 0, 0, 0⟩ 0 0 0 = 0
  unfold recCode
  rw [hu]
  simp only
  rw [if_pos hf]
  simp [restCode, a1, a2, a3, h.1, h.2]

theorem tick5_code : (tick 5).code = 0 := tick_code 5 (by decide)
theorem tick6_code : (tick 6).code = 0 := tick_code 6 (by decide)

theorem tick5_text : (tick 5).text = text5 := by
  simp [Rc.text, Rc.words, Rc.nums, tick, text5, Lib.join, List.intercalate, List.intersperse, Lib.itoa, Lib.decDigits, hexW, hexL, dig, digsL]
theorem tick6_text : (tick 6).text = text6 := by
  simp [Rc.text, Rc.words, Rc.nums, tick, text6, Lib.join, List.intercalate, List.intersperse, Lib.itoa, Lib.decDigits, hexW, hexL, dig, digsL]

theorem goods5 : Goods [tick 5] := fun r hr => by
  obtain rfl : r = tick 5 := by simpa using hr
  exact ⟨tick5_ints, tick5_code⟩

theorem lines5 : linesT [tick 5] = text5 ++ [10] := by rw [linesT_cons, tick5_text]; rfl

theorem ok0 : DkOk [] [] := ⟨by decide, by rw [linesL_nil]⟩
theorem ok1 : DkOk [] (text5 ++ [10]) := ⟨by decide, by rw [linesL_nil]⟩
theorem ok2 (v : List UInt8) (h : v.length ≤ 100) : DkOk (text5 ++ [10]) v := by
  rw [← lines5]
  refine DkOk.log goods5 (by decide) ?_
  rw [lines5]
  have : (text5 ++ [10]).length = 26 := by decide
  omega

theorem put5 : putCode [] [] (tick 5) = 0 := by rw [putCode, if_pos ok0.code, if_pos tick5_code, tick5_text, if_pos (by decide)]
theorem put6 : putCode (text5 ++ [10]) [] (tick 6) = 0 := by rw [putCode, if_pos (ok2 [] (by decide)).code, if_pos tick6_code, tick6_text, if_pos (by decide)]

theorem read5 : linesL 200 ((text5 ++ [10]) ++ [56, 32, 48, 32]) = ([tick 5], 26, 9) := by
  have h := linesL_text [tick 5] 200 [56, 32, 48, 32] goods5 (by decide)
  rw [lines5, linesL_none (s := [56, 32, 48, 32]) (by decide), if_neg (by decide)] at h
  rw [h]
  rfl

set_option maxHeartbeats 2000000 in
set_option maxRecDepth 8000 in
theorem filed_any (w : World) (hL : LaidN w) : Calls Tryz.prog 9 #[] w fun e w' => e = .returned (.bool true) ∧ Below w.heap.size w w' := by
  have hP1 := put_ok (w := w) (s := []) (v := []) (sa := none) (n := 0) (sc := 0) (wa := none) (m := 0) (wc := 0) ⟨rfl, rfl, Nat.le_refl _, Nat.le_refl _, Lies.nil _ _, Lies.nil _ _⟩ ok0 (tick 5) none 0 none 0 tick5_ints (by decide) (Lies.nil _ _) (Lies.nil _ _) put5 hL
  rw [tick5_text, List.nil_append] at hP1
  simp only [rcV, tick, List.length_nil] at hP1
  go_enter Tryz.func9, Tryz.ntmps9
  go_wp2_with fail
  refine hP1.mono ?_
  rintro e w1 ⟨⟨sa1, n1, sc1, wa1, m1, wc1, rfl, hd1, -, -⟩, hb1⟩
  clear hP1
  go_upto_region 2 with fail
  generalize hW2 : w1.alloc (.cells #[.slice sa1 n1 sc1, .slice wa1 m1 wc1] 24) = w2
  have hb2 : Below w1.heap.size w1 w2 := by rw [← hW2]; exact (Below.refl _ _).alloc (Nat.le_refl _) _
  have hq2 : w2.heap[w1.heap.size]? = some (.cells #[.slice sa1 n1 sc1, .slice wa1 m1 wc1] 24 (0, 0)) := by rw [← hW2, heap_alloc_eq, if_pos rfl]
  have hF2 := hb1.trans (hb2.mono hb1.size)
  have hlt1 : w.heap.size ≤ w1.heap.size := hb1.size
  have hS := sync_ok (hd1.below hb2) ok1 (by rw [List.nil_append]; exact ok2 [] (by decide)) (hL.below hF2)
  rw [List.nil_append] at hS
  clear hW2 hb2 hb1 hd1
  obtain ⟨c0, c1, f0, f1⟩ := cellsD hq2
  go_wp2_with fail
  refine hS.mono ?_
  rintro e w3 ⟨⟨sa2, n2, sc2, wa2, m2, wc2, rfl, hd3, hs3, hv3⟩, hb3⟩
  have hg2 : w1.heap.size < w2.heap.size := (Array.getElem?_eq_some_iff.1 hq2).1
  have hq3 := blkB hq2 hb3
  have hF3 := hF2.trans (hb3.mono hF2.size)
  clear hS c0 c1 f0 f1 hb3
  obtain ⟨c0, c1, f0, f1⟩ := cellsD hq3
  go_upto_region 3 with fail
  obtain ⟨w4, hW4, hq4, hk4, hB4⟩ := box2 w3 w1.heap.size 24 _ _ (.slice sa2 n2 sc2) (.slice wa2 m2 wc2) hq3
  rw [hW4]
  have hF4 := hB4 _ _ hlt1 hF3
  have hd4 := hd3.far hk4 (fun b o e => by have := hs3 b o e; omega) (fun b o e => by have := hv3 b o e; omega)
  have hP6 := put_ok hd4 (ok2 [] (by decide)) (tick 6) none 0 none 0 tick6_ints (by decide) (Lies.nil _ _) (Lies.nil _ _) put6 (hL.below hF4)
  rw [tick6_text, List.nil_append] at hP6
  simp only [rcV, tick, List.length_nil] at hP6
  clear hW4 hB4 hk4 hq3 hF3 hd3 hd4 c0 c1 f0 f1 hs3 hv3
  obtain ⟨c0, c1, f0, f1⟩ := cellsD hq4
  go_wp2_with fail
  refine hP6.mono ?_
  rintro e w5 ⟨⟨sa3, n3, sc3, wa3, m3, wc3, rfl, hd5, hs5, hv5⟩, hb5⟩
  have hg4 : w1.heap.size < w4.heap.size := (Array.getElem?_eq_some_iff.1 hq4).1
  have hq5 := blkB hq4 hb5
  have hF5 := hF4.trans (hb5.mono hF4.size)
  clear hP6 c0 c1 f0 f1 hb5
  obtain ⟨c0, c1, f0, f1⟩ := cellsD hq5
  go_upto_region 4 with fail
  obtain ⟨w6, hW6, hq6, hk6, hB6⟩ := box2 w5 w1.heap.size 24 _ _ (.slice sa3 n3 sc3) (.slice wa3 m3 wc3) hq5
  rw [hW6]
  have hF6 := hB6 _ _ hlt1 hF5
  have hd6 := hd5.far hk6 (fun b o e => by have := hs5 b o e; omega) (fun b o e => by have := hv5 b o e; omega)
  have hm3 : m3 = 26 := by rw [← hd5.hm]; decide
  have hC := crash_ok hd6 (ok2 _ (by decide)) 4 (by decide) (by rw [hm3]; decide) (hL.below hF6)
  have htk : List.take (Int.toNat 4) (text6 ++ [10]) = [56, 32, 48, 32] := by decide
  rw [htk] at hC
  clear hW6 hB6 hk6 hq5 hF5 hd5 hd6 c0 c1 f0 f1 hs5 hv5 htk hm3
  obtain ⟨c0, c1, f0, f1⟩ := cellsD hq6
  go_wp2_with fail
  refine hC.mono ?_
  rintro e w7 ⟨⟨sa4, n4, sc4, wa4, m4, wc4, rfl, hd7, hs7, hv7⟩, hb7⟩
  have hg6 : w1.heap.size < w6.heap.size := (Array.getElem?_eq_some_iff.1 hq6).1
  have hq7 := blkB hq6 hb7
  have hF7 := hF6.trans (hb7.mono hF6.size)
  clear hC c0 c1 f0 f1 hb7
  obtain ⟨c0, c1, f0, f1⟩ := cellsD hq7
  go_upto_region 5 with fail
  obtain ⟨w8, hW8, hq8, hk8, hB8⟩ := box2 w7 w1.heap.size 24 _ _ (.slice sa4 n4 sc4) (.slice wa4 m4 wc4) hq7
  rw [hW8]
  have hF8 := hB8 _ _ hlt1 hF7
  have hd8 := hd7.far hk8 (fun b o e => by have := hs7 b o e; omega) (fun b o e => by have := hv7 b o e; omega)
  have hR := recov_ok hd8 (ok2 _ (by decide)) (hL.below hF8)
  rw [read5] at hR
  simp only at hR
  clear hW8 hB8 hk8 hq7 hF7 hd7 hd8 c0 c1 f0 f1 hs7 hv7
  obtain ⟨c0, c1, f0, f1⟩ := cellsD hq8
  go_wp2_with fail
  refine hR.mono ?_
  rintro e w9 ⟨⟨L, q, p, cp, sa5, n5, sc5, rfl, hLq, hd9, hmap, hqc, hlp, hall, hs9, hp9⟩, hb9⟩
  have hg8 : w1.heap.size < w8.heap.size := (Array.getElem?_eq_some_iff.1 hq8).1
  have hq9 := blkB hq8 hb9
  have hF9 := hF8.trans (hb9.mono hF8.size)
  clear hR c0 c1 f0 f1 hb9
  obtain ⟨c0, c1, f0, f1⟩ := cellsD hq9
  have hq1 : q = 1 := by
    have h := congrArg List.length hmap
    rw [List.length_map, List.length_singleton, hLq] at h
    exact h
  subst hq1
  obtain ⟨y, hy⟩ : ∃ y, L = [y] := List.length_eq_one_iff.1 hLq
  subst hy
  have hyr : y.r = tick 5 := by
    rw [List.map_singleton] at hmap
    exact List.singleton_inj.1 hmap
  obtain ⟨b9, o9, rfl⟩ := hlp.some (k := 0) (by rw [recCells_length]; simp)
  go_upto_region 6 with fail
  obtain ⟨wA, hWA, hqA, hkA, hBA⟩ := box2 w9 w1.heap.size 24 _ _ (.slice sa5 n5 sc5) (.slice none 0 0) hq9
  rw [hWA]
  have hFA := hBA _ _ hlt1 hF9
  have hdA := hd9.far hkA (fun b o e => by have := hs9 b o e; omega) (fun b o e => by cases e)
  have hlA := liesFar hlp hkA (fun b o e => by have := hp9 b o e; omega)
  have hcN : wA.cell? ⟨b9, o9 + 2, none⟩ = some (.int .i64 5) := by
    have h := hlA.at (recCells_at [y] 0 2 y _ rfl rfl)
    rw [hyr] at h
    exact h
  have htk : List.take 26 ((text5 ++ [10]) ++ [56, 32, 48, 32]) = text5 ++ [10] := by decide
  have hcv := convBytes (c := sc5) hdA.ls hdA.hn
  rw [htk] at hcv
  clear hWA hBA hkA hq9 hF9 hd9 hlp hlA hall hs9 hp9 hmap hLq c0 c1 f0 f1 hdA htk hyr
  obtain ⟨c0, c1, f0, f1⟩ := cellsD hqA
  simp only [text5, List.cons_append, List.nil_append] at hcv
  go_wp2
  go_ret
  exact ⟨rfl, hFA⟩

end Go.Proofs.YtekdigbdfeamkaaGreatDoor

/-
  Chapter 8: slices.EqualFunc at records, with a function that holds two records against each other: its contract.
-/
namespace Go.Proofs.YtekdigbdfeamkaaGreatDoor
open Go.RowKit
set_option linter.unusedVariables false
set_option linter.unusedSimpArgs false

/-- its bytes are no more than a slice can have -/
def RecShort (m : MRec) : Prop := m.r.d.length ≤ maxLen ∧ m.r.c.length ≤ maxLen

theorem recs_cell {w : World} {b o k : Nat} {l : List MRec} {x : MRec} {v : Value} (h : Lies w (some ⟨b, o, none⟩) (recCells l) ∧ l[k]? = some x) (j : Nat) (hv : x.cells[j]? = some v) : w.cell? ⟨b, o + k * 13 + j, none⟩ = some v := by
  have h1 := h.1.at (recCells_at l k j x v h.2 hv)
  have e : o + (13 * k + j) = o + k * 13 + j := by omega
  rw [e] at h1
  exact h1

set_option maxHeartbeats 2000000 in
set_option maxRecDepth 8000 in
theorem equalRec_any (f : Nat) (eg : ∀ args w, (callFunc f args).run Tryz.prog w = .ok (.enter f args) w)
    (hf : ∀ (x y : MRec) (w : World), RecIn w x → RecIn w y → RecShort x → RecShort y → Calls Tryz.prog f #[x.val, y.val] w fun e w' => e = .returned (.bool (decide (x.r = y.r))) ∧ Below w.heap.size w w')
    (a b : Option Addr) (ca cb : Nat) (xl yl : List MRec) (w : World) (hx : xl.length ≤ 65536) (hy : yl.length ≤ 65536) (ha : Lies w a (recCells xl)) (hb : Lies w b (recCells yl)) (hxa : ∀ y ∈ xl, RecIn w y ∧ RecShort y) (hya : ∀ y ∈ yl, RecIn w y ∧ RecShort y) :
    Calls Tryz.prog 16 #[.slice a xl.length ca, .slice b yl.length cb, .func (.func f) #[] #[]] w fun e w' => e = .returned (.bool (decide (xl.map MRec.r = yl.map MRec.r))) ∧ Below w.heap.size w w' := by
  obtain ⟨N, hN⟩ : ∃ N, decide (xl.map MRec.r = yl.map MRec.r) = N := ⟨_, rfl⟩
  rw [hN]
  have sN := Shut.mk hN
  have HF := Shut.mk hf
  clear hN hf
  by_cases hl : xl.length = yl.length
  · obtain ⟨n, hn⟩ : ∃ n, xl.length = n := ⟨_, rfl⟩
    have hn2 : yl.length = n := by omega
    have HL := Shut.mk (And.intro hn hn2)
    rw [hn, hn2]
    rw [hn] at hx
    clear hl hn hn2 hy
    go_enter Tryz.func16, Tryz.ntmps16
    go_wp2
    go_loopw [17] (fun i wr => ∃ k : Nat, k ≤ n ∧ i = .int .i64 k ∧ Shut ((xl.map MRec.r).take k = (yl.map MRec.r).take k ∧ Below w.heap.size w wr)) (fun i _ => n - (intOf i).toNat)
    case atStart => exact ⟨0, Nat.zero_le _, rfl, ⟨rfl, Below.refl _ _⟩⟩
    case round =>
      obtain ⟨k, hk, rfl, HI⟩ := hrel
      obtain ⟨htk, hbr⟩ := HI.out
      by_cases hlt : k < n
      · obtain ⟨b1, o1, rfl⟩ := ha.some (k := 0) (by rw [recCells_length, HL.out.1]; omega)
        obtain ⟨b2, o2, rfl⟩ := hb.some (k := 0) (by rw [recCells_length, HL.out.2]; omega)
        obtain ⟨x, hxk⟩ : ∃ x, xl[k]? = some x := ⟨_, List.getElem?_eq_getElem (by rw [HL.out.1]; exact hlt)⟩
        obtain ⟨y, hyk⟩ : ∃ y, yl[k]? = some y := ⟨_, List.getElem?_eq_getElem (by rw [HL.out.2]; exact hlt)⟩
        have h1 := And.intro (ha.below hbr (Nat.le_refl _)) hxk
        have h2 := And.intro (hb.below hbr (Nat.le_refl _)) hyk
        obtain ⟨hx1, hx2⟩ := hxa x (List.mem_of_getElem? hxk)
        obtain ⟨hy1, hy2⟩ := hya y (List.mem_of_getElem? hyk)
        have HK : Shut ((xl.map MRec.r).take k = (yl.map MRec.r).take k ∧ xl[k]? = some x ∧ yl[k]? = some y) := ⟨htk, hxk, hyk⟩
        clear htk hxk hyk HI
        have p0 : wr.cell? ⟨b1, o1 + k * 13, none⟩ = some (.int .i64 x.r.k) := recs_cell h1 0 rfl
        have p1 : wr.cell? ⟨b1, o1 + k * 13 + 1, none⟩ = some (.int .i64 x.r.p) := recs_cell h1 1 rfl
        have p2 : wr.cell? ⟨b1, o1 + k * 13 + 2, none⟩ = some (.int .i64 x.r.n) := recs_cell h1 2 rfl
        have p3 : wr.cell? ⟨b1, o1 + k * 13 + 3, none⟩ = some (.int .i64 x.r.y) := recs_cell h1 3 rfl
        have p4 : wr.cell? ⟨b1, o1 + k * 13 + 4, none⟩ = some (.int .i64 x.r.h.F) := recs_cell h1 4 rfl
        have p5 : wr.cell? ⟨b1, o1 + k * 13 + 5, none⟩ = some (.int .i64 x.r.h.Q) := recs_cell h1 5 rfl
        have p6 : wr.cell? ⟨b1, o1 + k * 13 + 6, none⟩ = some (.int .i64 x.r.h.T) := recs_cell h1 6 rfl
        have p7 : wr.cell? ⟨b1, o1 + k * 13 + 7, none⟩ = some (.int .i64 x.r.h.L) := recs_cell h1 7 rfl
        have p8 : wr.cell? ⟨b1, o1 + k * 13 + 8, none⟩ = some (.int .i64 x.r.h.B) := recs_cell h1 8 rfl
        have p9 : wr.cell? ⟨b1, o1 + k * 13 + 9, none⟩ = some (.int .i64 x.r.h.K) := recs_cell h1 9 rfl
        have p10 : wr.cell? ⟨b1, o1 + k * 13 + 10, none⟩ = some (.int .i64 x.r.id) := recs_cell h1 10 rfl
        have p11 : wr.cell? ⟨b1, o1 + k * 13 + 11, none⟩ = some (.slice x.da x.r.d.length x.dc) := recs_cell h1 11 rfl
        have p12 : wr.cell? ⟨b1, o1 + k * 13 + 12, none⟩ = some (.slice x.ca x.r.c.length x.cc) := recs_cell h1 12 rfl
        go_upto_region 6 with fail
        generalize hW1 : wr.alloc (.cells #[.int .i64 x.r.k, .int .i64 x.r.p, .int .i64 x.r.n, .int .i64 x.r.y, .int .i64 x.r.h.F, .int .i64 x.r.h.Q, .int .i64 x.r.h.T, .int .i64 x.r.h.L, .int .i64 x.r.h.B, .int .i64 x.r.h.K, .int .i64 x.r.id, .slice x.da x.r.d.length x.dc, .slice x.ca x.r.c.length x.cc] 33) = W1
        have hb1 : Below wr.heap.size wr W1 := by rw [← hW1]; exact (Below.refl _ _).alloc (Nat.le_refl _) _
        have hq1 : W1.heap[wr.heap.size]? = some (.cells #[.int .i64 x.r.k, .int .i64 x.r.p, .int .i64 x.r.n, .int .i64 x.r.y, .int .i64 x.r.h.F, .int .i64 x.r.h.Q, .int .i64 x.r.h.T, .int .i64 x.r.h.L, .int .i64 x.r.h.B, .int .i64 x.r.h.K, .int .i64 x.r.id, .slice x.da x.r.d.length x.dc, .slice x.ca x.r.c.length x.cc] 33 (0, 0)) := by rw [← hW1, heap_alloc_eq, if_pos rfl]
        have h3 := And.intro (h2.1.below hb1 (Nat.le_refl _)) h2.2
        clear hW1 h1 h2 p0 p1 p2 p3 p4 p5 p6 p7 p8 p9 p10 p11 p12
        have p0 : W1.cell? ⟨b2, o2 + k * 13, none⟩ = some (.int .i64 y.r.k) := recs_cell h3 0 rfl
        have p1 : W1.cell? ⟨b2, o2 + k * 13 + 1, none⟩ = some (.int .i64 y.r.p) := recs_cell h3 1 rfl
        have p2 : W1.cell? ⟨b2, o2 + k * 13 + 2, none⟩ = some (.int .i64 y.r.n) := recs_cell h3 2 rfl
        have p3 : W1.cell? ⟨b2, o2 + k * 13 + 3, none⟩ = some (.int .i64 y.r.y) := recs_cell h3 3 rfl
        have p4 : W1.cell? ⟨b2, o2 + k * 13 + 4, none⟩ = some (.int .i64 y.r.h.F) := recs_cell h3 4 rfl
        have p5 : W1.cell? ⟨b2, o2 + k * 13 + 5, none⟩ = some (.int .i64 y.r.h.Q) := recs_cell h3 5 rfl
        have p6 : W1.cell? ⟨b2, o2 + k * 13 + 6, none⟩ = some (.int .i64 y.r.h.T) := recs_cell h3 6 rfl
        have p7 : W1.cell? ⟨b2, o2 + k * 13 + 7, none⟩ = some (.int .i64 y.r.h.L) := recs_cell h3 7 rfl
        have p8 : W1.cell? ⟨b2, o2 + k * 13 + 8, none⟩ = some (.int .i64 y.r.h.B) := recs_cell h3 8 rfl
        have p9 : W1.cell? ⟨b2, o2 + k * 13 + 9, none⟩ = some (.int .i64 y.r.h.K) := recs_cell h3 9 rfl
        have p10 : W1.cell? ⟨b2, o2 + k * 13 + 10, none⟩ = some (.int .i64 y.r.id) := recs_cell h3 10 rfl
        have p11 : W1.cell? ⟨b2, o2 + k * 13 + 11, none⟩ = some (.slice y.da y.r.d.length y.dc) := recs_cell h3 11 rfl
        have p12 : W1.cell? ⟨b2, o2 + k * 13 + 12, none⟩ = some (.slice y.ca y.r.c.length y.cc) := recs_cell h3 12 rfl
        go_upto_region 7 with fail
        generalize hW2 : W1.alloc (.cells #[.int .i64 y.r.k, .int .i64 y.r.p, .int .i64 y.r.n, .int .i64 y.r.y, .int .i64 y.r.h.F, .int .i64 y.r.h.Q, .int .i64 y.r.h.T, .int .i64 y.r.h.L, .int .i64 y.r.h.B, .int .i64 y.r.h.K, .int .i64 y.r.id, .slice y.da y.r.d.length y.dc, .slice y.ca y.r.c.length y.cc] 33) = W2
        have hb2 : Below W1.heap.size W1 W2 := by rw [← hW2]; exact (Below.refl _ _).alloc (Nat.le_refl _) _
        have hq2 : W2.heap[W1.heap.size]? = some (.cells #[.int .i64 y.r.k, .int .i64 y.r.p, .int .i64 y.r.n, .int .i64 y.r.y, .int .i64 y.r.h.F, .int .i64 y.r.h.Q, .int .i64 y.r.h.T, .int .i64 y.r.h.L, .int .i64 y.r.h.B, .int .i64 y.r.h.K, .int .i64 y.r.id, .slice y.da y.r.d.length y.dc, .slice y.ca y.r.c.length y.cc] 33 (0, 0)) := by rw [← hW2, heap_alloc_eq, if_pos rfl]
        have hq3 := blkB hq1 hb2
        have hB2 := (hbr.trans (hb1.mono hbr.size)).trans (hb2.mono (hbr.trans (hb1.mono hbr.size)).size)
        have hC := HF.out x y W2 (hx1.below hB2) (hy1.below hB2) hx2 hy2
        simp only [MRec.val, rcV] at hC
        clear hW2 h3 hq1 hb1 hb2 hx1 hy1 hx2 hy2 p0 p1 p2 p3 p4 p5 p6 p7 p8 p9 p10 p11 p12
        have p0 : W2.cell? ⟨wr.heap.size, 0, none⟩ = some (.int .i64 x.r.k) := cellB hq3 0 _ rfl
        have p1 : W2.cell? ⟨wr.heap.size, 1, none⟩ = some (.int .i64 x.r.p) := cellB hq3 1 _ rfl
        have p2 : W2.cell? ⟨wr.heap.size, 2, none⟩ = some (.int .i64 x.r.n) := cellB hq3 2 _ rfl
        have p3 : W2.cell? ⟨wr.heap.size, 3, none⟩ = some (.int .i64 x.r.y) := cellB hq3 3 _ rfl
        have p4 : W2.cell? ⟨wr.heap.size, 4, none⟩ = some (.int .i64 x.r.h.F) := cellB hq3 4 _ rfl
        have p5 : W2.cell? ⟨wr.heap.size, 5, none⟩ = some (.int .i64 x.r.h.Q) := cellB hq3 5 _ rfl
        have p6 : W2.cell? ⟨wr.heap.size, 6, none⟩ = some (.int .i64 x.r.h.T) := cellB hq3 6 _ rfl
        have p7 : W2.cell? ⟨wr.heap.size, 7, none⟩ = some (.int .i64 x.r.h.L) := cellB hq3 7 _ rfl
        have p8 : W2.cell? ⟨wr.heap.size, 8, none⟩ = some (.int .i64 x.r.h.B) := cellB hq3 8 _ rfl
        have p9 : W2.cell? ⟨wr.heap.size, 9, none⟩ = some (.int .i64 x.r.h.K) := cellB hq3 9 _ rfl
        have p10 : W2.cell? ⟨wr.heap.size, 10, none⟩ = some (.int .i64 x.r.id) := cellB hq3 10 _ rfl
        have p11 : W2.cell? ⟨wr.heap.size, 11, none⟩ = some (.slice x.da x.r.d.length x.dc) := cellB hq3 11 _ rfl
        have p12 : W2.cell? ⟨wr.heap.size, 12, none⟩ = some (.slice x.ca x.r.c.length x.cc) := cellB hq3 12 _ rfl
        have q0 : W2.cell? ⟨W1.heap.size, 0, none⟩ = some (.int .i64 y.r.k) := cellB hq2 0 _ rfl
        have q1 : W2.cell? ⟨W1.heap.size, 1, none⟩ = some (.int .i64 y.r.p) := cellB hq2 1 _ rfl
        have q2 : W2.cell? ⟨W1.heap.size, 2, none⟩ = some (.int .i64 y.r.n) := cellB hq2 2 _ rfl
        have q3 : W2.cell? ⟨W1.heap.size, 3, none⟩ = some (.int .i64 y.r.y) := cellB hq2 3 _ rfl
        have q4 : W2.cell? ⟨W1.heap.size, 4, none⟩ = some (.int .i64 y.r.h.F) := cellB hq2 4 _ rfl
        have q5 : W2.cell? ⟨W1.heap.size, 5, none⟩ = some (.int .i64 y.r.h.Q) := cellB hq2 5 _ rfl
        have q6 : W2.cell? ⟨W1.heap.size, 6, none⟩ = some (.int .i64 y.r.h.T) := cellB hq2 6 _ rfl
        have q7 : W2.cell? ⟨W1.heap.size, 7, none⟩ = some (.int .i64 y.r.h.L) := cellB hq2 7 _ rfl
        have q8 : W2.cell? ⟨W1.heap.size, 8, none⟩ = some (.int .i64 y.r.h.B) := cellB hq2 8 _ rfl
        have q9 : W2.cell? ⟨W1.heap.size, 9, none⟩ = some (.int .i64 y.r.h.K) := cellB hq2 9 _ rfl
        have q10 : W2.cell? ⟨W1.heap.size, 10, none⟩ = some (.int .i64 y.r.id) := cellB hq2 10 _ rfl
        have q11 : W2.cell? ⟨W1.heap.size, 11, none⟩ = some (.slice y.da y.r.d.length y.dc) := cellB hq2 11 _ rfl
        have q12 : W2.cell? ⟨W1.heap.size, 12, none⟩ = some (.slice y.ca y.r.c.length y.cc) := cellB hq2 12 _ rfl
        go_wp2_with fail
        refine hC.mono ?_
        rintro e W3 ⟨rfl, hb3⟩
        have hB3 := hB2.trans (hb3.mono hB2.size)
        clear hC hb3 hq2 hq3 hB2 p0 q0 p1 q1 p2 q2 p3 q3 p4 q4 p5 q5 p6 q6 p7 q7 p8 q8 p9 q9 p10 q10 p11 q11 p12 q12
        by_cases hd : x.r = y.r
        · have R : Shut ((xl.map MRec.r).take (k + 1) = (yl.map MRec.r).take (k + 1) ∧ Below w.heap.size w W3) := ⟨by
            rw [List.take_add_one, List.take_add_one, HK.out.1, List.getElem?_map, List.getElem?_map, HK.out.2.1, HK.out.2.2]
            simp [hd], hB3⟩
          rw [decide_eq_true hd]
          clear hd hB3
          go_wp2
          go_roundw
          case rel => exact ⟨k + 1, by omega, by go_num, R⟩
          case measure => simp [intOf]; omega
        · have HD : Shut (N = false) := ⟨by
            rw [← sN.out]
            refine decide_eq_false fun e => hd ?_
            have h1 : (xl.map MRec.r)[k]? = (yl.map MRec.r)[k]? := by rw [e]
            rw [List.getElem?_map, List.getElem?_map, HK.out.2.1, HK.out.2.2] at h1
            simpa using h1⟩
          rw [decide_eq_false hd]
          clear hd
          go_wp2
          go_ret
          exact ⟨by rw [HD.out]; rfl, hB3⟩
      · have HD : Shut (N = true) := ⟨by
          rw [← sN.out]
          refine decide_eq_true ?_
          rw [List.take_of_length_le (by rw [List.length_map, HL.out.1]; omega), List.take_of_length_le (by rw [List.length_map, HL.out.2]; omega)] at htk
          exact htk⟩
        clear HI htk
        go_wp2
        go_ret
        exact ⟨by rw [HD.out]; rfl, hbr⟩
  · have hne : ((xl.length : Int) != (yl.length : Int)) = true := by simp; omega
    have HD : Shut (N = false) := ⟨by rw [← sN.out]; exact decide_eq_false fun e => hl (by have := congrArg List.length e; simpa using this)⟩
    clear hl ha hb
    go_enter Tryz.func16, Tryz.ntmps16
    go_wp2
    go_ret
    exact ⟨by rw [HD.out]; rfl, Below.refl _ _⟩

end Go.Proofs.YtekdigbdfeamkaaGreatDoor
