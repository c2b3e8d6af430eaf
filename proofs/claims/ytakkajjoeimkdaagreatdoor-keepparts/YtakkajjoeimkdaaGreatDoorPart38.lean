import Derived.Test.YtakkajjoeimkdaaGreatDoorPart36
import Derived.Test.YtakkajjoeimkdaaGreatDoorPart37
import Derived.Test.YtakkajjoeimkdaaGreatDoorPart1
import Derived.ProofKit
import Derived.OpenShut
import Derived.ShutString
import Derived.ChangeOld
import Derived.Below
import Derived.Carry
import Derived.SizedLaws
import Derived.Deep.Slices
import Derived.Lib.SmallJoins
import Derived.Test.YtakkajjoeimkdaaGreatDoorPart8
import Derived.Test.YtakkajjoeimkdaaGreatDoorPart29
namespace Go.Proofs.YtakkajjoeimkdaaGreatDoor
open Go.RowKit
set_option linter.unusedVariables false
set_option linter.unusedSimpArgs false
attribute [local go_sem ↓] Go.wp_at_zero Go.wp_at_succ

structure PaI (V u : World) (pb : Nat) (P : Pl) (L : List MKp) (p : Option Addr) (cp : Nat) : Prop where
 below : Below V.heap.size V u
 box : u.heap[pb]? = some (.cells #[.int .i64 P.me, .slice p P.kp.length cp, .int .i64 P.tm, .int .i64 P.sq] 25 (0, 0))
 pl : PlNew V.heap.size u P.kp L p cp
 ne : ∀ g o, p = some ⟨g, o, none⟩ → g ≠ pb
 far : ∀ m ∈ L, FarM pb m ∧ ¬ growB m pb

set_option maxHeartbeats 16000000 in
set_option maxRecDepth 8000 in
theorem W_keepParts (me : Int) (pa : Option Addr) (pc : Nat) (ml : List MRec) (k : Int) (w : World) (hk : I64 k) (hl : Lies w pa (recCells ml)) (hall : ∀ m ∈ ml, RecIn w m ∧ RecShort m ∧ m.r.ints) (hm : ml.length ≤ maxLen) (hc : ml.length ≤ pc) (hL : Laid w) (hLN : LaidN w) :
  Calls Tryz.prog 3 #[.int .i64 me, .slice pa ml.length pc, .int .i64 k] w fun e w' => e = .returned (.bool true) ∧ Below w.heap.size w w' := by
 obtain ⟨n, hn⟩ : ∃ n, ml.length = n := ⟨_, rfl⟩
 have hR := replay_any me pa pc ml w hl hall hm hc hL
 obtain ⟨z, hz⟩ : ∃ z, replayC me (ml.map MRec.r) = z := ⟨_, rfl⟩
 obtain ⟨P, hP⟩ : ∃ P, replayP me (ml.map MRec.r) = P := ⟨_, rfl⟩
 rw [hz, hP, hn] at hR
 rw [hn] at hm hc ⊢
 unfold maxLen at hm
 obtain ⟨n0, hn0⟩ : ∃ n0, P.kp.length = n0 := ⟨_, rfl⟩
 have H := Shut.mk (And.intro hl (And.intro hall (And.intro hn (And.intro hL (And.intro hLN (And.intro hz (And.intro hP (And.intro hn0 hk))))))))
 clear hl hall hL hLN hz hP hn hn0 hk
 go_enter Tryz.func3, Tryz.ntmps3
 go_wp2_with fail
 refine hR.mono ?_
 rintro e W1 ⟨L1, p1, c1, rfl, H1⟩
 rw [H.out.2.2.2.2.2.2.2.1]
 clear hR
 go_upto_region 2 with fail
 obtain ⟨V, hV⟩ : ∃ V, W1.alloc (.cells #[.int .i64 P.me, .slice p1 n0 c1, .int .i64 P.tm, .int .i64 P.sq] 25) = V := ⟨_, rfl⟩
 rw [hV]
 have hb2 : Below W1.heap.size W1 V := by rw [← hV]; exact (Below.refl _ _).alloc (Nat.le_refl _) _
 have hbx : V.heap[W1.heap.size]? = some (.cells #[.int .i64 P.me, .slice p1 n0 c1, .int .i64 P.tm, .int .i64 P.sq] 25 (0, 0)) := by rw [← hV, heap_alloc_eq, if_pos rfl]
 have hbV := H1.out.2.trans (hb2.mono H1.out.2.size)
 have hP1 := H1.out.1.below hb2
 have hH := held_any V (H.out.2.2.2.1.below hbV)
 have HV := Shut.mk (And.intro hbV (And.intro hbx hP1))
 clear hV hb2 hbx hbV hP1 H1
 generalize W1.heap.size = wb at *
 go_wp2_with fail
 refine hH.mono ?_
 rintro e V2 ⟨rfl, hb3⟩
 have hbV2 := HV.out.1.trans (hb3.mono HV.out.1.size)
 have hbx2 := blkB HV.out.2.1 hb3
 have hP2 := HV.out.2.2.below hb3
 clear hH hb3
 rcases eqDec z 0 with ⟨y1, y2, y3, y4⟩ | ⟨y1, y2, y3, y4⟩
 case inr =>
  have hH2 := held_any V2 (H.out.2.2.2.1.below hbV2)
  have HB2 := Shut.mk hbV2
  clear y1 hbV2 hbx2 hP2
  go_wp2_with fail
  refine hH2.mono ?_
  rintro e V3 ⟨rfl, hb4⟩
  have R := HB2.out.trans (hb4.mono HB2.out.size)
  clear hH2 hb4
  go_wp2
  go_ret
  exact ⟨rfl, R⟩
 case inl =>
  subst y1
  obtain ⟨hn1, hlen, hrep, hrP⟩ := replay_zero H.out.2.2.2.2.2.1
  rw [List.length_map, H.out.2.2.1] at hlen
  have hrP2 : P = (repl (plNew me) (ml.map MRec.r)).2 := by rw [← H.out.2.2.2.2.2.2.1]; exact hrP
  have hg : Goods (ml.map MRec.r) := repl_goods hrep (fun r hr => by
   obtain ⟨m, hm', rfl⟩ := List.mem_map.1 hr
   exact (H.out.2.1 m hm').2.2)
  have HP := Shut.mk (And.intro hn1 (And.intro hrep (And.intro hrP2 hg)))
  obtain ⟨a0, a1⟩ := atN_lt k (n := (n : Int) + 1) (by omega)
  obtain ⟨kk, hkk⟩ : ∃ kk : Nat, atN k ((n : Int) + 1) = (kk : Int) := ⟨(atN k ((n : Int) + 1)).toNat, by omega⟩
  have hkn : kk ≤ n := by omega
  have hA := at_any k ((n : Int) + 1) V2 H.out.2.2.2.2.2.2.2.2 (by omega) (by omega)
  rw [hkk] at hA
  have hw1 : IntKind.i64.wrap ((n : Int) + 1) = (n : Int) + 1 := by rw [IntKind.wrap_i64]; omega
  have HW := Shut.mk (And.intro hbV2 (And.intro hbx2 hP2))
  clear hn1 hrep hrP hrP2 hg a0 a1 hkk hbV2 hbx2 hP2 y2 y3 y4
  go_wp2_with fail
  refine hA.mono ?_
  rintro e _ ⟨rfl, rfl⟩
  clear hA
  have hR2 := replay_any me pa pc (ml.take kk) V2 (recCells_takeK (H.out.1.below HW.out.1 (Nat.le_refl _)) kk) (fun m hm' => by
   have := H.out.2.1 m (List.mem_of_mem_take hm')
   exact ⟨this.1.below HW.out.1, this.2⟩) (by rw [List.length_take]; unfold maxLen; omega) (by rw [List.length_take, H.out.2.2.1]; omega) (H.out.2.2.2.1.below HW.out.1)
  have hz2 : replayC me ((ml.take kk).map MRec.r) = 0 := by
   unfold replayC
   rw [if_neg (fun e => e HP.out.1), if_neg (by rw [List.length_map, List.length_take]; omega), List.map_take]
   exact repl_part HP.out.2.1 kk
  have hp2 : replayP me ((ml.take kk).map MRec.r) = (repl (plNew me) ((ml.map MRec.r).take kk)).2 := by
   rw [(replay_zero hz2).2.2.2, List.map_take]
  rw [hz2, hp2, List.length_take, H.out.2.2.1, Nat.min_eq_left hkn] at hR2
  clear hz2 hp2
  obtain ⟨P3, hP3⟩ : ∃ P3, (repl (plNew me) ((ml.map MRec.r).take kk)).2 = P3 := ⟨_, rfl⟩
  rw [hP3] at hR2
  obtain ⟨n3, hn3⟩ : ∃ n3, P3.kp.length = n3 := ⟨_, rfl⟩
  go_wp2_with fail
  refine hR2.mono ?_
  rintro e W3 ⟨L3, p3, c3, rfl, H3⟩
  rw [hn3]
  clear hR2
  go_upto_region 6 with fail
  obtain ⟨V3, hV3⟩ : ∃ V3, W3.alloc (.cells #[.int .i64 P3.me, .slice p3 n3 c3, .int .i64 P3.tm, .int .i64 P3.sq] 25) = V3 := ⟨_, rfl⟩
  rw [hV3]
  have hb4 : Below W3.heap.size W3 V3 := by rw [← hV3]; exact (Below.refl _ _).alloc (Nat.le_refl _) _
  have hbx3 : V3.heap[W3.heap.size]? = some (.cells #[.int .i64 P3.me, .slice p3 n3 c3, .int .i64 P3.tm, .int .i64 P3.sq] 25 (0, 0)) := by rw [← hV3, heap_alloc_eq, if_pos rfl]
  have hbV3 : Below V2.heap.size V2 V3 := H3.out.2.trans (hb4.mono H3.out.2.size)
  have hs23 := H3.out.2.size
  have HI0 : Shut (PaI V2 V3 W3.heap.size P3 L3 p3 c3 ∧ (repl (plNew me) ((ml.map MRec.r).take (kk + 0))).2 = P3) := ⟨⟨hbV3, by rw [hn3]; exact hbx3, H3.out.1.below hb4, fun g o e' => by
   have := (H3.out.1.own.lt g (by rw [e']; rfl)).2
   omega, fun m hm' => ⟨farM_old (H3.out.1.new m hm').1.inn (Nat.le_refl _), fun e' => by
    have := ((H3.out.1.new m hm').1.grow_lt e').2
    omega⟩⟩, by rw [Nat.add_zero]; exact hP3⟩
  have hpb : V2.heap.size ≤ W3.heap.size := hs23
  clear hV3 hb4 hbx3 hbV3 H3 hs23
  generalize W3.heap.size = pb at *
  obtain ⟨m, hm2⟩ : ∃ m, n - kk = m := ⟨_, rfl⟩
  have HM := Shut.mk hm2
  have hkc : kk ≤ pc := by omega
  go_upto_region 8 with fail
  go_cut [47, 48, 49] from 45 (fun s l i wx => ∃ (pq : Option Addr) (cq : Nat), s = .slice pq m cq ∧ l = .int .i64 (m : Int) ∧ i = .int .i64 0 ∧ wx = V3 ∧ Shut (Lies w pq (recCells (ml.drop kk))))
  case first =>
   by_cases hz0 : n = 0
   ·have hml : ml = [] := List.eq_nil_of_length_eq_zero (by rw [H.out.2.2.1]; exact hz0)
    have R : ∀ pq, Shut (Lies w pq (recCells (ml.drop kk))) := fun pq => ⟨by rw [hml, List.drop_nil]; exact Lies.nil _ _⟩
    clear hml
    by_cases hkp : pc = kk
    ·clear hz0
     go_wp2
     go_meet
     exact ⟨_, _, rfl, rfl, rfl, rfl, R _⟩
    ·clear hz0
     go_wp2
     go_meet
     exact ⟨_, _, rfl, rfl, rfl, rfl, R _⟩
   ·obtain ⟨gb, go, rfl⟩ := H.out.1.some (k := 0) (by rw [recCells_length, H.out.2.2.1]; omega)
    have R : Shut (Lies w (some ⟨gb, go + kk * 13, none⟩) (recCells (ml.drop kk))) := ⟨by
     have e : recCells ml = recCells (ml.take kk) ++ recCells (ml.drop kk) := by rw [← recCells_append, List.take_append_drop]
     refine Lies.mk fun j hj => ?_
     have hget : (recCells ml)[13 * kk + j]? = some (recCells (ml.drop kk))[j] := by
      rw [e, List.getElem?_append_right (by rw [recCells_length, List.length_take]; omega), recCells_length, List.length_take, H.out.2.2.1, Nat.min_eq_left hkn]
      rw [Nat.add_sub_cancel_left, List.getElem?_eq_getElem hj]
     have h1 := H.out.1.at hget
     rw [show go + (13 * kk + j) = go + kk * 13 + j by omega] at h1
     exact h1⟩
    by_cases hkp : pc = kk
    ·have hmz : ml.drop kk = [] := List.drop_of_length_le (by rw [H.out.2.2.1]; omega)
     have R2 : ∀ pq, Shut (Lies w pq (recCells (ml.drop kk))) := fun pq => ⟨by rw [hmz]; exact Lies.nil _ _⟩
     clear hz0 hmz
     go_wp2
     go_meet
     exact ⟨_, _, rfl, rfl, rfl, rfl, R2 _⟩
    ·clear hz0
     go_wp2
     go_meet
     exact ⟨_, _, rfl, rfl, rfl, rfl, R⟩
  case rest =>
   obtain ⟨pq, cq, rfl, rfl, rfl, hwc, HQ⟩ := hcut
   rw [hwc]
   clear hwc hm2 hkc
   go_upto_region 9 with fail
   go_loopw [8, 49] (fun ev i wr => ∃ q : Nat, q ≤ m ∧ ev = .int .i64 0 ∧ i = .int .i64 q ∧ Shut (∃ P4 L4 p4 c4, PaI V2 wr pb P4 L4 p4 c4 ∧ (repl (plNew me) ((ml.map MRec.r).take (kk + q))).2 = P4)) (fun _ i _ => m - (intOf i).toNat)
   case atStart => exact ⟨0, Nat.zero_le _, rfl, rfl, ⟨P3, L3, p3, c3, HI0.out⟩⟩
   case round =>
    clear HI0
    obtain ⟨q, hq, rfl, rfl, HI⟩ := hrel
    by_cases hlt : q < m
    ·have hkq : kk + q < n := by have := HM.out; omega
     obtain ⟨x, hx0⟩ : ∃ x, ml[kk + q]? = some x := ⟨_, List.getElem?_eq_getElem (by rw [H.out.2.2.1]; exact hkq)⟩
     have hx : (ml.drop kk)[q]? = some x := by rw [List.getElem?_drop]; exact hx0
     have hxr : (ml.map MRec.r)[kk + q]? = some x.r := by rw [List.getElem?_map, hx0]; rfl
     have hxa := H.out.2.1 x (List.mem_of_getElem? hx0)
     obtain ⟨P4, L4, p4, c4, hI, hP4⟩ := HI.out
     obtain ⟨g1, g2⟩ := repl_at HP.out.2.1 hxr
     have hok := repl_ok HP.out.1 HP.out.2.1 (kk + q)
     rw [hP4] at g1 g2 hok
     have hgood := hI.pl.good hok
     have hbv := HW.out.1.trans (hI.below.mono HW.out.1.size)
     have hlr := HQ.out.below hbv (Nat.le_refl _)
     obtain ⟨gb, go, hpe⟩ := hlr.some (k := 13 * q) (by rw [recCells_length, List.length_drop, H.out.2.2.1]; omega)
     rw [hpe] at hlr
     have s0 : wr.cell? ⟨gb, go + q * 13, none⟩ = some (.int .i64 x.r.k) := recs_cell' hlr hx 0 rfl
     have s1 : wr.cell? ⟨gb, go + q * 13 + 1, none⟩ = some (.int .i64 x.r.p) := recs_cell' hlr hx 1 rfl
     have s2 : wr.cell? ⟨gb, go + q * 13 + 2, none⟩ = some (.int .i64 x.r.n) := recs_cell' hlr hx 2 rfl
     have s3 : wr.cell? ⟨gb, go + q * 13 + 3, none⟩ = some (.int .i64 x.r.y) := recs_cell' hlr hx 3 rfl
     have s4 : wr.cell? ⟨gb, go + q * 13 + 4, none⟩ = some (.int .i64 x.r.h.F) := recs_cell' hlr hx 4 rfl
     have s5 : wr.cell? ⟨gb, go + q * 13 + 5, none⟩ = some (.int .i64 x.r.h.Q) := recs_cell' hlr hx 5 rfl
     have s6 : wr.cell? ⟨gb, go + q * 13 + 6, none⟩ = some (.int .i64 x.r.h.T) := recs_cell' hlr hx 6 rfl
     have s7 : wr.cell? ⟨gb, go + q * 13 + 7, none⟩ = some (.int .i64 x.r.h.L) := recs_cell' hlr hx 7 rfl
     have s8 : wr.cell? ⟨gb, go + q * 13 + 8, none⟩ = some (.int .i64 x.r.h.B) := recs_cell' hlr hx 8 rfl
     have s9 : wr.cell? ⟨gb, go + q * 13 + 9, none⟩ = some (.int .i64 x.r.h.K) := recs_cell' hlr hx 9 rfl
     have s10 : wr.cell? ⟨gb, go + q * 13 + 10, none⟩ = some (.int .i64 x.r.id) := recs_cell' hlr hx 10 rfl
     have s11 : wr.cell? ⟨gb, go + q * 13 + 11, none⟩ = some (.slice x.da x.r.d.length x.dc) := recs_cell' hlr hx 11 rfl
     have s12 : wr.cell? ⟨gb, go + q * 13 + 12, none⟩ = some (.slice x.ca x.r.c.length x.cc) := recs_cell' hlr hx 12 rfl
     obtain ⟨k0, hk0⟩ : ∃ k0, P4.kp.length = k0 := ⟨_, rfl⟩
     have hb1 := hI.box
     rw [hk0] at hb1
     have HX := Shut.mk (And.intro hI (And.intro g1 (And.intro g2 (And.intro hk0 hb1))))
     rw [hpe]
     clear HI hx0 hx hxr hlr g1 g2 hok hI
     go_upto_region 11 with fail
     obtain ⟨W2, hW2⟩ : ∃ W2, wr.alloc (.cells #[.int .i64 x.r.k, .int .i64 x.r.p, .int .i64 x.r.n, .int .i64 x.r.y, .int .i64 x.r.h.F, .int .i64 x.r.h.Q, .int .i64 x.r.h.T, .int .i64 x.r.h.L, .int .i64 x.r.h.B, .int .i64 x.r.h.K, .int .i64 x.r.id, .slice x.da x.r.d.length x.dc, .slice x.ca x.r.c.length x.cc] 40) = W2 := ⟨_, rfl⟩
     rw [hW2]
     have hb2 : Below wr.heap.size wr W2 := by rw [← hW2]; exact (Below.refl _ _).alloc (Nat.le_refl _) _
     have hx2 : W2.heap[wr.heap.size]? = some (.cells #[.int .i64 x.r.k, .int .i64 x.r.p, .int .i64 x.r.n, .int .i64 x.r.y, .int .i64 x.r.h.F, .int .i64 x.r.h.Q, .int .i64 x.r.h.T, .int .i64 x.r.h.L, .int .i64 x.r.h.B, .int .i64 x.r.h.K, .int .i64 x.r.id, .slice x.da x.r.d.length x.dc, .slice x.ca x.r.c.length x.cc] 40 (0, 0)) := by rw [← hW2, heap_alloc_eq, if_pos rfl]
     have hw2 := hbv.trans (hb2.mono hbv.size)
     have hN := placeNext_any P4 p4 c4 L4 x.r x.da x.dc x.ca x.cc W2 (hgood.1.below hb2 (Nat.le_refl _)) (fun m hm => (hgood.2.1 m hm).below hb2) hgood.2.2.2.1 (by rw [hgood.2.2.1]; exact hgood.2.2.2.2.1) hgood.2.2.2.2.2 hxa.2.2 hxa.2.1.1 (hxa.1.1.below hw2 (Nat.le_refl _)) (hxa.1.2.below hw2 (Nat.le_refl _)) (H.out.2.2.2.1.below hw2)
     rw [hgood.2.2.1, HX.out.2.2.2.1] at hN
     simp only [rcV] at hN
     obtain ⟨d0, d1, d2, d3⟩ := plBox (blkB hb1 hb2)
     obtain ⟨t0, t1, t2, t3, t4, t5, t6, t7, t8, t9, t10, t11, t12⟩ := rcBox hx2
     have HB := Shut.mk (And.intro hb2 hw2)
     clear hW2 hb2 hx2 hgood hb1 hxa hbv hw2 s0 s1 s2 s3 s4 s5 s6 s7 s8 s9 s10 s11 s12
     go_wp2_with fail
     refine hN.mono ?_
     rintro e W4 ⟨L5, p5, c5, rfl, H4⟩
     clear hN t0 t1 t2 t3 t4 t5 t6 t7 t8 t9 t10 t11 t12 d0 d1 d2 d3
     rw [HX.out.2.1]
     obtain ⟨P5, hP5⟩ : ∃ P5, P4.next x.r = P5 := ⟨_, rfl⟩
     rw [hP5] at H4 ⊢
     obtain ⟨n5, hn5⟩ : ∃ n5, P5.kp.length = n5 := ⟨_, rfl⟩
     rw [hn5]
     have H5 := Shut.mk (And.intro hP5 hn5)
     clear hP5 hn5
     have hb4 : Below wr.heap.size wr W4 := HB.out.1.trans (H4.out.2.mono HB.out.1.size)
     have hpb4 := blkB HX.out.2.2.2.2 hb4
     obtain ⟨d0, d1, d2, d3⟩ := plBox hpb4
     have e0 := frzB hpb4 0
     have e1 := frzB hpb4 1
     have e2 := frzB hpb4 2
     have e3 := frzB hpb4 3
     go_upto_region 12 with fail
     obtain ⟨W9, hW9, hb9, hk9, hB9⟩ := box4 W4 pb 25 _ _ _ _ (.int .i64 P5.me) (.slice p5 n5 c5) (.int .i64 P5.tm) (.int .i64 P5.sq) hpb4
     rw [hW9]
     have R : Shut (∃ P4 L4 p4 c4, PaI V2 W9 pb P4 L4 p4 c4 ∧ (repl (plNew me) ((ml.map MRec.r).take (kk + (q + 1)))).2 = P4) := ⟨P5, L5, p5, c5, by
      have hs2 := HB.out.1.size
      have hpl := (Array.getElem?_eq_some_iff.1 HX.out.2.2.2.2).1
      have hsv := HX.out.1.below.size
      refine ⟨hB9 _ _ hpb (HX.out.1.below.trans (hb4.mono hsv)), by rw [H5.out.2]; exact hb9, ?_, fun g o e' => ?_, fun m hm => ?_⟩
      ·refine (H4.out.1.off (b := pb) (fun g o e' => ?_) (fun m hm => ?_) hk9).low (by omega)
       ·have := (H4.out.1.own.lt g (by rw [e']; rfl)).1; omega
       ·have h3 := (H4.out.1.new m hm).1
        exact ⟨farM_new h3 (by omega), fun e' => by have := (h3.grow_lt e').1; omega⟩
      ·have := (H4.out.1.own.lt g (by rw [e']; rfl)).1; omega
      ·have h3 := (H4.out.1.new m hm).1
       exact ⟨farM_new h3 (by omega), fun e' => by have := (h3.grow_lt e').1; omega⟩, by rw [show kk + (q + 1) = kk + q + 1 by omega, HX.out.2.2.1]; exact H5.out.1⟩
     clear hW9 hb9 hk9 hB9 d0 d1 d2 d3 e0 e1 e2 e3 hpb4 hb4
     go_wp2
     go_roundw
     case rel => exact ⟨q + 1, by omega, rfl, by go_num, R⟩
     case measure => simp [intOf]; omega
    ·obtain rfl : q = m := by omega
     obtain ⟨P4, L4, p4, c4, hI, hP4⟩ := HI.out
     rw [show kk + q = n by have := HM.out; omega, List.take_of_length_le (by rw [List.length_map, H.out.2.2.1]; exact Nat.le_refl _), ← HP.out.2.2.1] at hP4
     subst hP4
     have HJ := Shut.mk hI
     clear HI hI
     go_upto_region 16 with fail
     have hbX : Below w.heap.size w wr := HW.out.1.trans (HJ.out.below.mono HW.out.1.size)
     obtain ⟨W5, hW5⟩ : ∃ W5, wr.alloc (.cells #[.slice none 0 0, .slice none 0 0] 43) = W5 := ⟨_, rfl⟩
     rw [hW5]
     have hb5 : Below wr.heap.size wr W5 := by rw [← hW5]; exact (Below.refl _ _).alloc (Nat.le_refl _) _
     have hdb : W5.heap[wr.heap.size]? = some (.cells #[.slice none 0 0, .slice none 0 0] 43 (0, 0)) := by rw [← hW5, heap_alloc_eq, if_pos rfl]
     have HD0 : Shut (∃ sa ns sc wa wc, PaD wr W5 wr.heap.size (linesT ((ml.map MRec.r).take 0)) sa ns sc wa wc) := ⟨none, 0, 0, none, 0, hb5, hdb, ⟨rfl, rfl, Nat.le_refl _, Nat.le_refl _, Lies.nil _ _, Lies.nil _ _⟩, Nat.zero_le _⟩
     have HX := Shut.mk hbX
     clear hW5 hb5 hdb hbX
     generalize wr = X at *
     go_upto_region 17 with fail
     go_loopw [8, 64] (fun ev i u => ∃ q : Nat, q ≤ n ∧ ev = .int .i64 0 ∧ i = .int .i64 q ∧ Shut (∃ sa ns sc wa wc, PaD X u X.heap.size (linesT ((ml.map MRec.r).take q)) sa ns sc wa wc)) (fun _ i _ => n - (intOf i).toNat)
     case atStart => exact ⟨0, Nat.zero_le _, rfl, rfl, HD0⟩
     case round =>
      clear HD0
      obtain ⟨q, hq, rfl, rfl, HI⟩ := hrel
      by_cases hlt : q < n
      ·obtain ⟨x, hx⟩ : ∃ x, ml[q]? = some x := ⟨_, List.getElem?_eq_getElem (by rw [H.out.2.2.1]; exact hlt)⟩
       have hxr : (ml.map MRec.r)[q]? = some x.r := by rw [List.getElem?_map, hx]; rfl
       have hxa := H.out.2.1 x (List.mem_of_getElem? hx)
       have hrg := HP.out.2.2.2 x.r (List.mem_of_getElem? hxr)
       obtain ⟨sa, ns, sc, wa, wc, hD⟩ := HI.out
       have hbv := HX.out.trans (hD.below.mono HX.out.size)
       have hlr := H.out.1.below hbv (Nat.le_refl _)
       obtain ⟨gb, go, hpe⟩ := hlr.some (k := 13 * q) (by rw [recCells_length, H.out.2.2.1]; omega)
       rw [hpe] at hlr
       have s0 : wr.cell? ⟨gb, go + q * 13, none⟩ = some (.int .i64 x.r.k) := recs_cell' hlr hx 0 rfl
       have s1 : wr.cell? ⟨gb, go + q * 13 + 1, none⟩ = some (.int .i64 x.r.p) := recs_cell' hlr hx 1 rfl
       have s2 : wr.cell? ⟨gb, go + q * 13 + 2, none⟩ = some (.int .i64 x.r.n) := recs_cell' hlr hx 2 rfl
       have s3 : wr.cell? ⟨gb, go + q * 13 + 3, none⟩ = some (.int .i64 x.r.y) := recs_cell' hlr hx 3 rfl
       have s4 : wr.cell? ⟨gb, go + q * 13 + 4, none⟩ = some (.int .i64 x.r.h.F) := recs_cell' hlr hx 4 rfl
       have s5 : wr.cell? ⟨gb, go + q * 13 + 5, none⟩ = some (.int .i64 x.r.h.Q) := recs_cell' hlr hx 5 rfl
       have s6 : wr.cell? ⟨gb, go + q * 13 + 6, none⟩ = some (.int .i64 x.r.h.T) := recs_cell' hlr hx 6 rfl
       have s7 : wr.cell? ⟨gb, go + q * 13 + 7, none⟩ = some (.int .i64 x.r.h.L) := recs_cell' hlr hx 7 rfl
       have s8 : wr.cell? ⟨gb, go + q * 13 + 8, none⟩ = some (.int .i64 x.r.h.B) := recs_cell' hlr hx 8 rfl
       have s9 : wr.cell? ⟨gb, go + q * 13 + 9, none⟩ = some (.int .i64 x.r.h.K) := recs_cell' hlr hx 9 rfl
       have s10 : wr.cell? ⟨gb, go + q * 13 + 10, none⟩ = some (.int .i64 x.r.id) := recs_cell' hlr hx 10 rfl
       have s11 : wr.cell? ⟨gb, go + q * 13 + 11, none⟩ = some (.slice x.da x.r.d.length x.dc) := recs_cell' hlr hx 11 rfl
       have s12 : wr.cell? ⟨gb, go + q * 13 + 12, none⟩ = some (.slice x.ca x.r.c.length x.cc) := recs_cell' hlr hx 12 rfl
       have hsn : (ml.map MRec.r).take (q + 1) = (ml.map MRec.r).take q ++ [x.r] := by rw [List.take_add_one, hxr]; rfl
       have hgq : Goods ((ml.map MRec.r).take q) := fun r hr => HP.out.2.2.2 r (List.mem_of_mem_take hr)
       have hlq : ((ml.map MRec.r).take q).length ≤ 200 := by rw [List.length_take, List.length_map, H.out.2.2.1]; omega
       have hok : DkOk (linesT ((ml.map MRec.r).take q)) [] := DkOk.log hgq hlq (by simpa using hD.small)
       have hdk := hD.dk
       have hdb := hD.box
       obtain ⟨S, hS⟩ : ∃ S, linesT ((ml.map MRec.r).take q) = S := ⟨_, rfl⟩
       have hS2 : linesT ((ml.map MRec.r).take (q + 1)) = S ++ (x.r.text ++ [10]) := by rw [hsn, linesT_snoc, hS]
       have hroom := fun hz => putCode_room (a := (ml.map MRec.r).take q) (v := []) (r := x.r) hz hok
       have hok2 : S.length + (x.r.text.length + 1) ≤ 60000 → DkOk (S ++ (x.r.text ++ [10])) [] := fun hle => by
        rw [← hS2]
        refine DkOk.log (fun r hr => HP.out.2.2.2 r (List.mem_of_mem_take hr)) (by rw [List.length_take, List.length_map, H.out.2.2.1]; omega) ?_
        rw [hS2]
        simp only [List.length_append, List.length_singleton, List.length_nil]
        omega
       rw [hS] at hok hdk hroom
       have HDX := Shut.mk (And.intro hD.below (And.intro hbv (And.intro hS2 (And.intro hok2 hroom))))
       have hpe' := hpe
       rw [hpe]
       clear HI hx hxr hlr hD hsn hgq hlq hS2 hok2 hroom hS
       go_upto_region 19 with fail
       obtain ⟨W2, hW2⟩ : ∃ W2, wr.alloc (.cells #[.int .i64 x.r.k, .int .i64 x.r.p, .int .i64 x.r.n, .int .i64 x.r.y, .int .i64 x.r.h.F, .int .i64 x.r.h.Q, .int .i64 x.r.h.T, .int .i64 x.r.h.L, .int .i64 x.r.h.B, .int .i64 x.r.h.K, .int .i64 x.r.id, .slice x.da x.r.d.length x.dc, .slice x.ca x.r.c.length x.cc] 40) = W2 := ⟨_, rfl⟩
       rw [hW2]
       have hb2 : Below wr.heap.size wr W2 := by rw [← hW2]; exact (Below.refl _ _).alloc (Nat.le_refl _) _
       have hx2 : W2.heap[wr.heap.size]? = some (.cells #[.int .i64 x.r.k, .int .i64 x.r.p, .int .i64 x.r.n, .int .i64 x.r.y, .int .i64 x.r.h.F, .int .i64 x.r.h.Q, .int .i64 x.r.h.T, .int .i64 x.r.h.L, .int .i64 x.r.h.B, .int .i64 x.r.h.K, .int .i64 x.r.id, .slice x.da x.r.d.length x.dc, .slice x.ca x.r.c.length x.cc] 40 (0, 0)) := by rw [← hW2, heap_alloc_eq, if_pos rfl]
       have hw2 := HDX.out.2.1.trans (hb2.mono HDX.out.2.1.size)
       have hdb2 := blkB hdb hb2
       have hdk2 := hdk.below hb2
       have hdl : X.heap.size < W2.heap.size := (Array.getElem?_eq_some_iff.1 hdb2).1
       have hc1 := hxa.1.1.below hw2 (Nat.le_refl _)
       have hc2 := hxa.1.2.below hw2 (Nat.le_refl _)
       have hLN2 := H.out.2.2.2.2.1.below hw2
       obtain ⟨t0, t1, t2, t3, t4, t5, t6, t7, t8, t9, t10, t11, t12⟩ := rcBox hx2
       have d0 : W2.cell? ⟨X.heap.size, 0, none⟩ = some (.slice sa ns sc) := cellB hdb2 0 _ rfl
       have d1 : W2.cell? ⟨X.heap.size, 1, none⟩ = some (.slice wa 0 wc) := cellB hdb2 1 _ rfl
       have HB := Shut.mk (And.intro (HDX.out.1.trans (hb2.mono HDX.out.1.size)) (And.intro hw2 hdb2))
       clear hW2 hb2 hx2 hw2 hdb hdb2 hdk s0 s1 s2 s3 s4 s5 s6 s7 s8 s9 s10 s11 s12
       rcases put_two (s := S) (v := []) (r := x.r) hok.code hrg.2 with z0 | z0
       case inr =>
        have hPut := put_no hdk2 hok x.r x.da x.dc x.ca x.cc hxa.2.2 hxa.2.1.1 hc1 hc2 (by rw [z0]; decide) hLN2
        rw [z0] at hPut
        simp only [rcV] at hPut
        clear hdk2 hc1 hc2 hLN2 hok hrg hxa z0
        go_wp2_with fail
        refine hPut.mono ?_
        rintro e W4 ⟨⟨sa', n', sc', wa', m', wc', rfl, hdk', hs1, hs2⟩, hb4⟩
        have hdb4 := blkB HB.out.2.2 hb4
        have f0 := frzB hdb4 0
        have f1 := frzB hdb4 1
        have hcc0 : W4.cell? ⟨X.heap.size, 0, none⟩ = some (.slice sa ns sc) := cellB hdb4 0 _ rfl
        have hcc1 : W4.cell? ⟨X.heap.size, 1, none⟩ = some (.slice wa 0 wc) := cellB hdb4 1 _ rfl
        have hwz : Below w.heap.size w W4 := HB.out.2.1.trans (hb4.mono HB.out.2.1.size)
        have hXw := HX.out.size
        have R : Shut (∀ u0 u1, Below w.heap.size w ((W4.setCell ⟨X.heap.size, 0, none⟩ u0).setCell ⟨X.heap.size, 1, none⟩ u1)) := ⟨fun u0 u1 => (hwz.setCell (p := ⟨X.heap.size, 0, none⟩) hXw _).setCell (p := ⟨X.heap.size, 1, none⟩) hXw _⟩
        clear hPut hdk' hs1 hs2 hb4 hdb4 hwz t0 t1 t2 t3 t4 t5 t6 t7 t8 t9 t10 t11 t12 d0 d1
        go_wp2
        go_ret
        exact ⟨rfl, R.out _ _⟩
       case inl =>
        have hPut := put_ok hdk2 hok x.r x.da x.dc x.ca x.cc hxa.2.2 hxa.2.1.1 hc1 hc2 z0 hLN2
        rw [List.nil_append] at hPut
        simp only [rcV] at hPut
        have hle := (HDX.out.2.2.2.2 z0).2
        simp only [List.nil_append, List.length_append, List.length_singleton] at hle
        have HZ := Shut.mk (And.intro hok hle)
        clear hdk2 hc1 hc2 hLN2 hok hrg hxa z0 hle
        go_wp2_with fail
        refine hPut.mono ?_
        rintro e W4 ⟨⟨sa', n', sc', wa', m', wc', rfl, hdk', hs1, hs2⟩, hb4⟩
        have hdb4 := blkB HB.out.2.2 hb4
        have f0 := frzB hdb4 0
        have f1 := frzB hdb4 1
        have hcc0 : W4.cell? ⟨X.heap.size, 0, none⟩ = some (.slice sa ns sc) := cellB hdb4 0 _ rfl
        have hcc1 : W4.cell? ⟨X.heap.size, 1, none⟩ = some (.slice wa 0 wc) := cellB hdb4 1 _ rfl
        clear hPut t0 t1 t2 t3 t4 t5 t6 t7 t8 t9 t10 t11 t12 d0 d1
        go_upto_region 20 with fail
        obtain ⟨W9, hW9, hb9, hk9, hB9⟩ := box2 W4 X.heap.size 43 _ _ (.slice sa' n' sc') (.slice wa' m' wc') hdb4
        rw [hW9]
        have hdk9 := hdk'.farB (g := X.heap.size) hdl hs1 hs2 hk9
        have hX9 : Below X.heap.size X W9 := hB9 _ _ (Nat.le_refl _) (HB.out.1.trans (hb4.mono HB.out.1.size))
        have hw9 : Below w.heap.size w W9 := hB9 _ _ HX.out.size (HB.out.2.1.trans (hb4.mono HB.out.2.1.size))
        have hSy := sync_ok hdk9 (show DkOk S (x.r.text ++ [10]) from ⟨by simp only [List.length_append, List.length_singleton]; have := HZ.out.2; omega, HZ.out.1.2⟩) (HDX.out.2.2.2.1 (by have := HZ.out.2; omega)) (H.out.2.2.2.2.1.below hw9)
        have g0 : W9.cell? ⟨X.heap.size, 0, none⟩ = some (.slice sa' n' sc') := cellB hb9 0 _ rfl
        have g1 : W9.cell? ⟨X.heap.size, 1, none⟩ = some (.slice wa' m' wc') := cellB hb9 1 _ rfl
        have hdl9 : X.heap.size < W9.heap.size := (Array.getElem?_eq_some_iff.1 hb9).1
        have HY := Shut.mk (And.intro hX9 hb9)
        clear hW9 hdk' hs1 hs2 hb4 hdb4 hk9 hB9 hdk9 hX9 hw9 f0 f1 hcc0 hcc1
        go_wp2_with fail
        refine hSy.mono ?_
        rintro e W6 ⟨⟨sb, nb, sbc, wb', mb', wbc, rfl, hdk6, hs3, hs4⟩, hb6⟩
        obtain rfl : mb' = 0 := by have := hdk6.hm; simpa using this.symm
        have hdb6 := blkB HY.out.2 hb6
        have f0 := frzB hdb6 0
        have f1 := frzB hdb6 1
        have hcc0 : W6.cell? ⟨X.heap.size, 0, none⟩ = some (.slice sa' n' sc') := cellB hdb6 0 _ rfl
        have hcc1 : W6.cell? ⟨X.heap.size, 1, none⟩ = some (.slice wa' m' wc') := cellB hdb6 1 _ rfl
        clear hSy g0 g1
        go_upto_region 23 with fail
        obtain ⟨W7, hW7, hb7, hk7, hB7⟩ := box2 W6 X.heap.size 43 _ _ (.slice sb nb sbc) (.slice wb' 0 wbc) hdb6
        rw [hW7]
        have R : Shut (∃ sa ns sc wa wc, PaD X W7 X.heap.size (linesT ((ml.map MRec.r).take (q + 1))) sa ns sc wa wc) := ⟨sb, nb, sbc, wb', wbc, by
         rw [HDX.out.2.2.1]
         exact ⟨hB7 _ _ (Nat.le_refl _) (HY.out.1.trans (hb6.mono HY.out.1.size)), hb7, hdk6.farB (g := X.heap.size) hdl9 hs3 hs4 hk7, by simp only [List.length_append, List.length_singleton]; have := HZ.out.2; omega⟩⟩
        clear hW7 hb7 hk7 hB7 hdk6 hs3 hs4 hb6 hdb6 f0 f1 hcc0 hcc1
        go_wp2
        go_roundw
        case rel => exact ⟨q + 1, by omega, rfl, by go_num, R⟩
        case measure => simp [intOf]; omega
      ·obtain rfl : q = n := by omega
       obtain ⟨sa, ns, sc, wa, wc, hD⟩ := HI.out
       rw [List.take_of_length_le (by rw [List.length_map, H.out.2.2.1]; exact Nat.le_refl _)] at hD
       have hbv := HX.out.trans (hD.below.mono HX.out.size)
       have hok : DkOk (linesT (ml.map MRec.r)) [] := DkOk.log HP.out.2.2.2 (by rw [List.length_map, H.out.2.2.1]; exact hlen) (by simpa using hD.small)
       have hRc := recov_ok hD.dk hok (H.out.2.2.2.2.1.below hbv)
       rw [List.append_nil, linesL_log _ HP.out.2.2.2 (by rw [List.length_map, H.out.2.2.1]; exact hlen)] at hRc
       have d0 : wr.cell? ⟨X.heap.size, 0, none⟩ = some (.slice sa ns sc) := cellB hD.box 0 _ rfl
       have d1 : wr.cell? ⟨X.heap.size, 1, none⟩ = some (.slice wa 0 wc) := cellB hD.box 1 _ rfl
       have HB := Shut.mk (And.intro hD.below hbv)
       clear HI hD hbv hok
       go_wp2_with fail
       refine hRc.mono ?_
       rintro e W6 ⟨⟨LR, lq, pr, cr, sr, nr, scr, rfl, e1, e2, e3, e4, e5, e6, e7, e8⟩, hb6⟩
       have hlq : lq = q := by rw [← e1, ← List.length_map (f := MRec.r), e3, List.length_map, H.out.2.2.1]
       subst hlq
       clear hRc d0 d1
       go_upto_region 27 with fail
       obtain ⟨W7, hW7⟩ : ∃ W7, W6.alloc (.cells #[.slice sr nr scr, .slice none 0 0] 43) = W7 := ⟨_, rfl⟩
       rw [hW7]
       have hb7 : Below W6.heap.size W6 W7 := by rw [← hW7]; exact (Below.refl _ _).alloc (Nat.le_refl _) _
       have hX7 : Below X.heap.size X W7 := HB.out.1.trans ((hb6.trans (hb7.mono hb6.size)).mono HB.out.1.size)
       have hw7 : Below w.heap.size w W7 := HX.out.trans (hX7.mono HX.out.size)
       have hokP := repl_ok HP.out.1 HP.out.2.1 lq
       rw [List.take_of_length_le (by rw [List.length_map, H.out.2.2.1]; exact Nat.le_refl _), ← HP.out.2.2.1] at hokP
       have hpX := (Array.getElem?_eq_some_iff.1 HJ.out.box).1
       have hbx9 := blkB HJ.out.box hX7
       have hbx7 := blkB (blkB HW.out.2.1 HJ.out.below) hX7
       rw [H.out.2.2.2.2.2.2.2.1] at hbx9
       have s9 := (HJ.out.pl.below hX7).same hokP
       have s7 := (((HW.out.2.2).below HJ.out.below).below hX7).same hokP
       rw [H.out.2.2.2.2.2.2.2.1] at s9 s7
       have hSm := keepSame_any P P L4 L1 p4 p1 n0 n0 c4 c1 W7 s9 s7
       obtain ⟨u0, u1, u2, u3⟩ := plBox hbx9
       obtain ⟨v0, v1, v2, v3⟩ := plBox hbx7
       have HE := Shut.mk (And.intro hw7 (And.intro (e5.below hb7 (Nat.le_refl _)) (And.intro (fun y hy => (e6 y hy).1.below hb7) (And.intro e1 e3))))
       clear hW7 hb7 hX7 hw7 hokP hpX hbx9 hbx7 s9 s7 e1 e2 e3 e4 e5 e6 e7 e8 hb6
       go_wp2_with fail
       refine hSm.mono ?_
       rintro e W8 ⟨zz, rfl, hzz⟩
       obtain rfl : zz = true := hzz.out.1.2 (by first | trivial | rfl)
       have hb8 := hzz.out.2
       have hw8 := HE.out.1.trans (hb8.mono HE.out.1.size)
       have hEq := equalNk pr pa cr pc lq LR ml W8 HE.out.2.2.2.1 H.out.2.2.1 (by omega) (HE.out.2.1.below hb8 (Nat.le_refl _)) (H.out.1.below hw8 (Nat.le_refl _)) (fun y hy => ⟨(HE.out.2.2.1 y hy).below hb8, short_ofK (C := ml.map MRec.r) (by rw [← HE.out.2.2.2.2]; exact List.mem_map.2 ⟨y, hy, rfl⟩) HP.out.2.2.2⟩) (fun y hy => ⟨(H.out.2.1 y hy).1.below hw8, (H.out.2.1 y hy).2.1⟩) HE.out.2.2.2.2
       have HF := Shut.mk hw8
       clear hSm hzz hb8 hw8 u0 u1 u2 u3 v0 v1 v2 v3
       go_wp2_with fail
       refine hEq.mono ?_
       rintro e W9 ⟨rfl, hb9⟩
       have R := Shut.mk (HF.out.trans (hb9.mono HF.out.size))
       clear hEq hb9
       go_wp2
       go_ret
       exact ⟨rfl, R.out⟩

end Go.Proofs.YtakkajjoeimkdaaGreatDoor

namespace Go.Proofs.YtakkajjoeimkdaaGreatDoor
open Go.ChangeShapes Go.WideShapes Go.ChangeAt Go.RowKit
set_option linter.unusedVariables false
set_option linter.unusedSimpArgs false

section
variable {H : Type} {enc : TypeId × Value → H} {P : Program} {w : World} {held : Bool}

theorem u8_of_wf {n : Int} (h : (Lit.int .u8 n).wf = true) : 0 ≤ n ∧ n < 256 := by
 have : 0 ≤ n ∧ n ≤ 255 := by simpa [Lit.wf, IntKind.min, IntKind.max, IntKind.signed, IntKind.bits] using h
 omega

theorem lies_addr {a : Addr} {k : Nat} {u u0 : Value} (h0 : w.cell? (a.add 0) = some u0) (hk : w.cell? (a.add k) = some u) : ∃ b off, some a = some (⟨b, off, none⟩ : Addr) ∧ w.cell? ⟨b, off + k, none⟩ = some u := by
 obtain ⟨b, off, spot⟩ := a
 have hspot : spot = none := by simpa [Addr.add] using World.cell?_spot h0
 subst hspot
 exact ⟨b, off, rfl, by simpa [Addr.add_lit] using hk⟩

end

section
variable {H : Type} {enc : TypeId × Value → H} {P : Program} {w : World} {held : Bool}

def dlen : DataW H → Nat
 | .slice el _ => el.length
 | _ => 0

theorem i64_of_wf {n : Int} (h : (Lit.int .i64 n).wf = true) : I64 n := by
 have : -9223372036854775808 ≤ n ∧ n ≤ 9223372036854775807 := by simpa [Lit.wf, IntKind.min, IntKind.max, IntKind.signed, IntKind.bits] using h
 exact this

theorem open_bytes2 {t e : TypeId} {fuel : Nat} {v : Value} {x : DataW H × List MemPlace} (ht : P.underlying t = some (.slice e)) (he : P.underlying e = some (.int .u8)) (hc : P.cellsOf e = 1)
  (h : DataW.trod enc P w 0 (fun _ => true) held fuel t [v] = some x) : ∃ a cap l, v = .slice a l.length cap ∧ Lies w a (bs l) ∧ l.length ≤ maxLen ∧ l.length ≤ cap ∧ dlen x.1 = l.length := by
 rcases open_ints ht he hc h with ⟨hcs, rfl⟩ | ⟨a, len, cap, zs, hcs, _, hl, hm, hz, rfl, hcell, hwz⟩
 ·simp at hcs
  subst hcs
  exact ⟨none, 0, [], rfl, Lies.nil _ _, by simp, by simp, rfl⟩
 ·simp at hcs hz
  subst hcs
  refine ⟨some a, cap, (zs.take len).map fun z => UInt8.ofNat z.toNat, ?_, ?_, ?_, ?_, ?_⟩
  ·simp; omega
  ·intro k u hu
   have hk : k < len := by
    obtain ⟨hk, _⟩ := List.getElem?_eq_some_iff.1 hu
    simp [bs] at hk
    omega
   have hkz : k < zs.length := by omega
   have hcl := hcell k hkz
   have hwf := u8_of_wf (hwz zs[k] (by simp))
   have hu' : u = .int .u8 (zs[k]) := by
    simp [bs, hk, hkz] at hu
    rw [← hu]
    congr 1
    omega
   subst hu'
   have e2 : zs.getD k 0 = zs[k] := by simp [List.getD, hkz]
   rw [e2] at hcl
   exact lies_addr (hcell 0 (by omega)) hcl
  ·simp; omega
  ·simp; omega
  ·simp [dlen, lits]

end
end Go.Proofs.YtakkajjoeimkdaaGreatDoor

namespace Go.Proofs.YtakkajjoeimkdaaGreatDoor
open Go.ChangeShapes Go.WideShapes Go.ChangeAt Go.RowKit
set_option linter.unusedVariables false

section
variable {H : Type} {enc : TypeId × Value → H} {P : Program} {w : World} {held : Bool}

end
end Go.Proofs.YtakkajjoeimkdaaGreatDoor

namespace Go.Proofs.YtakkajjoeimkdaaGreatDoor
open Go.ChangeShapes Go.WideShapes Go.ChangeAt Go.RowKit
set_option linter.unusedVariables false
set_option linter.unusedSimpArgs false

theorem cInt1 : Tryz.prog.cellsOf 3 = 1 := by kernel_rfl
theorem cBlk1 : Tryz.prog.cellsOf 36 = 1 := by kernel_rfl
theorem cByt1 : Tryz.prog.cellsOf 35 = 1 := by kernel_rfl
theorem cU81 : Tryz.prog.cellsOf 5 = 1 := by kernel_rfl
theorem cPlan2 : Tryz.prog.cellsOf 32 = 2 := by kernel_rfl
theorem cSym2 : Tryz.prog.cellsOf 38 = 2 := by kernel_rfl
theorem cHead6 : Tryz.prog.cellsOf 34 = 6 := by kernel_rfl
theorem cRec13 : Tryz.prog.cellsOf 40 = 13 := by kernel_rfl

section
variable {H : Type} {enc : TypeId × Value → H} {w : World} {held : Bool}

theorem one_int {n : Nat} {c : Value} {y : DataW H × List MemPlace} (h : DataW.trod enc Tryz.prog w 0 (fun _ => true) held n 3 [c] = some y) : ∃ a : Int, c = .int .i64 a ∧ I64 a := by
 obtain ⟨a, e, _, wa⟩ := DataW.trod_int Tryz.underlying3 h
 simp at e
 exact ⟨a, e, i64_of_wf wa⟩

end
end Go.Proofs.YtakkajjoeimkdaaGreatDoor

namespace Go.Proofs.YtakkajjoeimkdaaGreatDoor
open Go.ChangeShapes Go.WideShapes Go.ChangeAt Go.RowKit
set_option linter.unusedVariables false

section
variable {H : Type} {enc : TypeId × Value → H} {w : World} {held : Bool}

set_option maxRecDepth 8000 in
theorem trod_rec {fuel : Nat} {c0 c1 c2 c3 c4 c5 c6 c7 c8 c9 c10 c11 c12 : Value} {y : DataW H × List MemPlace} (hf : DataW.trod enc Tryz.prog w 0 (fun _ => true) held fuel 40 [c0, c1, c2, c3, c4, c5, c6, c7, c8, c9, c10, c11, c12] = some y) :
  ∃ m : MRec, [c0, c1, c2, c3, c4, c5, c6, c7, c8, c9, c10, c11, c12] = m.cells ∧ RecIn w m ∧ RecShort m ∧ m.r.ints := by
 obtain ⟨xs, n, _, _, _, hlen, hg⟩ := DataW.trod_struct Tryz.underlying40 hf
 match xs, hlen with
 | [y0, y1, y2, y3, y4, y5, y6], _ =>
  have g0 := hg 0 _ rfl
  have g1 := hg 1 _ rfl
  have g2 := hg 2 _ rfl
  have g3 := hg 3 _ rfl
  have g4 := hg 4 _ rfl
  have g5 := hg 5 _ rfl
  have g6 := hg 6 _ rfl
  simp [cInt1, cHead6, cSym2, cByt1] at g0 g1 g2 g3 g4 g5 g6
  obtain ⟨k, rfl, ik⟩ := one_int g0
  obtain ⟨pl, rfl, ip⟩ := one_int g1
  obtain ⟨nn, rfl, inn⟩ := one_int g2
  obtain ⟨ty, rfl, iy⟩ := one_int g3
  obtain ⟨hs, n4, _, _, _, hl4, hg4⟩ := DataW.trod_struct Tryz.underlying34 g4
  match hs, hl4 with
  | [z0, z1, z2, z3, z4], _ =>
   have e0 := hg4 0 _ rfl
   have e1 := hg4 1 _ rfl
   have e2 := hg4 2 _ rfl
   have e3 := hg4 3 _ rfl
   have e4 := hg4 4 _ rfl
   simp [cInt1, cPlan2] at e0 e1 e2 e3 e4
   obtain ⟨F, rfl, iF⟩ := one_int e0
   obtain ⟨Q, rfl, iQ⟩ := one_int e1
   obtain ⟨T, rfl, iT⟩ := one_int e2
   obtain ⟨L, rfl, iL⟩ := one_int e3
   obtain ⟨ps, n5, _, _, _, hl5, hg5⟩ := DataW.trod_struct Tryz.underlying32 e4
   match ps, hl5 with
   | [u0, u1], _ =>
    have a0 := hg5 0 _ rfl
    have a1 := hg5 1 _ rfl
    simp [cInt1] at a0 a1
    obtain ⟨B, rfl, iB⟩ := one_int a0
    obtain ⟨K, rfl, iK⟩ := one_int a1
    obtain ⟨ss, n6, _, _, _, hl6, hg6⟩ := DataW.trod_struct Tryz.underlying38 g5
    match ss, hl6 with
    | [s0, s1], _ =>
     have b0 := hg6 0 _ rfl
     have b1 := hg6 1 _ rfl
     simp [cInt1, cBlk1] at b0 b1
     obtain ⟨id, rfl, iid⟩ := one_int b0
     obtain ⟨da, dc, dl, rfl, h1, h2, _, _⟩ := open_bytes2 Tryz.underlying36 Tryz.underlying5 cU81 b1
     obtain ⟨ca, cc, cl, rfl, h3, h4, _, _⟩ := open_bytes2 Tryz.underlying35 Tryz.underlying5 cU81 g6
     exact ⟨⟨⟨k, pl, nn, ty, ⟨F, Q, T, L, B, K⟩, id, dl, cl⟩, da, dc, ca, cc⟩, rfl, ⟨h1, h3⟩, ⟨h2, h4⟩, ik, ip, inn, iy, ⟨iF, iQ, iT, iL, iB, iK⟩, iid⟩

theorem cells13 {base : Nat} {a : Addr} {cs : List Value} (h : w.cells? base a 13 = some cs) : ∃ c0 c1 c2 c3 c4 c5 c6 c7 c8 c9 c10 c11 c12, cs = [c0, c1, c2, c3, c4, c5, c6, c7, c8, c9, c10, c11, c12] ∧ ∀ j v, cs[j]? = some v → w.cell? (a.add j) = some v := by
 obtain ⟨_, hlen, hc⟩ := World.cells?_some h
 have hc' : ∀ j v, cs[j]? = some v → w.cell? (a.add j) = some v := by
  intro j v hj
  have hlt := (List.getElem?_eq_some_iff.1 hj).1
  rw [hc j (by omega)]
  exact hj
 match cs, hlen, hc' with
 | [c0, c1, c2, c3, c4, c5, c6, c7, c8, c9, c10, c11, c12], _, hc' => exact ⟨c0, c1, c2, c3, c4, c5, c6, c7, c8, c9, c10, c11, c12, rfl, hc'⟩

theorem open_recs {fuel : Nat} {v : Value} {x : DataW H × List MemPlace} (h : DataW.trod enc Tryz.prog w 0 (fun _ => true) held fuel 22 [v] = some x) :
  ∃ (a : Option Addr) (cap : Nat) (l : List MRec), v = .slice a l.length cap ∧ Lies w a (recCells l) ∧ (∀ y ∈ l, RecIn w y ∧ RecShort y ∧ y.r.ints) ∧ l.length ≤ maxLen ∧ l.length ≤ cap := by
 rcases Go.Deep.open_slice Tryz.underlying22 h with ⟨hcs, hx⟩ | ⟨a, len, cap, m, n, D, Pl, hcs, _, hl, hm, hmm, hx, hcell⟩
 ·simp at hcs
  subst hcs
  exact ⟨none, 0, [], rfl, Lies.nil _ _, (fun r hr => by cases hr), by simp, by simp⟩
 ·simp at hcs hmm
  subst hcs hmm
  rw [cRec13] at hcell
  have hb' : ∀ i, i < m → ∃ y : MRec, (∀ j u, y.cells[j]? = some u → w.cell? ((a.add (i * 13)).add j) = some u) ∧ RecIn w y ∧ RecShort y ∧ y.r.ints := fun i hi => by
   obtain ⟨cs', e1, e2⟩ := hcell i hi
   obtain ⟨c0, c1, c2, c3, c4, c5, c6, c7, c8, c9, c10, c11, c12, rfl, hc⟩ := cells13 e1
   obtain ⟨y, ey, h1, h2, h3⟩ := trod_rec e2
   refine ⟨y, ?_, h1, h2, h3⟩
   rw [← ey]
   exact hc
  have : Inhabited MRec := ⟨⟨rc0, none, 0, none, 0⟩⟩
  obtain ⟨B, hB⟩ := Go.Deep.choose_lt hb'
  refine ⟨some a, m, (List.range len).map B, by simp, ?_, ?_, by simp; omega, by simp; omega⟩
  ·intro k u hu
   have hk : k < 13 * len := by
    obtain ⟨hk, _⟩ := List.getElem?_eq_some_iff.1 hu
    rw [recCells_length] at hk
    simpa using hk
   have hkl : k / 13 < len := by omega
   have hrow : ((List.range len).map B)[k / 13]? = some (B (k / 13)) := by simp [hkl]
   obtain ⟨c, hc⟩ : ∃ c, (B (k / 13)).cells[k % 13]? = some c := ⟨_, List.getElem?_eq_getElem (by show k % 13 < 13; omega)⟩
   have h1 := recCells_at _ (k / 13) (k % 13) _ c hrow hc
   rw [show 13 * (k / 13) + k % 13 = k by omega, hu] at h1
   obtain rfl := Option.some.inj h1
   have h2 := (hB (k / 13) (by omega)).1 _ _ hc
   have h0 := (hB 0 (by omega)).1 0 _ rfl
   rw [Go.Deep.add_add] at h2 h0
   rw [show k / 13 * 13 + k % 13 = k by omega] at h2
   exact lies_addr (by simpa using h0) h2
  ·intro r hr
   obtain ⟨i, hi, rfl⟩ := List.mem_map.1 hr
   exact (hB i (by simp at hi; omega)).2
end
end Go.Proofs.YtakkajjoeimkdaaGreatDoor
