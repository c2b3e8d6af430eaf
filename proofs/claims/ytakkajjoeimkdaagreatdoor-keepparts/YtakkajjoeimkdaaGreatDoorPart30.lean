import Derived.Test.YtakkajjoeimkdaaGreatDoorPart29
import Derived.Test.YtakkajjoeimkdaaGreatDoorPart18
import Derived.Test.YtakkajjoeimkdaaGreatDoorPart9
import Derived.Test.YtakkajjoeimkdaaGreatDoorPart3
namespace Go.Proofs.YtakkajjoeimkdaaGreatDoor
open Go.RowKit
set_option linter.unusedVariables false
set_option linter.unusedSimpArgs false
attribute [local go_sem ↓] Go.wp_at_zero Go.wp_at_succ

def NextR (w : World) (P : Pl) (r : Rc) (e : Ending) (w' : World) : Prop :=
 ∃ (L : List MKp) (p : Option Addr) (cp : Nat), e = .returned (.tuple #[.agg #[.int .i64 (P.next r).me, .slice p (P.next r).kp.length cp, .int .i64 (P.next r).tm, .int .i64 (P.next r).sq], .int .i64 (P.nextCode r)]) ∧ Shut (PlNew w.heap.size w' (P.next r).kp L p cp ∧ Below w.heap.size w w')

theorem NextR.bad {w w' : World} {P : Pl} {r : Rc} {z : Int} (hz : P.nextCode r = z) (hne : z ≠ 0) (hb : Below w.heap.size w w') : NextR w P r (.returned (.tuple #[.agg #[.int .i64 0, .slice none 0 0, .int .i64 0, .int .i64 0], .int .i64 z])) w' := by
 have e : P.next r = pl0 := next_bad (by rw [hz]; exact hne)
 refine ⟨[], none, 0, ?_, ?_⟩
 ·rw [e, hz]; rfl
 ·rw [e]; exact ⟨PlNew.none _ _, hb⟩

set_option maxHeartbeats 8000000 in
set_option maxRecDepth 8000 in
theorem placeNext_any (P : Pl) (pa : Option Addr) (pc : Nat) (l : List MKp) (r : Rc) (da : Option Addr) (dc : Nat) (ca : Option Addr) (cc : Nat) (w : World) (hl : Lies w pa (kpCells l)) (hall : ∀ m ∈ l, KpGood w m) (hlm : l.length ≤ maxLen) (hlc : l.length ≤ pc) (hs : l.map MKp.k = P.kp) (hi : r.ints) (hd : r.d.length ≤ maxLen) (hda : Lies w da (bs r.d)) (hca : Lies w ca (bs r.c)) (hL : Laid w) :
  Calls Tryz.prog 12 #[.agg #[.int .i64 P.me, .slice pa l.length pc, .int .i64 P.tm, .int .i64 P.sq], rcV r da dc ca cc] w (NextR w P r) := by
 obtain ⟨n, hn⟩ : ∃ n, l.length = n := ⟨_, rfl⟩
 obtain ⟨W, hW⟩ : ∃ W, ((w.alloc (.cells #[.int .i64 P.me, .slice pa n pc, .int .i64 P.tm, .int .i64 P.sq] 25)).alloc (.cells #[.int .i64 r.k, .int .i64 r.p, .int .i64 r.n, .int .i64 r.y, .int .i64 r.h.F, .int .i64 r.h.Q, .int .i64 r.h.T, .int .i64 r.h.L, .int .i64 r.h.B, .int .i64 r.h.K, .int .i64 r.id, .slice da r.d.length dc, .slice ca r.c.length cc] 40)).alloc (.cells #[.int .i64 0, .slice none 0 0, .int .i64 0, .int .i64 0] 25) = W := ⟨_, rfl⟩
 have hb : Below w.heap.size w W := by rw [← hW]; exact (((Below.refl _ _).alloc (Nat.le_refl _) _).alloc (by simp) _).alloc (by simp; omega) _
 have hp : W.heap[w.heap.size]? = some (.cells #[.int .i64 P.me, .slice pa n pc, .int .i64 P.tm, .int .i64 P.sq] 25 (0, 0)) := by rw [← hW, heap_alloc_eq, if_neg (by simp; omega), heap_alloc_eq, if_neg (by simp), heap_alloc_eq, if_pos rfl]
 have hk : W.heap[w.heap.size + 1]? = some (.cells #[.int .i64 r.k, .int .i64 r.p, .int .i64 r.n, .int .i64 r.y, .int .i64 r.h.F, .int .i64 r.h.Q, .int .i64 r.h.T, .int .i64 r.h.L, .int .i64 r.h.B, .int .i64 r.h.K, .int .i64 r.id, .slice da r.d.length dc, .slice ca r.c.length cc] 40 (0, 0)) := by rw [← hW, heap_alloc_eq, if_neg (by simp), heap_alloc_eq, if_pos (by simp)]
 have hz : W.heap[w.heap.size + 2]? = some (.cells #[.int .i64 0, .slice none 0 0, .int .i64 0, .int .i64 0] 25 (0, 0)) := by rw [← hW, heap_alloc_eq, if_pos (by simp)]
 have hCk := check_place P.me P.tm P.sq pa pc l W (hl.below hb (Nat.le_refl _)) (fun m hm => (hall m hm).below hb) hlm hlc
 have hPe : (⟨P.me, l.map MKp.k, P.tm, P.sq⟩ : Pl) = P := by rw [hs]
 rw [hPe, hn] at hCk
 rw [hn]
 obtain ⟨b0, b1, b2, b3⟩ := plBox hp
 obtain ⟨a0, a1, a2, a3, a4, a5, a6, a7, a8, a9, a10, a11, a12⟩ := rcBox hk
 have HW := Shut.mk hW
 have H := Shut.mk (And.intro hb (And.intro hp (And.intro hk (And.intro hz (And.intro hl (And.intro hall (And.intro hn (And.intro hs (And.intro hi (And.intro hd (And.intro hda (And.intro hca hL))))))))))))
 obtain ⟨z1, hz1⟩ : ∃ z1, P.code = z1 := ⟨_, rfl⟩
 rw [hz1] at hCk
 have HZ1 := Shut.mk hz1
 clear hW hp hk hz hl hall hn hs hi hd hda hca hL hlm hlc hPe hz1
 have hbW := hb
 clear hb
 unfold rcV
 go_enter Tryz.func12, Tryz.ntmps12
 go_upto_region 1 with fail
 rw [HW.out]
 clear HW
 go_wp2_with fail
 refine hCk.mono ?_
 rintro e W1 ⟨rfl, hb1⟩
 have hbw1 := hbW.trans (hb1.mono hbW.size)
 have hp1 := blkB H.out.2.1 hb1
 have hk1 := blkB H.out.2.2.1 hb1
 have hr1 := blkB H.out.2.2.2.1 hb1
 clear hCk b0 b1 b2 b3 a0 a1 a2 a3 a4 a5 a6 a7 a8 a9 a10 a11 a12 hb1 hbW
 obtain ⟨g0, g1, g2, g3⟩ := plBox hr1
 have f0 := frzB hr1 0
 have f1 := frzB hr1 1
 have f2 := frzB hr1 2
 have f3 := frzB hr1 3
 rcases eqDec z1 0 with ⟨y1, y2, y3, y4⟩ | ⟨y1, y2, y3, y4⟩
 case inr =>
  have HC := Shut.mk (show P.nextCode r = z1 from by unfold Pl.nextCode; rw [if_pos (by rw [HZ1.out]; exact y1), HZ1.out])
  have HY := Shut.mk y1
  clear y1
  go_wp2
  obtain ⟨W9, hW9, hb9, hk9, hB9⟩ := box4 W1 (w.heap.size + 2) 25 _ _ _ _ (.int .i64 0) (.slice none 0 0) (.int .i64 0) (.int .i64 0) hr1
  rw [hW9]
  have R : Shut (NextR w P r (.returned (.tuple #[.agg #[.int .i64 0, .slice none 0 0, .int .i64 0, .int .i64 0], .int .i64 z1])) W9) := ⟨NextR.bad HC.out HY.out (hB9 _ _ (by omega) hbw1)⟩
  clear hW9 hk9 hB9 g0 g1 g2 g3 f0 f1 f2 f3 hr1
  obtain ⟨g0, g1, g2, g3⟩ := plBox hb9
  refine bodyPost_ret (v := .tuple #[.agg #[.int .i64 0, .slice none 0 0, .int .i64 0, .int .i64 0], .int .i64 z1]) (by simp [results, Tryz.results12, go_sem, g0, g1, g2, g3]) rfl ?_
  exact R.out
 case inl =>
  subst y1
  have hOk := code_zero.1 HZ1.out
  have hNc := noteCheck_any r da dc ca cc W1 H.out.2.2.2.2.2.2.2.2.1 H.out.2.2.2.2.2.2.2.2.2.1
  simp only [rcV] at hNc
  obtain ⟨z2, hz2⟩ : ∃ z2, r.code = z2 := ⟨_, rfl⟩
  rw [hz2] at hNc
  have HZ2 := Shut.mk hz2
  obtain ⟨a0, a1, a2, a3, a4, a5, a6, a7, a8, a9, a10, a11, a12⟩ := rcBox hk1
  clear hz2 g0 g1 g2 g3 f0 f1 f2 f3
  go_wp2_with fail
  refine hNc.mono ?_
  rintro e W2 ⟨rfl, hb2⟩
  have hbw2 := hbw1.trans (hb2.mono hbw1.size)
  have hp2 := blkB hp1 hb2
  have hk2 := blkB hk1 hb2
  have hr2 := blkB hr1 hb2
  clear hNc a0 a1 a2 a3 a4 a5 a6 a7 a8 a9 a10 a11 a12 hb2 hbw1 hp1 hk1 hr1
  rcases eqDec z2 0 with ⟨x1, x2, x3, x4⟩ | ⟨x1, x2, x3, x4⟩
  case inr =>
   have HC := Shut.mk (show P.nextCode r = z2 from by unfold Pl.nextCode; rw [if_neg (fun e => e HZ1.out), if_pos (by rw [HZ2.out]; exact x1), HZ2.out])
   have HY := Shut.mk x1
   clear x1
   obtain ⟨g0, g1, g2, g3⟩ := plBox hr2
   have f0 := frzB hr2 0
   have f1 := frzB hr2 1
   have f2 := frzB hr2 2
   have f3 := frzB hr2 3
   go_wp2
   obtain ⟨W9, hW9, hb9, hk9, hB9⟩ := box4 W2 (w.heap.size + 2) 25 _ _ _ _ (.int .i64 0) (.slice none 0 0) (.int .i64 0) (.int .i64 0) hr2
   rw [hW9]
   have R : Shut (NextR w P r (.returned (.tuple #[.agg #[.int .i64 0, .slice none 0 0, .int .i64 0, .int .i64 0], .int .i64 z2])) W9) := ⟨NextR.bad HC.out HY.out (hB9 _ _ (by omega) hbw2)⟩
   clear hW9 hk9 hB9 g0 g1 g2 g3 f0 f1 f2 f3 hr2
   obtain ⟨g0, g1, g2, g3⟩ := plBox hb9
   refine bodyPost_ret (v := .tuple #[.agg #[.int .i64 0, .slice none 0 0, .int .i64 0, .int .i64 0], .int .i64 z2]) (by simp [results, Tryz.results12, go_sem, g0, g1, g2, g3]) rfl ?_
   exact R.out
  case inl =>
   subst x1
   have hsm : ∀ m ∈ l, KpIn W2 m ∧ m.k.small := fun m hm => ⟨((H.out.2.2.2.2.2.1 m hm).below hbw2).inn, by
    have hmem : m.k ∈ P.kp := by rw [← H.out.2.2.2.2.2.2.2.1]; exact List.mem_map.2 ⟨m, hm, rfl⟩
    exact (kcode_zero.1 (hOk.all _ hmem)).small⟩
   have hln : n ≤ 12 := by have := hOk.few; rw [← H.out.2.2.2.2.2.2.2.1, List.length_map, H.out.2.2.2.2.2.2.1] at this; exact this
   have hCp := placeCopy_any P.me P.tm P.sq pa pc l W2 (H.out.2.2.2.2.1.below hbw2 (Nat.le_refl _)) hsm (by rw [H.out.2.2.2.2.2.2.1]; omega)
   rw [H.out.2.2.2.2.2.2.1, H.out.2.2.2.2.2.2.2.1] at hCp
   obtain ⟨b0, b1, b2, b3⟩ := plBox hp2
   clear hsm
   go_wp2_with fail
   refine hCp.mono ?_
   rintro e W3 ⟨L3, p3, c3, rfl, H3⟩
   have hbw3 := hbw2.trans (H3.out.2.mono hbw2.size)
   have hk3 := blkB hk2 H3.out.2
   have hr3 := blkB hr2 H3.out.2
   have hr2' := hr2
   clear hCp b0 b1 b2 b3 hp2 hk2 hr2
   go_upto_region 8 with fail
   obtain ⟨V, hV⟩ : ∃ V, W3.alloc (.cells #[.int .i64 P.me, .slice p3 n c3, .int .i64 P.tm, .int .i64 P.sq] 25) = V := ⟨_, rfl⟩
   rw [hV]
   have hb4 : Below W3.heap.size W3 V := by rw [← hV]; exact (Below.refl _ _).alloc (Nat.le_refl _) _
   have hbx : V.heap[W3.heap.size]? = some (.cells #[.int .i64 P.me, .slice p3 n c3, .int .i64 P.tm, .int .i64 P.sq] 25 (0, 0)) := by rw [← hV, heap_alloc_eq, if_pos rfl]
   have hpn : P.kp.length = n := by rw [← H.out.2.2.2.2.2.2.2.1, List.length_map]; exact H.out.2.2.2.2.2.2.1
   have hPA : PlAt V W2.heap.size W3.heap.size P.me P.tm P.sq P.kp L3 p3 c3 := by
    have hpl := H3.out.1
    refine ⟨by rw [hpn]; exact hbx, hpl.below hb4, H3.out.2.size, fun g o e => by have := (hpl.own.lt g (by rw [e]; rfl)).2; omega, fun m hm => ?_⟩
    have h1 := (hpl.new m hm).1
    exact ⟨farM_old h1.inn (Nat.le_refl _), fun e => by have := (h1.grow_lt e).2; omega⟩
   have hbV := hbw3.trans (hb4.mono hbw3.size)
   have hDo := do_any W2.heap.size W3.heap.size P L3 p3 c3 r da dc ca cc V hPA hOk HZ2.out H.out.2.2.2.2.2.2.2.2.1 (fun u hu' => have hu := hu'.mono hbw2.size; ⟨H.out.2.2.2.2.2.2.2.2.2.2.1.below (hbV.trans hu) (Nat.le_refl _), H.out.2.2.2.2.2.2.2.2.2.2.2.1.below (hbV.trans hu) (Nat.le_refl _), H.out.2.2.2.2.2.2.2.2.2.2.2.2.below (hbV.trans hu)⟩)
   simp only [rcV] at hDo
   obtain ⟨a0, a1, a2, a3, a4, a5, a6, a7, a8, a9, a10, a11, a12⟩ := rcBox (blkB hk3 hb4)
   have hs2 : w.heap.size + 2 < W2.heap.size := (Array.getElem?_eq_some_iff.1 hr2').1
   have HV := Shut.mk (And.intro hbV (And.intro (blkB hr3 hb4) (And.intro hPA (And.intro hbw2.size hs2))))
   obtain ⟨z3, hz3⟩ : ∃ z3, (P.does r).1 = z3 := ⟨_, rfl⟩
   rw [hz3] at hDo
   have HC : Shut (P.nextCode r = z3 ∧ (P.does r).1 = z3) := ⟨by unfold Pl.nextCode; rw [if_neg (fun e => e HZ1.out), if_neg (fun e => e HZ2.out), hz3], hz3⟩
   clear hV hb4 hbx hPA hbV hk3 hr3 hbw3 hz3 hr2' hs2
   go_wp2_with fail
   refine hDo.mono ?_
   rintro e W5 ⟨rfl, HD⟩
   clear hDo a0 a1 a2 a3 a4 a5 a6 a7 a8 a9 a10 a11 a12
   have hb5 : Below w.heap.size w W5 := HV.out.1.trans (HD.out.1.mono HV.out.2.2.2.1)
   have hr5 : W5.heap[w.heap.size + 2]? = _ := (HD.out.1.block _ HV.out.2.2.2.2).trans HV.out.2.1
   obtain ⟨g0, g1, g2, g3⟩ := plBox hr5
   have f0 := frzB hr5 0
   have f1 := frzB hr5 1
   have f2 := frzB hr5 2
   have f3 := frzB hr5 3
   rcases eqDec z3 0 with ⟨y1, y2, y3, y4⟩ | ⟨y1, y2, y3, y4⟩
   case inr =>
    have HY := Shut.mk y1
    clear y1
    go_wp2
    obtain ⟨W9, hW9, hb9, hk9, hB9⟩ := box4 W5 (w.heap.size + 2) 25 _ _ _ _ (.int .i64 0) (.slice none 0 0) (.int .i64 0) (.int .i64 0) hr5
    rw [hW9]
    have R : Shut (NextR w P r (.returned (.tuple #[.agg #[.int .i64 0, .slice none 0 0, .int .i64 0, .int .i64 0], .int .i64 z3])) W9) := ⟨NextR.bad HC.out.1 HY.out (hB9 _ _ (by omega) hb5)⟩
    clear hW9 hk9 hB9 g0 g1 g2 g3 f0 f1 f2 f3 hr5 hb5
    obtain ⟨g0, g1, g2, g3⟩ := plBox hb9
    refine bodyPost_ret (v := .tuple #[.agg #[.int .i64 0, .slice none 0 0, .int .i64 0, .int .i64 0], .int .i64 z3]) (by simp [results, Tryz.results12, go_sem, g0, g1, g2, g3]) rfl ?_
    exact R.out
   case inl =>
    subst y1
    obtain ⟨L9, p9, c9, hP9⟩ := HD.out.2 rfl
    have hnx : P.next r = (P.does r).2 := (next_zero HC.out.1).2.2.2
    have HE := Shut.mk (And.intro hnx hP9)
    obtain ⟨d0, d1, d2, d3⟩ := plBox hP9.box
    obtain ⟨nn, hnn⟩ : ∃ nn, (P.does r).2.kp.length = nn := ⟨_, rfl⟩
    have HNN := Shut.mk hnn
    rw [hnn] at d1
    clear hnx hP9 hnn
    go_wp2
    obtain ⟨W9, hW9, hb9, hk9, hB9⟩ := box4 W5 (w.heap.size + 2) 25 _ _ _ _ (.int .i64 (P.does r).2.me) (.slice p9 nn c9) (.int .i64 (P.does r).2.tm) (.int .i64 (P.does r).2.sq) hr5
    rw [hW9]
    have R : Shut (NextR w P r (.returned (.tuple #[.agg #[.int .i64 (P.does r).2.me, .slice p9 nn c9, .int .i64 (P.does r).2.tm, .int .i64 (P.does r).2.sq], .int .i64 0])) W9) := by
     refine ⟨L9, p9, c9, ?_, ?_⟩
     ·rw [HE.out.1, HC.out.1, HNN.out]
     ·rw [HE.out.1]
      have hpl := HE.out.2.pl
      refine ⟨(hpl.off (b := w.heap.size + 2) (fun g o e => ?_) (fun m hm => ?_) hk9).low HV.out.2.2.2.1, hB9 _ _ (by omega) hb5⟩
      ·have h1 := (hpl.own.lt g (by rw [e]; rfl)).1
       have h2 := HV.out.2.2.2.2
       omega
      ·have h1 := (hpl.new m hm).1
       have h2 := HV.out.2.2.2.2
       exact ⟨farM_new h1 h2, fun e => by have := (h1.grow_lt e).1; omega⟩
    clear hW9 hk9 hB9 g0 g1 g2 g3 f0 f1 f2 f3 hr5 hb5 d0 d1 d2 d3
    obtain ⟨g0, g1, g2, g3⟩ := plBox hb9
    refine bodyPost_ret (v := .tuple #[.agg #[.int .i64 (P.does r).2.me, .slice p9 nn c9, .int .i64 (P.does r).2.tm, .int .i64 (P.does r).2.sq], .int .i64 0]) (by simp [results, Tryz.results12, go_sem, g0, g1, g2, g3]) rfl ?_
    exact R.out

set_option maxHeartbeats 4000000 in
set_option maxRecDepth 8000 in
theorem placeNew_any (me : Int) (w : World) :
  Calls Tryz.prog 30 #[.int .i64 me] w fun e w' => ∃ m' : Int, e = .returned (.tuple #[.agg #[.int .i64 m', .slice none 0 0, .int .i64 0, .int .i64 0], .int .i64 (newCode me)]) ∧ Shut ((newCode me = 0 → m' = me) ∧ (newCode me ≠ 0 → m' = 0) ∧ Below w.heap.size w w') := by
 obtain ⟨W, hW⟩ : ∃ W, (w.alloc (.cells #[.int .i64 0, .slice none 0 0, .int .i64 0, .int .i64 0] 25)).alloc (.cells #[.int .i64 me, .slice none 0 0, .int .i64 0, .int .i64 0] 25) = W := ⟨_, rfl⟩
 have hb : Below w.heap.size w W := by rw [← hW]; exact ((Below.refl _ _).alloc (Nat.le_refl _) _).alloc (by simp) _
 have hz : W.heap[w.heap.size]? = some (.cells #[.int .i64 0, .slice none 0 0, .int .i64 0, .int .i64 0] 25 (0, 0)) := by rw [← hW, heap_alloc_eq, if_neg (by simp), heap_alloc_eq, if_pos rfl]
 have hp : W.heap[w.heap.size + 1]? = some (.cells #[.int .i64 me, .slice none 0 0, .int .i64 0, .int .i64 0] 25 (0, 0)) := by rw [← hW, heap_alloc_eq, if_pos (by simp)]
 have hCk0 := check_place me 0 0 none 0 [] W (Lies.nil _ _) (fun m hm => (by cases hm)) (Nat.zero_le _) (Nat.le_refl _)
 have hCk : Calls Tryz.prog 33 #[.agg #[.int .i64 me, .slice none 0 0, .int .i64 0, .int .i64 0]] W fun e w' => e = .returned (.int .i64 (newCode me)) ∧ Below W.heap.size W w' := by
  refine hCk0.mono ?_
  rintro e w' ⟨rfl, h⟩
  exact ⟨by rw [← newCode_eq me]; rfl, h⟩
 obtain ⟨z, hz1⟩ : ∃ z, newCode me = z := ⟨_, rfl⟩
 rw [hz1] at hCk
 have HC := Shut.mk hz1
 rw [hz1]
 obtain ⟨b0, b1, b2, b3⟩ := plBox hp
 have HW := Shut.mk hW
 have H := Shut.mk (And.intro hb (And.intro hz hp))
 clear hb hz hp hW hCk0 hz1
 go_enter Tryz.func30, Tryz.ntmps30
 go_upto_region 2 with fail
 rw [HW.out]
 clear HW
 go_wp2_with fail
 refine hCk.mono ?_
 rintro e W1 ⟨rfl, hb1⟩
 have hbw := H.out.1.trans (hb1.mono H.out.1.size)
 have hz1 := blkB H.out.2.1 hb1
 have hp1 := blkB H.out.2.2 hb1
 clear hCk b0 b1 b2 b3 hb1
 obtain ⟨b0, b1, b2, b3⟩ := plBox hp1
 obtain ⟨g0, g1, g2, g3⟩ := plBox hz1
 have f0 := frzB hz1 0
 have f1 := frzB hz1 1
 have f2 := frzB hz1 2
 have f3 := frzB hz1 3
 rcases eqDec z 0 with ⟨y1, y2, y3, y4⟩ | ⟨y1, y2, y3, y4⟩
 case inr =>
  have Y := Shut.mk y1
  clear y1
  go_wp2
  obtain ⟨W9, hW9, hb9, hk9, hB9⟩ := box4 W1 w.heap.size 25 _ _ _ _ (.int .i64 0) (.slice none 0 0) (.int .i64 0) (.int .i64 0) hz1
  rw [hW9]
  have R := hB9 _ _ (Nat.le_refl _) hbw
  clear hW9 hk9 hB9 g0 g1 g2 g3 f0 f1 f2 f3 hz1 b0 b1 b2 b3
  obtain ⟨g0, g1, g2, g3⟩ := plBox hb9
  refine bodyPost_ret (v := .tuple #[.agg #[.int .i64 0, .slice none 0 0, .int .i64 0, .int .i64 0], .int .i64 z]) (by simp [results, Tryz.results30, go_sem, g0, g1, g2, g3]) rfl ?_
  exact ⟨0, rfl, ⟨fun e => absurd e Y.out, fun _ => rfl, R⟩⟩
 case inl =>
  subst y1
  go_wp2
  obtain ⟨W9, hW9, hb9, hk9, hB9⟩ := box4 W1 w.heap.size 25 _ _ _ _ (.int .i64 me) (.slice none 0 0) (.int .i64 0) (.int .i64 0) hz1
  rw [hW9]
  have R := hB9 _ _ (Nat.le_refl _) hbw
  clear hW9 hk9 hB9 g0 g1 g2 g3 f0 f1 f2 f3 hz1 b0 b1 b2 b3
  obtain ⟨g0, g1, g2, g3⟩ := plBox hb9
  refine bodyPost_ret (v := .tuple #[.agg #[.int .i64 me, .slice none 0 0, .int .i64 0, .int .i64 0], .int .i64 0]) (by simp [results, Tryz.results30, go_sem, g0, g1, g2, g3]) rfl ?_
  exact ⟨me, rfl, ⟨by first | exact ⟨fun _ => rfl, fun e => absurd rfl e, R⟩ | exact ⟨rfl, R⟩⟩⟩

end Go.Proofs.YtakkajjoeimkdaaGreatDoor

namespace Go.Proofs.YtakkajjoeimkdaaGreatDoor
open Go.RowKit
set_option linter.unusedVariables false
set_option linter.unusedSimpArgs false

structure MRec where
 r : Rc
 da : Option Addr
 dc : Nat
 ca : Option Addr
 cc : Nat

def MRec.val (m : MRec) : Value := rcV m.r m.da m.dc m.ca m.cc

def MRec.cells (m : MRec) : List Value := [.int .i64 m.r.k, .int .i64 m.r.p, .int .i64 m.r.n, .int .i64 m.r.y, .int .i64 m.r.h.F, .int .i64 m.r.h.Q, .int .i64 m.r.h.T, .int .i64 m.r.h.L, .int .i64 m.r.h.B, .int .i64 m.r.h.K, .int .i64 m.r.id, .slice m.da m.r.d.length m.dc, .slice m.ca m.r.c.length m.cc]

def recCells (l : List MRec) : List Value := l.flatMap MRec.cells

theorem recCells_length (l : List MRec) : (recCells l).length = 13 * l.length := by
 induction l with
 | nil => rfl
 | cons y l ih => rw [recCells, List.flatMap_cons, List.length_append]; show 13 + (recCells l).length = _; rw [ih, List.length_cons]; omega

theorem recCells_append (a b : List MRec) : recCells (a ++ b) = recCells a ++ recCells b := by simp [recCells]

theorem recCells_at : ∀ (l : List MRec) (i j : Nat) (y : MRec) (v : Value), l[i]? = some y → y.cells[j]? = some v → (recCells l)[13 * i + j]? = some v
 | [], i, j, y, v, h, _ => by simp at h
 | z :: l, 0, j, y, v, h, hv => by
  simp at h
  subst h
  have hj : j < 13 := by
   rcases Nat.lt_or_ge j 13 with h | h
   ·exact h
   ·rw [List.getElem?_eq_none (by show 13 ≤ j; exact h)] at hv; cases hv
  rw [recCells, List.flatMap_cons, Nat.mul_zero, Nat.zero_add, List.getElem?_append_left (by show j < 13; exact hj)]
  exact hv
 | z :: l, i + 1, j, y, v, h, hv => by
  have ih := recCells_at l i j y v (by simpa using h) hv
  rw [recCells, List.flatMap_cons, List.getElem?_append_right (by show 13 ≤ _; omega)]
  have e : 13 * (i + 1) + j - z.cells.length = 13 * i + j := by show 13 * (i + 1) + j - 13 = _; omega
  rw [e]
  exact ih

def RecIn (w : World) (m : MRec) : Prop := Lies w m.da (bs m.r.d) ∧ Lies w m.ca (bs m.r.c)

theorem RecIn.below {w w' : World} {m : MRec} (h : RecIn w m) (hb : Below w.heap.size w w') : RecIn w' m := ⟨h.1.below hb (Nat.le_refl _), h.2.below hb (Nat.le_refl _)⟩

def RecShort (m : MRec) : Prop := m.r.d.length ≤ maxLen ∧ m.r.c.length ≤ maxLen

theorem recs_cell {w : World} {b o k : Nat} {l : List MRec} {x : MRec} {v : Value} (h : Lies w (some ⟨b, o, none⟩) (recCells l) ∧ l[k]? = some x) (j : Nat) (hv : x.cells[j]? = some v) : w.cell? ⟨b, o + k * 13 + j, none⟩ = some v := by
 have h1 := h.1.at (recCells_at l k j x v h.2 hv)
 have e : o + (13 * k + j) = o + k * 13 + j := by omega
 rw [e] at h1
 exact h1

end Go.Proofs.YtakkajjoeimkdaaGreatDoor

namespace Go.Proofs.YtakkajjoeimkdaaGreatDoor
open Go.RowKit
set_option linter.unusedVariables false
set_option linter.unusedSimpArgs false
attribute [local go_sem ↓] Go.wp_at_zero Go.wp_at_succ

theorem chkS_idr {B K id : Int} {n : Nat} (h : chkS B K id n = 0) : 0 ≤ id ∧ id ≤ 9999 := by
 unfold chkS at h
 split at h
 ·rename_i h1; exact absurd h h1
 ·split at h
  ·omega
  ·omega

theorem syms_ids {B K : Int} : ∀ (l a : List LSym), symsFrom B K a l = 0 → ∀ s ∈ l, 0 ≤ s.1 ∧ s.1 ≤ 9999
 | [], _, _, _, hs => by cases hs
 | y :: l, a, h, s, hs => by
  unfold symsFrom at h
  split at h
  ·rename_i h1; exact absurd h h1
  ·rename_i h1
   split at h
   ·omega
   ·rcases List.mem_cons.1 hs with rfl | hs
    ·exact chkS_idr (Classical.not_not.1 h1)
    ·exact syms_ids l _ h s hs

theorem took_r : ∀ (l a : List (Int × Int)), tookFrom a l = 0 → ∀ t ∈ l, (0 ≤ t.1 ∧ t.1 ≤ 3) ∧ (1 ≤ t.2 ∧ t.2 ≤ 9999)
 | [], _, _, _, hs => by cases hs
 | y :: l, a, h, t, hs => by
  unfold tookFrom at h
  split at h
  ·omega
  ·rename_i h1
   split at h
   ·omega
   ·rcases List.mem_cons.1 hs with rfl | hs
    ·exact Classical.not_not.1 h1
    ·exact took_r l _ h t hs

theorem KpOk.ints {me tm sq : Int} {k : Kp} (h : KpOk me tm sq k) : k.ints := by
 have hf := (hd_fits h.hd).1
 have hb := hd_bytes h.hd
 have hs := (shares_zero.1 h.shares).1
 refine ⟨?_, by unfold I64; omega, by unfold I64; omega, by unfold I64; omega, by unfold I64; omega, fun t ht => ?_, fun y hy => ?_⟩
 ·unfold Hd.fits at hf
  unfold Hd.ok I64
  omega
 ·have := took_r _ _ h.took t ht
  unfold I64
  omega
 ·have := syms_ids _ _ h.syms y hy
  unfold I64
  omega

theorem PlNew.good {B : Nat} {w : World} {P : Pl} {L : List MKp} {p : Option Addr} {cp : Nat} (h : PlNew B w P.kp L p cp) (hOk : PlOk P) : Lies w p (kpCells L) ∧ (∀ m ∈ L, KpGood w m) ∧ L.length = P.kp.length ∧ L.length ≤ maxLen ∧ P.kp.length ≤ cp ∧ L.map MKp.k = P.kp := by
 have hl : L.length = P.kp.length := by rw [← h.says, List.length_map]
 obtain ⟨_, _, e1, e2, e3⟩ := own_gen h.own
 simp only [Value.slice.injEq] at e1
 obtain ⟨rfl, _, rfl⟩ := e1
 refine ⟨e2, fun m hm => ⟨(h.new m hm).1.inn, (h.new m hm).1.fits, ?_⟩, hl, by have := hOk.few; unfold maxLen; omega, e3, h.says⟩
 have hmem : m.k ∈ P.kp := by rw [← h.says]; exact List.mem_map.2 ⟨m, hm, rfl⟩
 exact (kcode_zero.1 (hOk.all _ hmem)).ints

theorem new_ok {me : Int} (h : newCode me = 0) : PlOk (plNew me) := code_zero.1 (by rw [newCode_eq]; exact h)

theorem repl_take {P : Pl} {l : List Rc} {q : Nat} {x : Rc} (hx : l[q]? = some x) (h : (repl P (l.take q)).1 = 0) : repl P (l.take (q + 1)) = if (repl P (l.take q)).2.nextCode x ≠ 0 then ((repl P (l.take q)).2.nextCode x, pl0) else (0, (repl P (l.take q)).2.next x) := by
 rw [List.take_add_one, hx, Option.toList_some, repl_append, if_neg (fun e => e h), repl]
 rfl

theorem repl_stop {P : Pl} : ∀ {l : List Rc} (m : List Rc), (repl P l).1 ≠ 0 → repl P (l ++ m) = repl P l := by
 intro l m h
 rw [repl_append, if_pos h]

def RepR (w : World) (Q : Pl) (z : Int) (e : Ending) (w' : World) : Prop :=
 ∃ (L : List MKp) (p : Option Addr) (cp : Nat), e = .returned (.tuple #[.agg #[.int .i64 Q.me, .slice p Q.kp.length cp, .int .i64 Q.tm, .int .i64 Q.sq], .int .i64 z]) ∧ Shut (PlNew w.heap.size w' Q.kp L p cp ∧ Below w.heap.size w w')

def RepI (w wr : World) (pb : Nat) (me : Int) (l : List Rc) (q : Nat) : Prop :=
 (repl (plNew me) (l.take q)).1 = 0 ∧ PlOk (repl (plNew me) (l.take q)).2 ∧ Below w.heap.size w wr ∧ wr.heap[w.heap.size]? = some (.cells #[.int .i64 0, .slice none 0 0, .int .i64 0, .int .i64 0] 25 (0, 0)) ∧ w.heap.size < pb ∧
  ∃ (L : List MKp) (p : Option Addr) (cp : Nat), wr.heap[pb]? = some (.cells #[.int .i64 (repl (plNew me) (l.take q)).2.me, .slice p (repl (plNew me) (l.take q)).2.kp.length cp, .int .i64 (repl (plNew me) (l.take q)).2.tm, .int .i64 (repl (plNew me) (l.take q)).2.sq] 25 (0, 0)) ∧ PlNew (w.heap.size + 1) wr (repl (plNew me) (l.take q)).2.kp L p cp ∧ (∀ g o, p = some ⟨g, o, none⟩ → g ≠ pb) ∧ ∀ m ∈ L, FarM pb m ∧ ¬ growB m pb

theorem RepI.step {w wr W1 W2 W9 : World} {pb q : Nat} {me : Int} {l : List Rc} {x : Rc} {L : List MKp} {p : Option Addr} {cp : Nat} (h : RepI w wr pb me l q) (hx : l[q]? = some x) (hc : (repl (plNew me) (l.take q)).2.nextCode x = 0) (h1 : Below wr.heap.size wr W1) (h2 : Below W1.heap.size W1 W2)
  (hN : PlNew W1.heap.size W2 ((repl (plNew me) (l.take q)).2.next x).kp L p cp) (h9 : W9.heap[pb]? = some (.cells #[.int .i64 ((repl (plNew me) (l.take q)).2.next x).me, .slice p ((repl (plNew me) (l.take q)).2.next x).kp.length cp, .int .i64 ((repl (plNew me) (l.take q)).2.next x).tm, .int .i64 ((repl (plNew me) (l.take q)).2.next x).sq] 25 (0, 0)))
  (hk9 : ∀ k, k ≠ pb → W9.heap[k]? = W2.heap[k]?) (hB9 : ∀ B u, B ≤ pb → Below B u W2 → Below B u W9) : RepI w W9 pb me l (q + 1) := by
 obtain ⟨a1, a2, a3, a4, a5, L0, p0, c0, b1, b2, b3, b4⟩ := h
 have e := repl_take (P := plNew me) hx a1
 rw [if_neg (fun e => e hc)] at e
 have hpb := (Array.getElem?_eq_some_iff.1 b1).1
 have hw2 : Below wr.heap.size wr W2 := h1.trans (h2.mono h1.size)
 have hnz := next_zero hc
 have hok := (does_ok hnz.1 hnz.2.1 hnz.2.2.1).1
 have hs1 := h1.size
 have hsw := a3.size
 unfold RepI
 rw [e]
 refine ⟨rfl, by rw [hnz.2.2.2]; exact hok, hB9 _ _ (by omega) (a3.trans (hw2.mono hsw)), (hk9 _ (by omega)).trans ((hw2.block _ (by omega)).trans a4), a5, L, p, cp, h9, ?_, fun g o e' => ?_, fun m hm => ?_⟩
 ·refine (hN.off (b := pb) (fun g o e' => ?_) (fun m hm => ?_) hk9).low (by omega)
  ·have := (hN.own.lt g (by rw [e']; rfl)).1; omega
  ·have h3 := (hN.new m hm).1
   exact ⟨farM_new h3 (by omega), fun e' => by have := (h3.grow_lt e').1; omega⟩
 ·have := (hN.own.lt g (by rw [e']; rfl)).1; omega
 ·have h3 := (hN.new m hm).1
  exact ⟨farM_new h3 (by omega), fun e' => by have := (h3.grow_lt e').1; omega⟩

theorem recs_cell' {w : World} {b o k : Nat} {l : List MRec} {x : MRec} {v : Value} (h : Lies w (some ⟨b, o, none⟩) (recCells l)) (hx : l[k]? = some x) (j : Nat) (hv : x.cells[j]? = some v) : w.cell? ⟨b, o + k * 13 + j, none⟩ = some v := recs_cell ⟨h, hx⟩ j hv

set_option maxHeartbeats 8000000 in
set_option maxRecDepth 8000 in
theorem replay_any (me : Int) (pa : Option Addr) (pc : Nat) (ml : List MRec) (w : World) (hl : Lies w pa (recCells ml)) (hall : ∀ m ∈ ml, RecIn w m ∧ RecShort m ∧ m.r.ints) (hm : ml.length ≤ maxLen) (hc : ml.length ≤ pc) (hL : Laid w) :
  Calls Tryz.prog 9 #[.int .i64 me, .slice pa ml.length pc] w (RepR w (replayP me (ml.map MRec.r)) (replayC me (ml.map MRec.r))) := by
 obtain ⟨n, hn⟩ : ∃ n, ml.length = n := ⟨_, rfl⟩
 rw [hn] at hm hc ⊢
 obtain ⟨W, hW⟩ : ∃ W, w.alloc (.cells #[.int .i64 0, .slice none 0 0, .int .i64 0, .int .i64 0] 25) = W := ⟨_, rfl⟩
 have hb : Below w.heap.size w W := by rw [← hW]; exact (Below.refl _ _).alloc (Nat.le_refl _) _
 have hz : W.heap[w.heap.size]? = some (.cells #[.int .i64 0, .slice none 0 0, .int .i64 0, .int .i64 0] 25 (0, 0)) := by rw [← hW, heap_alloc_eq, if_pos rfl]
 have hNw := placeNew_any me W
 have HW := Shut.mk hW
 have H := Shut.mk (And.intro hb (And.intro hz (And.intro hl (And.intro hall (And.intro hn hL)))))
 have bad : ∀ (z : Int) (u : World), replayC me (ml.map MRec.r) = z → z ≠ 0 → replayP me (ml.map MRec.r) = pl0 → Below w.heap.size w u → Shut (RepR w (replayP me (ml.map MRec.r)) (replayC me (ml.map MRec.r)) (.returned (.tuple #[.agg #[.int .i64 0, .slice none 0 0, .int .i64 0, .int .i64 0], .int .i64 z])) u) := fun z u h1 h2 h3 h4 => ⟨by
  rw [h1, h3]
  exact ⟨[], none, 0, rfl, ⟨PlNew.none _ _, h4⟩⟩⟩
 generalize hcc : newCode me = z at hNw
 have HC := Shut.mk hcc
 have hrl : (ml.map MRec.r).length = n := by rw [List.length_map, hn]
 clear hb hz hW hl hall hL hcc hn
 go_enter Tryz.func9, Tryz.ntmps9
 go_upto_region 1 with fail
 rw [HW.out]
 clear HW
 go_wp2_with fail
 refine hNw.mono ?_
 rintro e W1 ⟨m', rfl, HN⟩
 clear hNw
 have hb1 := H.out.1.trans (HN.out.2.2.mono H.out.1.size)
 have hz1 := blkB H.out.2.1 HN.out.2.2
 go_upto_region 2 with fail
 obtain ⟨V, hV⟩ : ∃ V, W1.alloc (.cells #[.int .i64 m', .slice none 0 0, .int .i64 0, .int .i64 0] 25) = V := ⟨_, rfl⟩
 rw [hV]
 have hb2 : Below W1.heap.size W1 V := by rw [← hV]; exact (Below.refl _ _).alloc (Nat.le_refl _) _
 have hpV : V.heap[W1.heap.size]? = some (.cells #[.int .i64 m', .slice none 0 0, .int .i64 0, .int .i64 0] 25 (0, 0)) := by rw [← hV, heap_alloc_eq, if_pos rfl]
 have hbV := hb1.trans (hb2.mono hb1.size)
 have hzV := blkB hz1 hb2
 have hws : w.heap.size < W1.heap.size := (Array.getElem?_eq_some_iff.1 hz1).1
 clear hV hb2 hb1 hz1
 obtain ⟨g0, g1, g2, g3⟩ := plBox hzV
 have f0 := frzB hzV 0
 have f1 := frzB hzV 1
 have f2 := frzB hzV 2
 have f3 := frzB hzV 3
 rcases eqDec z 0 with ⟨y1, y2, y3, y4⟩ | ⟨y1, y2, y3, y4⟩
 case inr =>
  have HY := Shut.mk y1
  clear y1
  go_wp2
  obtain ⟨W9, hW9, hb9, hk9, hB9⟩ := box4 V w.heap.size 25 _ _ _ _ (.int .i64 0) (.slice none 0 0) (.int .i64 0) (.int .i64 0) hzV
  rw [hW9]
  have R := bad z W9 (by unfold replayC; rw [if_pos (by rw [HC.out]; exact HY.out), HC.out]) HY.out (by unfold replayP; rw [if_pos (by rw [HC.out]; exact HY.out)]) (hB9 _ _ (Nat.le_refl _) hbV)
  clear hW9 hk9 hB9 g0 g1 g2 g3 f0 f1 f2 f3 hzV
  obtain ⟨g0, g1, g2, g3⟩ := plBox hb9
  refine bodyPost_ret (v := .tuple #[.agg #[.int .i64 0, .slice none 0 0, .int .i64 0, .int .i64 0], .int .i64 z]) (by simp [results, Tryz.results9, go_sem, g0, g1, g2, g3]) rfl ?_
  exact R.out
 case inl =>
  have hn0 : newCode me = 0 := HC.out.trans y1
  subst y1
  have hme : m' = me := HN.out.1 rfl
  subst hme
  by_cases c1 : 200 < n
  case pos =>
   have l1 : (200 : Int) < (n : Int) := by omega
   have HY := Shut.mk (And.intro hn0 (show 200 < (ml.map MRec.r).length from by rw [hrl]; exact c1))
   clear hn0
   go_wp2
   obtain ⟨W9, hW9, hb9, hk9, hB9⟩ := box4 V w.heap.size 25 _ _ _ _ (.int .i64 0) (.slice none 0 0) (.int .i64 0) (.int .i64 0) hzV
   rw [hW9]
   have R := bad 2 W9 (by unfold replayC; rw [if_neg (fun e => e HY.out.1), if_pos HY.out.2]) (by decide) (by unfold replayP; rw [if_neg (fun e => e HY.out.1), if_pos HY.out.2]) (hB9 _ _ (Nat.le_refl _) hbV)
   clear hW9 hk9 hB9 g0 g1 g2 g3 f0 f1 f2 f3 hzV
   obtain ⟨g0, g1, g2, g3⟩ := plBox hb9
   refine bodyPost_ret (v := .tuple #[.agg #[.int .i64 0, .slice none 0 0, .int .i64 0, .int .i64 0], .int .i64 2]) (by simp [results, Tryz.results9, go_sem, g0, g1, g2, g3]) rfl ?_
   exact R.out
  case neg =>
   have l1 : ¬ (200 : Int) < (n : Int) := by omega
   have HY := Shut.mk (And.intro hn0 (show ¬ 200 < (ml.map MRec.r).length from by rw [hrl]; exact c1))
   have HI0 : Shut (RepI w V W1.heap.size m' (ml.map MRec.r) 0) := ⟨rfl, new_ok hn0, hbV, hzV, hws, [], none, 0, hpV, PlNew.none _ _, fun g o e => (by cases e), fun m hm => (by cases hm)⟩
   clear hn0 hbV hzV hpV g0 g1 g2 g3 f0 f1 f2 f3
   go_wp2
   go_loopw [7, 25] (fun ev i wr => ∃ q : Nat, q ≤ n ∧ ev = .int .i64 0 ∧ i = .int .i64 q ∧ Shut (RepI w wr W1.heap.size m' (ml.map MRec.r) q)) (fun _ i _ => n - (intOf i).toNat)
   case atStart => exact ⟨0, Nat.zero_le _, rfl, rfl, HI0⟩
   case round =>
    clear HI0
    obtain ⟨q, hq, rfl, rfl, HI⟩ := hrel
    by_cases hlt : q < n
    ·obtain ⟨x, hx⟩ : ∃ x, ml[q]? = some x := ⟨_, List.getElem?_eq_getElem (by rw [H.out.2.2.2.2.1]; exact hlt)⟩
     have hxr : (ml.map MRec.r)[q]? = some x.r := by rw [List.getElem?_map, hx]; rfl
     have hxa := H.out.2.2.2.1 x (List.mem_of_getElem? hx)
     obtain ⟨a1, a2, a3, a4, a5, L0, p0, c0, b1, b2, b3, b4⟩ := HI.out
     have hlr := H.out.2.2.1.below a3 (Nat.le_refl _)
     obtain ⟨gb, go, rfl⟩ := hlr.some (k := 13 * q) (by rw [recCells_length, H.out.2.2.2.2.1]; omega)
     have HX := Shut.mk (And.intro hxr (And.intro hxa (And.intro a2 (And.intro a3 (And.intro a4 b1)))))
     have s0 : wr.cell? ⟨gb, go + q * 13, none⟩ = some (.int .i64 x.r.k) := recs_cell' hlr hx 0 rfl
     have s1 : wr.cell? ⟨gb, go + q * 13 + 1, none⟩ = some (.int .i64 x.r.p) := recs_cell' hlr hx 1 rfl
     have s2 : wr.cell? ⟨gb, go + q * 13 + 2, none⟩ = some (.int .i64 x.r.n) := recs_cell' hlr hx 2 rfl
     have s3 : wr.cell? ⟨gb, go + q * 13 + 3, none⟩ = some (.int .i64 x.r.y) := recs_cell' hlr hx 3 rfl
     have s4 : wr.cell? ⟨gb, go + q * 13 + 4, none⟩ = some (.int .i64 x.r.h.F) := recs_cell' hlr hx 4 rfl
     have s5 : wr.cell? ⟨gb, go + q * 13 + 5, none⟩ = some (.int .i64 x.r.h.Q) := recs_cell' hlr hx 5 rfl
     have s6 : wr.cell? ⟨gb, go + q * 13 + 6, none⟩ = some (.int .i64 x.r.h.T) := recs_cell' hlr hx 6 rfl
     have s7 : wr.cell? ⟨gb, go + q * 13 + 7, none⟩ = some (.int .i64 x.r.h.L) := recs_cell' hlr hx 7 rfl
     have s8 : wr.cell? ⟨gb, go + q * 13 + 8, none⟩ = some (.int .i64 x.r.h.B) := recs_cell' hlr hx 8 rfl
     have s9 : wr.cell? ⟨gb, go + q * 13 + 9, none⟩ = some (.int .i64 x.r.h.K) := recs_cell' hlr hx 9 rfl
     have s10 : wr.cell? ⟨gb, go + q * 13 + 10, none⟩ = some (.int .i64 x.r.id) := recs_cell' hlr hx 10 rfl
     have s11 : wr.cell? ⟨gb, go + q * 13 + 11, none⟩ = some (.slice x.da x.r.d.length x.dc) := recs_cell' hlr hx 11 rfl
     have s12 : wr.cell? ⟨gb, go + q * 13 + 12, none⟩ = some (.slice x.ca x.r.c.length x.cc) := recs_cell' hlr hx 12 rfl
     obtain ⟨P, hP⟩ : ∃ P, (repl (plNew m') ((ml.map MRec.r).take q)).2 = P := ⟨_, rfl⟩
     have hST : ∀ (W2 W4 W9 : World) (L : List MKp) (p : Option Addr) (cp : Nat), P.nextCode x.r = 0 → Below wr.heap.size wr W2 → Below W2.heap.size W2 W4 → PlNew W2.heap.size W4 (P.next x.r).kp L p cp → W9.heap[W1.heap.size]? = some (.cells #[.int .i64 (P.next x.r).me, .slice p (P.next x.r).kp.length cp, .int .i64 (P.next x.r).tm, .int .i64 (P.next x.r).sq] 25 (0, 0)) → (∀ k, k ≠ W1.heap.size → W9.heap[k]? = W4.heap[k]?) → (∀ B u, B ≤ W1.heap.size → Below B u W4 → Below B u W9) → RepI w W9 W1.heap.size m' (ml.map MRec.r) (q + 1) := by
      rw [← hP]
      exact fun W2 W4 W9 L p cp e1 e2 e3 e4 e5 e6 e7 => HI.out.step hxr e1 e2 e3 e4 e5 e6 e7
     have hEnd : P.nextCode x.r ≠ 0 → replayC m' (ml.map MRec.r) = P.nextCode x.r ∧ replayP m' (ml.map MRec.r) = pl0 := fun hne => by
      have e := repl_take (P := plNew m') hxr a1
      rw [hP, if_pos hne] at e
      have e2 := repl_stop ((ml.map MRec.r).drop (q + 1)) (show (repl (plNew m') ((ml.map MRec.r).take (q + 1))).1 ≠ 0 from by rw [e]; exact hne)
      rw [List.take_append_drop, e] at e2
      refine ⟨?_, ?_⟩
      ·unfold replayC; rw [if_neg (fun e => e HY.out.1), if_neg HY.out.2, e2]
      ·unfold replayP; rw [if_neg (fun e => e HY.out.1), if_neg HY.out.2, if_pos (by rw [e2]; exact hne)]
     rw [hP] at b1 b2 a2
     have hgood := b2.good a2
     have HST := Shut.mk hST
     have HE := Shut.mk hEnd
     obtain ⟨k0, hk0⟩ : ∃ k0, P.kp.length = k0 := ⟨_, rfl⟩
     have HK := Shut.mk hk0
     rw [hk0] at b1
     have BX := Shut.mk b1
     clear hST hEnd HI hP hx hxr hlr a1 a4 b3 b4
     go_upto_region 9 with fail
     obtain ⟨W2, hW2⟩ : ∃ W2, wr.alloc (.cells #[.int .i64 x.r.k, .int .i64 x.r.p, .int .i64 x.r.n, .int .i64 x.r.y, .int .i64 x.r.h.F, .int .i64 x.r.h.Q, .int .i64 x.r.h.T, .int .i64 x.r.h.L, .int .i64 x.r.h.B, .int .i64 x.r.h.K, .int .i64 x.r.id, .slice x.da x.r.d.length x.dc, .slice x.ca x.r.c.length x.cc] 40) = W2 := ⟨_, rfl⟩
     rw [hW2]
     have hb2 : Below wr.heap.size wr W2 := by rw [← hW2]; exact (Below.refl _ _).alloc (Nat.le_refl _) _
     have hx2 : W2.heap[wr.heap.size]? = some (.cells #[.int .i64 x.r.k, .int .i64 x.r.p, .int .i64 x.r.n, .int .i64 x.r.y, .int .i64 x.r.h.F, .int .i64 x.r.h.Q, .int .i64 x.r.h.T, .int .i64 x.r.h.L, .int .i64 x.r.h.B, .int .i64 x.r.h.K, .int .i64 x.r.id, .slice x.da x.r.d.length x.dc, .slice x.ca x.r.c.length x.cc] 40 (0, 0)) := by rw [← hW2, heap_alloc_eq, if_pos rfl]
     have hw2 := a3.trans (hb2.mono a3.size)
     have hN := placeNext_any P p0 c0 L0 x.r x.da x.dc x.ca x.cc W2 (hgood.1.below hb2 (Nat.le_refl _)) (fun m hm => (hgood.2.1 m hm).below hb2) hgood.2.2.2.1 (by rw [hgood.2.2.1]; exact hgood.2.2.2.2.1) hgood.2.2.2.2.2 hxa.2.2 hxa.2.1.1 (hxa.1.1.below hw2 (Nat.le_refl _)) (hxa.1.2.below hw2 (Nat.le_refl _)) (H.out.2.2.2.2.2.below hw2)
     rw [hgood.2.2.1, hk0] at hN
     simp only [rcV] at hN
     obtain ⟨d0, d1, d2, d3⟩ := plBox (blkB b1 hb2)
     obtain ⟨t0, t1, t2, t3, t4, t5, t6, t7, t8, t9, t10, t11, t12⟩ := rcBox hx2
     have HB := Shut.mk (And.intro hb2 hw2)
     clear hW2 hb2 hx2 hgood b1 b2 a2 hxa s0 s1 s2 s3 s4 s5 s6 s7 s8 s9 s10 s11 s12
     go_wp2_with fail
     refine hN.mono ?_
     rintro e W4 ⟨L4, p4, c4, rfl, H4⟩
     clear hN t0 t1 t2 t3 t4 t5 t6 t7 t8 t9 t10 t11 t12 d0 d1 d2 d3
     have hw4 := HB.out.2.trans (H4.out.2.mono HB.out.2.size)
     have hb4 : Below wr.heap.size wr W4 := HB.out.1.trans (H4.out.2.mono HB.out.1.size)
     have hpb4 := blkB BX.out hb4
     have hz4 := blkB HX.out.2.2.2.2.1 hb4
     obtain ⟨d0, d1, d2, d3⟩ := plBox hpb4
     have e0 := frzB hpb4 0
     have e1 := frzB hpb4 1
     have e2 := frzB hpb4 2
     have e3 := frzB hpb4 3
     go_upto_region 10 with fail
     obtain ⟨W9, hW9, hb9, hk9, hB9⟩ := box4 W4 W1.heap.size 25 _ _ _ _ (.int .i64 (P.next x.r).me) (.slice p4 (P.next x.r).kp.length c4) (.int .i64 (P.next x.r).tm) (.int .i64 (P.next x.r).sq) hpb4
     rw [hW9]
     obtain ⟨z, hzc⟩ : ∃ z, P.nextCode x.r = z := ⟨_, rfl⟩
     rw [hzc]
     have HZ := Shut.mk hzc
     clear hW9 d0 d1 d2 d3 e0 e1 e2 e3 hzc
     rcases eqDec z 0 with ⟨y1, y2', y3', y4'⟩ | ⟨y1, y2', y3', y4'⟩
     case inr =>
      have hz9 : W9.heap[w.heap.size]? = some (.cells #[.int .i64 0, .slice none 0 0, .int .i64 0, .int .i64 0] 25 (0, 0)) := (hk9 _ (by omega)).trans hz4
      have hw9 : Below w.heap.size w W9 := hB9 _ _ (by omega) hw4
      have R := fun u => bad z u ((HE.out (by rw [HZ.out]; exact y1)).1.trans HZ.out) y1 (HE.out (by rw [HZ.out]; exact y1)).2
      clear y1 hk9 hB9 hb9 hz4 hpb4
      obtain ⟨g0, g1, g2, g3⟩ := plBox hz9
      have f0 := frzB hz9 0
      have f1 := frzB hz9 1
      have f2 := frzB hz9 2
      have f3 := frzB hz9 3
      go_wp2
      obtain ⟨WA, hWA, hbA, hkA, hBA⟩ := box4 W9 w.heap.size 25 _ _ _ _ (.int .i64 0) (.slice none 0 0) (.int .i64 0) (.int .i64 0) hz9
      rw [hWA]
      have R2 := R WA (hBA _ _ (Nat.le_refl _) hw9)
      clear hWA hkA hBA g0 g1 g2 g3 f0 f1 f2 f3 hz9 R
      obtain ⟨g0, g1, g2, g3⟩ := plBox hbA
      refine bodyPost_ret (v := .tuple #[.agg #[.int .i64 0, .slice none 0 0, .int .i64 0, .int .i64 0], .int .i64 z]) (by simp [results, Tryz.results9, go_sem, g0, g1, g2, g3]) rfl ?_
      exact R2.out
     case inl =>
      subst y1
      have R := Shut.mk (HST.out W2 W4 W9 L4 p4 c4 HZ.out HB.out.1 H4.out.2 H4.out.1 hb9 hk9 hB9)
      clear hk9 hB9 hb9 hz4 hpb4
      go_wp2
      go_roundw
      case rel => exact ⟨q + 1, by omega, rfl, by go_num, R⟩
      case measure => simp [intOf]; omega
    ·obtain rfl : q = n := by omega
     obtain ⟨a1, a2, a3, a4, a5, L0, p0, c0, b1, b2, b3, b4⟩ := HI.out
     have ht : (ml.map MRec.r).take q = ml.map MRec.r := List.take_of_length_le (by rw [hrl]; exact Nat.le_refl _)
     rw [ht] at a1 b1 b2
     have hRC : replayC m' (ml.map MRec.r) = 0 ∧ replayP m' (ml.map MRec.r) = (repl (plNew m') (ml.map MRec.r)).2 := by
      refine ⟨?_, ?_⟩
      ·unfold replayC; rw [if_neg (fun e => e HY.out.1), if_neg HY.out.2, a1]
      ·unfold replayP; rw [if_neg (fun e => e HY.out.1), if_neg HY.out.2, if_neg (fun e => e a1)]
     generalize (repl (plNew m') (ml.map MRec.r)).2 = Q at b1 b2 hRC
     obtain ⟨k0, hk0⟩ : ∃ k0, Q.kp.length = k0 := ⟨_, rfl⟩
     have HK := Shut.mk (And.intro hk0 (And.intro hRC (And.intro b2 a3)))
     rw [hk0] at b1
     clear hk0 hRC HI a1 a2 b3 b4
     obtain ⟨d0, d1, d2, d3⟩ := plBox b1
     obtain ⟨g0, g1, g2, g3⟩ := plBox a4
     have f0 := frzB a4 0
     have f1 := frzB a4 1
     have f2 := frzB a4 2
     have f3 := frzB a4 3
     go_wp2
     obtain ⟨W9, hW9, hb9, hk9, hB9⟩ := box4 wr w.heap.size 25 _ _ _ _ (.int .i64 Q.me) (.slice p0 k0 c0) (.int .i64 Q.tm) (.int .i64 Q.sq) a4
     rw [hW9]
     have R : Shut (RepR w (replayP m' (ml.map MRec.r)) (replayC m' (ml.map MRec.r)) (.returned (.tuple #[.agg #[.int .i64 Q.me, .slice p0 k0 c0, .int .i64 Q.tm, .int .i64 Q.sq], .int .i64 0])) W9) := by
      refine ⟨L0, p0, c0, ?_, ?_⟩
      ·rw [HK.out.2.1.1, HK.out.2.1.2, HK.out.1]
      ·rw [HK.out.2.1.2]
       exact ⟨HK.out.2.2.1.old (b := w.heap.size) (by omega) hk9 (by omega), hB9 _ _ (Nat.le_refl _) HK.out.2.2.2⟩
     clear hW9 hk9 hB9 g0 g1 g2 g3 f0 f1 f2 f3 a4 d0 d1 d2 d3 b1
     obtain ⟨g0, g1, g2, g3⟩ := plBox hb9
     refine bodyPost_ret (v := .tuple #[.agg #[.int .i64 Q.me, .slice p0 k0 c0, .int .i64 Q.tm, .int .i64 Q.sq], .int .i64 0]) (by simp [results, Tryz.results9, go_sem, g0, g1, g2, g3]) rfl ?_
     exact R.out

end Go.Proofs.YtakkajjoeimkdaaGreatDoor
