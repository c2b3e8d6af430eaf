import Derived.Test.YtakkajjoeimkdaaGreatDoorPart8
import Derived.Test.YtakkajjoeimkdaaGreatDoorPart2
import Derived.Test.YtakkajjoeimkdaaGreatDoorPart28
import Derived.Test.YtakkajjoeimkdaaGreatDoorPart17
import Derived.Test.YtakkajjoeimkdaaGreatDoorPart11
import Derived.Laws.StructEq
import Derived.BigQuiet
namespace Go.Proofs.YtakkajjoeimkdaaGreatDoor
open Go.RowKit
set_option linter.unusedVariables false
set_option linter.unusedSimpArgs false

structure MRec where
 r : Rc
 da : Option Addr
 dc : Nat
 ca : Option Addr
 cc : Nat

def MRec.val (m : MRec) : Value := rcV m.r m.da m.dc m.ca m.cc

def MRec.cells (m : MRec) : List Value := [.int .i64 m.r.k, .int .i64 m.r.p, .int .i64 m.r.n, .int .i64 m.r.y, .int .i64 m.r.h.F, .int .i64 m.r.h.Q, .int .i64 m.r.h.T, .int .i64 m.r.h.L, .int .i64 m.r.h.B, .int .i64 m.r.h.K, .int .i64 m.r.id, .slice m.da m.r.d.length m.dc, .slice m.ca m.r.c.length m.cc]

def recCells (l : List MRec) : List Value := l.flatMap MRec.cells

theorem recCells_length (l : List MRec) : (recCells l).length = 13 * l.length := by
 induction l with
 | nil => rfl
 | cons y l ih => rw [recCells, List.flatMap_cons, List.length_append]; show 13 + (recCells l).length = _; rw [ih, List.length_cons]; omega

theorem recCells_append (a b : List MRec) : recCells (a ++ b) = recCells a ++ recCells b := by simp [recCells]

theorem recCells_at : ∀ (l : List MRec) (i j : Nat) (y : MRec) (v : Value), l[i]? = some y → y.cells[j]? = some v → (recCells l)[13 * i + j]? = some v
 | [], i, j, y, v, h, _ => by simp at h
 | z :: l, 0, j, y, v, h, hv => by
  simp at h
  subst h
  have hj : j < 13 := by
   rcases Nat.lt_or_ge j 13 with h | h
   ·exact h
   ·rw [List.getElem?_eq_none (by show 13 ≤ j; exact h)] at hv; cases hv
  rw [recCells, List.flatMap_cons, Nat.mul_zero, Nat.zero_add, List.getElem?_append_left (by show j < 13; exact hj)]
  exact hv
 | z :: l, i + 1, j, y, v, h, hv => by
  have ih := recCells_at l i j y v (by simpa using h) hv
  rw [recCells, List.flatMap_cons, List.getElem?_append_right (by show 13 ≤ _; omega)]
  have e : 13 * (i + 1) + j - z.cells.length = 13 * i + j := by show 13 * (i + 1) + j - 13 = _; omega
  rw [e]
  exact ih

def RecIn (w : World) (m : MRec) : Prop := Lies w m.da (bs m.r.d) ∧ Lies w m.ca (bs m.r.c)

theorem RecIn.below {w w' : World} {m : MRec} (h : RecIn w m) (hb : Below w.heap.size w w') : RecIn w' m := ⟨h.1.below hb (Nat.le_refl _), h.2.below hb (Nat.le_refl _)⟩

def RecShort (m : MRec) : Prop := m.r.d.length ≤ maxLen ∧ m.r.c.length ≤ maxLen

theorem recs_cell {w : World} {b o k : Nat} {l : List MRec} {x : MRec} {v : Value} (h : Lies w (some ⟨b, o, none⟩) (recCells l) ∧ l[k]? = some x) (j : Nat) (hv : x.cells[j]? = some v) : w.cell? ⟨b, o + k * 13 + j, none⟩ = some v := by
 have h1 := h.1.at (recCells_at l k j x v h.2 hv)
 have e : o + (13 * k + j) = o + k * 13 + j := by omega
 rw [e] at h1
 exact h1

end Go.Proofs.YtakkajjoeimkdaaGreatDoor

namespace Go.Proofs.YtakkajjoeimkdaaGreatDoor
open Go.RowKit
set_option linter.unusedVariables false
set_option linter.unusedSimpArgs false
attribute [local go_sem ↓] Go.wp_at_zero Go.wp_at_succ

theorem chkS_idr {B K id : Int} {n : Nat} (h : chkS B K id n = 0) : 0 ≤ id ∧ id ≤ 9999 := by
 unfold chkS at h
 split at h
 ·rename_i h1; exact absurd h h1
 ·split at h
  ·omega
  ·omega

theorem syms_ids {B K : Int} : ∀ (l a : List LSym), symsFrom B K a l = 0 → ∀ s ∈ l, 0 ≤ s.1 ∧ s.1 ≤ 9999
 | [], _, _, _, hs => by cases hs
 | y :: l, a, h, s, hs => by
  unfold symsFrom at h
  split at h
  ·rename_i h1; exact absurd h h1
  ·rename_i h1
   split at h
   ·omega
   ·rcases List.mem_cons.1 hs with rfl | hs
    ·exact chkS_idr (Classical.not_not.1 h1)
    ·exact syms_ids l _ h s hs

theorem took_r : ∀ (l a : List (Int × Int)), tookFrom a l = 0 → ∀ t ∈ l, (0 ≤ t.1 ∧ t.1 ≤ 3) ∧ (1 ≤ t.2 ∧ t.2 ≤ 9999)
 | [], _, _, _, hs => by cases hs
 | y :: l, a, h, t, hs => by
  unfold tookFrom at h
  split at h
  ·omega
  ·rename_i h1
   split at h
   ·omega
   ·rcases List.mem_cons.1 hs with rfl | hs
    ·exact Classical.not_not.1 h1
    ·exact took_r l _ h t hs

theorem KpOk.ints {me tm sq : Int} {k : Kp} (h : KpOk me tm sq k) : k.ints := by
 have hf := (hd_fits h.hd).1
 have hb := hd_bytes h.hd
 have hs := (shares_zero.1 h.shares).1
 refine ⟨?_, by unfold I64; omega, by unfold I64; omega, by unfold I64; omega, by unfold I64; omega, fun t ht => ?_, fun y hy => ?_⟩
 ·unfold Hd.fits at hf
  unfold Hd.ok I64
  omega
 ·have := took_r _ _ h.took t ht
  unfold I64
  omega
 ·have := syms_ids _ _ h.syms y hy
  unfold I64
  omega

theorem PlNew.good {B : Nat} {w : World} {P : Pl} {L : List MKp} {p : Option Addr} {cp : Nat} (h : PlNew B w P.kp L p cp) (hOk : PlOk P) : Lies w p (kpCells L) ∧ (∀ m ∈ L, KpGood w m) ∧ L.length = P.kp.length ∧ L.length ≤ maxLen ∧ P.kp.length ≤ cp ∧ L.map MKp.k = P.kp := by
 have hl : L.length = P.kp.length := by rw [← h.says, List.length_map]
 obtain ⟨_, _, e1, e2, e3⟩ := own_gen h.own
 simp only [Value.slice.injEq] at e1
 obtain ⟨rfl, _, rfl⟩ := e1
 refine ⟨e2, fun m hm => ⟨(h.new m hm).1.inn, (h.new m hm).1.fits, ?_⟩, hl, by have := hOk.few; unfold maxLen; omega, e3, h.says⟩
 have hmem : m.k ∈ P.kp := by rw [← h.says]; exact List.mem_map.2 ⟨m, hm, rfl⟩
 exact (kcode_zero.1 (hOk.all _ hmem)).ints

theorem new_ok {me : Int} (h : newCode me = 0) : PlOk (plNew me) := code_zero.1 (by rw [newCode_eq]; exact h)

theorem repl_take {P : Pl} {l : List Rc} {q : Nat} {x : Rc} (hx : l[q]? = some x) (h : (repl P (l.take q)).1 = 0) : repl P (l.take (q + 1)) = if (repl P (l.take q)).2.nextCode x ≠ 0 then ((repl P (l.take q)).2.nextCode x, pl0) else (0, (repl P (l.take q)).2.next x) := by
 rw [List.take_add_one, hx, Option.toList_some, repl_append, if_neg (fun e => e h), repl]
 rfl

theorem repl_stop {P : Pl} : ∀ {l : List Rc} (m : List Rc), (repl P l).1 ≠ 0 → repl P (l ++ m) = repl P l := by
 intro l m h
 rw [repl_append, if_pos h]

def RepR (w : World) (Q : Pl) (z : Int) (e : Ending) (w' : World) : Prop :=
 ∃ (L : List MKp) (p : Option Addr) (cp : Nat), e = .returned (.tuple #[.agg #[.int .i64 Q.me, .slice p Q.kp.length cp, .int .i64 Q.tm, .int .i64 Q.sq], .int .i64 z]) ∧ Shut (PlNew w.heap.size w' Q.kp L p cp ∧ Below w.heap.size w w')

def RepI (w wr : World) (pb : Nat) (me : Int) (l : List Rc) (q : Nat) : Prop :=
 (repl (plNew me) (l.take q)).1 = 0 ∧ PlOk (repl (plNew me) (l.take q)).2 ∧ Below w.heap.size w wr ∧ wr.heap[w.heap.size]? = some (.cells #[.int .i64 0, .slice none 0 0, .int .i64 0, .int .i64 0] 25 (0, 0)) ∧ w.heap.size < pb ∧
  ∃ (L : List MKp) (p : Option Addr) (cp : Nat), wr.heap[pb]? = some (.cells #[.int .i64 (repl (plNew me) (l.take q)).2.me, .slice p (repl (plNew me) (l.take q)).2.kp.length cp, .int .i64 (repl (plNew me) (l.take q)).2.tm, .int .i64 (repl (plNew me) (l.take q)).2.sq] 25 (0, 0)) ∧ PlNew (w.heap.size + 1) wr (repl (plNew me) (l.take q)).2.kp L p cp ∧ (∀ g o, p = some ⟨g, o, none⟩ → g ≠ pb) ∧ ∀ m ∈ L, FarM pb m ∧ ¬ growB m pb

theorem RepI.step {w wr W1 W2 W9 : World} {pb q : Nat} {me : Int} {l : List Rc} {x : Rc} {L : List MKp} {p : Option Addr} {cp : Nat} (h : RepI w wr pb me l q) (hx : l[q]? = some x) (hc : (repl (plNew me) (l.take q)).2.nextCode x = 0) (h1 : Below wr.heap.size wr W1) (h2 : Below W1.heap.size W1 W2)
  (hN : PlNew W1.heap.size W2 ((repl (plNew me) (l.take q)).2.next x).kp L p cp) (h9 : W9.heap[pb]? = some (.cells #[.int .i64 ((repl (plNew me) (l.take q)).2.next x).me, .slice p ((repl (plNew me) (l.take q)).2.next x).kp.length cp, .int .i64 ((repl (plNew me) (l.take q)).2.next x).tm, .int .i64 ((repl (plNew me) (l.take q)).2.next x).sq] 25 (0, 0)))
  (hk9 : ∀ k, k ≠ pb → W9.heap[k]? = W2.heap[k]?) (hB9 : ∀ B u, B ≤ pb → Below B u W2 → Below B u W9) : RepI w W9 pb me l (q + 1) := by
 obtain ⟨a1, a2, a3, a4, a5, L0, p0, c0, b1, b2, b3, b4⟩ := h
 have e := repl_take (P := plNew me) hx a1
 rw [if_neg (fun e => e hc)] at e
 have hpb := (Array.getElem?_eq_some_iff.1 b1).1
 have hw2 : Below wr.heap.size wr W2 := h1.trans (h2.mono h1.size)
 have hnz := next_zero hc
 have hok := (does_ok hnz.1 hnz.2.1 hnz.2.2.1).1
 have hs1 := h1.size
 have hsw := a3.size
 unfold RepI
 rw [e]
 refine ⟨rfl, by rw [hnz.2.2.2]; exact hok, hB9 _ _ (by omega) (a3.trans (hw2.mono hsw)), (hk9 _ (by omega)).trans ((hw2.block _ (by omega)).trans a4), a5, L, p, cp, h9, ?_, fun g o e' => ?_, fun m hm => ?_⟩
 ·refine (hN.off (b := pb) (fun g o e' => ?_) (fun m hm => ?_) hk9).low (by omega)
  ·have := (hN.own.lt g (by rw [e']; rfl)).1; omega
  ·have h3 := (hN.new m hm).1
   exact ⟨farM_new h3 (by omega), fun e' => by have := (h3.grow_lt e').1; omega⟩
 ·have := (hN.own.lt g (by rw [e']; rfl)).1; omega
 ·have h3 := (hN.new m hm).1
  exact ⟨farM_new h3 (by omega), fun e' => by have := (h3.grow_lt e').1; omega⟩

theorem recs_cell' {w : World} {b o k : Nat} {l : List MRec} {x : MRec} {v : Value} (h : Lies w (some ⟨b, o, none⟩) (recCells l)) (hx : l[k]? = some x) (j : Nat) (hv : x.cells[j]? = some v) : w.cell? ⟨b, o + k * 13 + j, none⟩ = some v := recs_cell ⟨h, hx⟩ j hv

set_option maxHeartbeats 8000000 in
set_option maxRecDepth 8000 in
theorem replay_any (me : Int) (pa : Option Addr) (pc : Nat) (ml : List MRec) (w : World) (hl : Lies w pa (recCells ml)) (hall : ∀ m ∈ ml, RecIn w m ∧ RecShort m ∧ m.r.ints) (hm : ml.length ≤ maxLen) (hc : ml.length ≤ pc) (hL : Laid w) :
  Calls Tryz.prog 9 #[.int .i64 me, .slice pa ml.length pc] w (RepR w (replayP me (ml.map MRec.r)) (replayC me (ml.map MRec.r))) := by
 obtain ⟨n, hn⟩ : ∃ n, ml.length = n := ⟨_, rfl⟩
 rw [hn] at hm hc ⊢
 obtain ⟨W, hW⟩ : ∃ W, w.alloc (.cells #[.int .i64 0, .slice none 0 0, .int .i64 0, .int .i64 0] 25) = W := ⟨_, rfl⟩
 have hb : Below w.heap.size w W := by rw [← hW]; exact (Below.refl _ _).alloc (Nat.le_refl _) _
 have hz : W.heap[w.heap.size]? = some (.cells #[.int .i64 0, .slice none 0 0, .int .i64 0, .int .i64 0] 25 (0, 0)) := by rw [← hW, heap_alloc_eq, if_pos rfl]
 have hNw := placeNew_any me W
 have HW := Shut.mk hW
 have H := Shut.mk (And.intro hb (And.intro hz (And.intro hl (And.intro hall (And.intro hn hL)))))
 have bad : ∀ (z : Int) (u : World), replayC me (ml.map MRec.r) = z → z ≠ 0 → replayP me (ml.map MRec.r) = pl0 → Below w.heap.size w u → Shut (RepR w (replayP me (ml.map MRec.r)) (replayC me (ml.map MRec.r)) (.returned (.tuple #[.agg #[.int .i64 0, .slice none 0 0, .int .i64 0, .int .i64 0], .int .i64 z])) u) := fun z u h1 h2 h3 h4 => ⟨by
  rw [h1, h3]
  exact ⟨[], none, 0, rfl, ⟨PlNew.none _ _, h4⟩⟩⟩
 generalize hcc : newCode me = z at hNw
 have HC := Shut.mk hcc
 have hrl : (ml.map MRec.r).length = n := by rw [List.length_map, hn]
 clear hb hz hW hl hall hL hcc hn
 go_enter Tryz.func9, Tryz.ntmps9
 go_upto_region 1 with fail
 rw [HW.out]
 clear HW
 go_wp2_with fail
 refine hNw.mono ?_
 rintro e W1 ⟨m', rfl, HN⟩
 clear hNw
 have hb1 := H.out.1.trans (HN.out.2.2.mono H.out.1.size)
 have hz1 := blkB H.out.2.1 HN.out.2.2
 go_upto_region 2 with fail
 obtain ⟨V, hV⟩ : ∃ V, W1.alloc (.cells #[.int .i64 m', .slice none 0 0, .int .i64 0, .int .i64 0] 25) = V := ⟨_, rfl⟩
 rw [hV]
 have hb2 : Below W1.heap.size W1 V := by rw [← hV]; exact (Below.refl _ _).alloc (Nat.le_refl _) _
 have hpV : V.heap[W1.heap.size]? = some (.cells #[.int .i64 m', .slice none 0 0, .int .i64 0, .int .i64 0] 25 (0, 0)) := by rw [← hV, heap_alloc_eq, if_pos rfl]
 have hbV := hb1.trans (hb2.mono hb1.size)
 have hzV := blkB hz1 hb2
 have hws : w.heap.size < W1.heap.size := (Array.getElem?_eq_some_iff.1 hz1).1
 clear hV hb2 hb1 hz1
 obtain ⟨g0, g1, g2, g3⟩ := plBox hzV
 have f0 := frzB hzV 0
 have f1 := frzB hzV 1
 have f2 := frzB hzV 2
 have f3 := frzB hzV 3
 rcases eqDec z 0 with ⟨y1, y2, y3, y4⟩ | ⟨y1, y2, y3, y4⟩
 case inr =>
  have HY := Shut.mk y1
  clear y1
  go_wp2
  obtain ⟨W9, hW9, hb9, hk9, hB9⟩ := box4 V w.heap.size 25 _ _ _ _ (.int .i64 0) (.slice none 0 0) (.int .i64 0) (.int .i64 0) hzV
  rw [hW9]
  have R := bad z W9 (by unfold replayC; rw [if_pos (by rw [HC.out]; exact HY.out), HC.out]) HY.out (by unfold replayP; rw [if_pos (by rw [HC.out]; exact HY.out)]) (hB9 _ _ (Nat.le_refl _) hbV)
  clear hW9 hk9 hB9 g0 g1 g2 g3 f0 f1 f2 f3 hzV
  obtain ⟨g0, g1, g2, g3⟩ := plBox hb9
  refine bodyPost_ret (v := .tuple #[.agg #[.int .i64 0, .slice none 0 0, .int .i64 0, .int .i64 0], .int .i64 z]) (by simp [results, Tryz.results9, go_sem, g0, g1, g2, g3]) rfl ?_
  exact R.out
 case inl =>
  have hn0 : newCode me = 0 := HC.out.trans y1
  subst y1
  have hme : m' = me := HN.out.1 rfl
  subst hme
  by_cases c1 : 200 < n
  case pos =>
   have l1 : (200 : Int) < (n : Int) := by omega
   have HY := Shut.mk (And.intro hn0 (show 200 < (ml.map MRec.r).length from by rw [hrl]; exact c1))
   clear hn0
   go_wp2
   obtain ⟨W9, hW9, hb9, hk9, hB9⟩ := box4 V w.heap.size 25 _ _ _ _ (.int .i64 0) (.slice none 0 0) (.int .i64 0) (.int .i64 0) hzV
   rw [hW9]
   have R := bad 2 W9 (by unfold replayC; rw [if_neg (fun e => e HY.out.1), if_pos HY.out.2]) (by decide) (by unfold replayP; rw [if_neg (fun e => e HY.out.1), if_pos HY.out.2]) (hB9 _ _ (Nat.le_refl _) hbV)
   clear hW9 hk9 hB9 g0 g1 g2 g3 f0 f1 f2 f3 hzV
   obtain ⟨g0, g1, g2, g3⟩ := plBox hb9
   refine bodyPost_ret (v := .tuple #[.agg #[.int .i64 0, .slice none 0 0, .int .i64 0, .int .i64 0], .int .i64 2]) (by simp [results, Tryz.results9, go_sem, g0, g1, g2, g3]) rfl ?_
   exact R.out
  case neg =>
   have l1 : ¬ (200 : Int) < (n : Int) := by omega
   have HY := Shut.mk (And.intro hn0 (show ¬ 200 < (ml.map MRec.r).length from by rw [hrl]; exact c1))
   have HI0 : Shut (RepI w V W1.heap.size m' (ml.map MRec.r) 0) := ⟨rfl, new_ok hn0, hbV, hzV, hws, [], none, 0, hpV, PlNew.none _ _, fun g o e => (by cases e), fun m hm => (by cases hm)⟩
   clear hn0 hbV hzV hpV g0 g1 g2 g3 f0 f1 f2 f3
   go_wp2
   go_loopw [7, 25] (fun ev i wr => ∃ q : Nat, q ≤ n ∧ ev = .int .i64 0 ∧ i = .int .i64 q ∧ Shut (RepI w wr W1.heap.size m' (ml.map MRec.r) q)) (fun _ i _ => n - (intOf i).toNat)
   case atStart => exact ⟨0, Nat.zero_le _, rfl, rfl, HI0⟩
   case round =>
    clear HI0
    obtain ⟨q, hq, rfl, rfl, HI⟩ := hrel
    by_cases hlt : q < n
    ·obtain ⟨x, hx⟩ : ∃ x, ml[q]? = some x := ⟨_, List.getElem?_eq_getElem (by rw [H.out.2.2.2.2.1]; exact hlt)⟩
     have hxr : (ml.map MRec.r)[q]? = some x.r := by rw [List.getElem?_map, hx]; rfl
     have hxa := H.out.2.2.2.1 x (List.mem_of_getElem? hx)
     obtain ⟨a1, a2, a3, a4, a5, L0, p0, c0, b1, b2, b3, b4⟩ := HI.out
     have hlr := H.out.2.2.1.below a3 (Nat.le_refl _)
     obtain ⟨gb, go, rfl⟩ := hlr.some (k := 13 * q) (by rw [recCells_length, H.out.2.2.2.2.1]; omega)
     have HX := Shut.mk (And.intro hxr (And.intro hxa (And.intro a2 (And.intro a3 (And.intro a4 b1)))))
     have s0 : wr.cell? ⟨gb, go + q * 13, none⟩ = some (.int .i64 x.r.k) := recs_cell' hlr hx 0 rfl
     have s1 : wr.cell? ⟨gb, go + q * 13 + 1, none⟩ = some (.int .i64 x.r.p) := recs_cell' hlr hx 1 rfl
     have s2 : wr.cell? ⟨gb, go + q * 13 + 2, none⟩ = some (.int .i64 x.r.n) := recs_cell' hlr hx 2 rfl
     have s3 : wr.cell? ⟨gb, go + q * 13 + 3, none⟩ = some (.int .i64 x.r.y) := recs_cell' hlr hx 3 rfl
     have s4 : wr.cell? ⟨gb, go + q * 13 + 4, none⟩ = some (.int .i64 x.r.h.F) := recs_cell' hlr hx 4 rfl
     have s5 : wr.cell? ⟨gb, go + q * 13 + 5, none⟩ = some (.int .i64 x.r.h.Q) := recs_cell' hlr hx 5 rfl
     have s6 : wr.cell? ⟨gb, go + q * 13 + 6, none⟩ = some (.int .i64 x.r.h.T) := recs_cell' hlr hx 6 rfl
     have s7 : wr.cell? ⟨gb, go + q * 13 + 7, none⟩ = some (.int .i64 x.r.h.L) := recs_cell' hlr hx 7 rfl
     have s8 : wr.cell? ⟨gb, go + q * 13 + 8, none⟩ = some (.int .i64 x.r.h.B) := recs_cell' hlr hx 8 rfl
     have s9 : wr.cell? ⟨gb, go + q * 13 + 9, none⟩ = some (.int .i64 x.r.h.K) := recs_cell' hlr hx 9 rfl
     have s10 : wr.cell? ⟨gb, go + q * 13 + 10, none⟩ = some (.int .i64 x.r.id) := recs_cell' hlr hx 10 rfl
     have s11 : wr.cell? ⟨gb, go + q * 13 + 11, none⟩ = some (.slice x.da x.r.d.length x.dc) := recs_cell' hlr hx 11 rfl
     have s12 : wr.cell? ⟨gb, go + q * 13 + 12, none⟩ = some (.slice x.ca x.r.c.length x.cc) := recs_cell' hlr hx 12 rfl
     obtain ⟨P, hP⟩ : ∃ P, (repl (plNew m') ((ml.map MRec.r).take q)).2 = P := ⟨_, rfl⟩
     have hST : ∀ (W2 W4 W9 : World) (L : List MKp) (p : Option Addr) (cp : Nat), P.nextCode x.r = 0 → Below wr.heap.size wr W2 → Below W2.heap.size W2 W4 → PlNew W2.heap.size W4 (P.next x.r).kp L p cp → W9.heap[W1.heap.size]? = some (.cells #[.int .i64 (P.next x.r).me, .slice p (P.next x.r).kp.length cp, .int .i64 (P.next x.r).tm, .int .i64 (P.next x.r).sq] 25 (0, 0)) → (∀ k, k ≠ W1.heap.size → W9.heap[k]? = W4.heap[k]?) → (∀ B u, B ≤ W1.heap.size → Below B u W4 → Below B u W9) → RepI w W9 W1.heap.size m' (ml.map MRec.r) (q + 1) := by
      rw [← hP]
      exact fun W2 W4 W9 L p cp e1 e2 e3 e4 e5 e6 e7 => HI.out.step hxr e1 e2 e3 e4 e5 e6 e7
     have hEnd : P.nextCode x.r ≠ 0 → replayC m' (ml.map MRec.r) = P.nextCode x.r ∧ replayP m' (ml.map MRec.r) = pl0 := fun hne => by
      have e := repl_take (P := plNew m') hxr a1
      rw [hP, if_pos hne] at e
      have e2 := repl_stop ((ml.map MRec.r).drop (q + 1)) (show (repl (plNew m') ((ml.map MRec.r).take (q + 1))).1 ≠ 0 from by rw [e]; exact hne)
      rw [List.take_append_drop, e] at e2
      refine ⟨?_, ?_⟩
      ·unfold replayC; rw [if_neg (fun e => e HY.out.1), if_neg HY.out.2, e2]
      ·unfold replayP; rw [if_neg (fun e => e HY.out.1), if_neg HY.out.2, if_pos (by rw [e2]; exact hne)]
     rw [hP] at b1 b2 a2
     have hgood := b2.good a2
     have HST := Shut.mk hST
     have HE := Shut.mk hEnd
     obtain ⟨k0, hk0⟩ : ∃ k0, P.kp.length = k0 := ⟨_, rfl⟩
     have HK := Shut.mk hk0
     rw [hk0] at b1
     have BX := Shut.mk b1
     clear hST hEnd HI hP hx hxr hlr a1 a4 b3 b4
     go_upto_region 9 with fail
     obtain ⟨W2, hW2⟩ : ∃ W2, wr.alloc (.cells #[.int .i64 x.r.k, .int .i64 x.r.p, .int .i64 x.r.n, .int .i64 x.r.y, .int .i64 x.r.h.F, .int .i64 x.r.h.Q, .int .i64 x.r.h.T, .int .i64 x.r.h.L, .int .i64 x.r.h.B, .int .i64 x.r.h.K, .int .i64 x.r.id, .slice x.da x.r.d.length x.dc, .slice x.ca x.r.c.length x.cc] 40) = W2 := ⟨_, rfl⟩
     rw [hW2]
     have hb2 : Below wr.heap.size wr W2 := by rw [← hW2]; exact (Below.refl _ _).alloc (Nat.le_refl _) _
     have hx2 : W2.heap[wr.heap.size]? = some (.cells #[.int .i64 x.r.k, .int .i64 x.r.p, .int .i64 x.r.n, .int .i64 x.r.y, .int .i64 x.r.h.F, .int .i64 x.r.h.Q, .int .i64 x.r.h.T, .int .i64 x.r.h.L, .int .i64 x.r.h.B, .int .i64 x.r.h.K, .int .i64 x.r.id, .slice x.da x.r.d.length x.dc, .slice x.ca x.r.c.length x.cc] 40 (0, 0)) := by rw [← hW2, heap_alloc_eq, if_pos rfl]
     have hw2 := a3.trans (hb2.mono a3.size)
     have hN := placeNext_any P p0 c0 L0 x.r x.da x.dc x.ca x.cc W2 (hgood.1.below hb2 (Nat.le_refl _)) (fun m hm => (hgood.2.1 m hm).below hb2) hgood.2.2.2.1 (by rw [hgood.2.2.1]; exact hgood.2.2.2.2.1) hgood.2.2.2.2.2 hxa.2.2 hxa.2.1.1 (hxa.1.1.below hw2 (Nat.le_refl _)) (hxa.1.2.below hw2 (Nat.le_refl _)) (H.out.2.2.2.2.2.below hw2)
     rw [hgood.2.2.1, hk0] at hN
     simp only [rcV] at hN
     obtain ⟨d0, d1, d2, d3⟩ := plBox (blkB b1 hb2)
     obtain ⟨t0, t1, t2, t3, t4, t5, t6, t7, t8, t9, t10, t11, t12⟩ := rcBox hx2
     have HB := Shut.mk (And.intro hb2 hw2)
     clear hW2 hb2 hx2 hgood b1 b2 a2 hxa s0 s1 s2 s3 s4 s5 s6 s7 s8 s9 s10 s11 s12
     go_wp2_with fail
     refine hN.mono ?_
     rintro e W4 ⟨L4, p4, c4, rfl, H4⟩
     clear hN t0 t1 t2 t3 t4 t5 t6 t7 t8 t9 t10 t11 t12 d0 d1 d2 d3
     have hw4 := HB.out.2.trans (H4.out.2.mono HB.out.2.size)
     have hb4 : Below wr.heap.size wr W4 := HB.out.1.trans (H4.out.2.mono HB.out.1.size)
     have hpb4 := blkB BX.out hb4
     have hz4 := blkB HX.out.2.2.2.2.1 hb4
     obtain ⟨d0, d1, d2, d3⟩ := plBox hpb4
     have e0 := frzB hpb4 0
     have e1 := frzB hpb4 1
     have e2 := frzB hpb4 2
     have e3 := frzB hpb4 3
     go_upto_region 10 with fail
     obtain ⟨W9, hW9, hb9, hk9, hB9⟩ := box4 W4 W1.heap.size 25 _ _ _ _ (.int .i64 (P.next x.r).me) (.slice p4 (P.next x.r).kp.length c4) (.int .i64 (P.next x.r).tm) (.int .i64 (P.next x.r).sq) hpb4
     rw [hW9]
     obtain ⟨z, hzc⟩ : ∃ z, P.nextCode x.r = z := ⟨_, rfl⟩
     rw [hzc]
     have HZ := Shut.mk hzc
     clear hW9 d0 d1 d2 d3 e0 e1 e2 e3 hzc
     rcases eqDec z 0 with ⟨y1, y2', y3', y4'⟩ | ⟨y1, y2', y3', y4'⟩
     case inr =>
      have hz9 : W9.heap[w.heap.size]? = some (.cells #[.int .i64 0, .slice none 0 0, .int .i64 0, .int .i64 0] 25 (0, 0)) := (hk9 _ (by omega)).trans hz4
      have hw9 : Below w.heap.size w W9 := hB9 _ _ (by omega) hw4
      have R := fun u => bad z u ((HE.out (by rw [HZ.out]; exact y1)).1.trans HZ.out) y1 (HE.out (by rw [HZ.out]; exact y1)).2
      clear y1 hk9 hB9 hb9 hz4 hpb4
      obtain ⟨g0, g1, g2, g3⟩ := plBox hz9
      have f0 := frzB hz9 0
      have f1 := frzB hz9 1
      have f2 := frzB hz9 2
      have f3 := frzB hz9 3
      go_wp2
      obtain ⟨WA, hWA, hbA, hkA, hBA⟩ := box4 W9 w.heap.size 25 _ _ _ _ (.int .i64 0) (.slice none 0 0) (.int .i64 0) (.int .i64 0) hz9
      rw [hWA]
      have R2 := R WA (hBA _ _ (Nat.le_refl _) hw9)
      clear hWA hkA hBA g0 g1 g2 g3 f0 f1 f2 f3 hz9 R
      obtain ⟨g0, g1, g2, g3⟩ := plBox hbA
      refine bodyPost_ret (v := .tuple #[.agg #[.int .i64 0, .slice none 0 0, .int .i64 0, .int .i64 0], .int .i64 z]) (by simp [results, Tryz.results9, go_sem, g0, g1, g2, g3]) rfl ?_
      exact R2.out
     case inl =>
      subst y1
      have R := Shut.mk (HST.out W2 W4 W9 L4 p4 c4 HZ.out HB.out.1 H4.out.2 H4.out.1 hb9 hk9 hB9)
      clear hk9 hB9 hb9 hz4 hpb4
      go_wp2
      go_roundw
      case rel => exact ⟨q + 1, by omega, rfl, by go_num, R⟩
      case measure => simp [intOf]; omega
    ·obtain rfl : q = n := by omega
     obtain ⟨a1, a2, a3, a4, a5, L0, p0, c0, b1, b2, b3, b4⟩ := HI.out
     have ht : (ml.map MRec.r).take q = ml.map MRec.r := List.take_of_length_le (by rw [hrl]; exact Nat.le_refl _)
     rw [ht] at a1 b1 b2
     have hRC : replayC m' (ml.map MRec.r) = 0 ∧ replayP m' (ml.map MRec.r) = (repl (plNew m') (ml.map MRec.r)).2 := by
      refine ⟨?_, ?_⟩
      ·unfold replayC; rw [if_neg (fun e => e HY.out.1), if_neg HY.out.2, a1]
      ·unfold replayP; rw [if_neg (fun e => e HY.out.1), if_neg HY.out.2, if_neg (fun e => e a1)]
     generalize (repl (plNew m') (ml.map MRec.r)).2 = Q at b1 b2 hRC
     obtain ⟨k0, hk0⟩ : ∃ k0, Q.kp.length = k0 := ⟨_, rfl⟩
     have HK := Shut.mk (And.intro hk0 (And.intro hRC (And.intro b2 a3)))
     rw [hk0] at b1
     clear hk0 hRC HI a1 a2 b3 b4
     obtain ⟨d0, d1, d2, d3⟩ := plBox b1
     obtain ⟨g0, g1, g2, g3⟩ := plBox a4
     have f0 := frzB a4 0
     have f1 := frzB a4 1
     have f2 := frzB a4 2
     have f3 := frzB a4 3
     go_wp2
     obtain ⟨W9, hW9, hb9, hk9, hB9⟩ := box4 wr w.heap.size 25 _ _ _ _ (.int .i64 Q.me) (.slice p0 k0 c0) (.int .i64 Q.tm) (.int .i64 Q.sq) a4
     rw [hW9]
     have R : Shut (RepR w (replayP m' (ml.map MRec.r)) (replayC m' (ml.map MRec.r)) (.returned (.tuple #[.agg #[.int .i64 Q.me, .slice p0 k0 c0, .int .i64 Q.tm, .int .i64 Q.sq], .int .i64 0])) W9) := by
      refine ⟨L0, p0, c0, ?_, ?_⟩
      ·rw [HK.out.2.1.1, HK.out.2.1.2, HK.out.1]
      ·rw [HK.out.2.1.2]
       exact ⟨HK.out.2.2.1.old (b := w.heap.size) (by omega) hk9 (by omega), hB9 _ _ (Nat.le_refl _) HK.out.2.2.2⟩
     clear hW9 hk9 hB9 g0 g1 g2 g3 f0 f1 f2 f3 a4 d0 d1 d2 d3 b1
     obtain ⟨g0, g1, g2, g3⟩ := plBox hb9
     refine bodyPost_ret (v := .tuple #[.agg #[.int .i64 Q.me, .slice p0 k0 c0, .int .i64 Q.tm, .int .i64 Q.sq], .int .i64 0]) (by simp [results, Tryz.results9, go_sem, g0, g1, g2, g3]) rfl ?_
     exact R.out

end Go.Proofs.YtakkajjoeimkdaaGreatDoor

namespace Go.Proofs.YtakkajjoeimkdaaGreatDoor
open Go.RowKit
set_option linter.unusedVariables false
set_option linter.unusedSimpArgs false

noncomputable instance decKp : DecidableEq Kp := fun _ _ => Classical.propDecidable _

theorem sym_cell {w : World} {b o k : Nat} {l : List MSym} {x : MSym} (h : Lies w (some ⟨b, o, none⟩) (symCells l) ∧ l[k]? = some x) : w.cell? ⟨b, o + k * 2, none⟩ = some (.int .i64 x.id) ∧ w.cell? ⟨b, o + k * 2 + 1, none⟩ = some (.slice x.a x.d.length x.c) := by
 obtain ⟨hk, rfl⟩ := List.getElem?_eq_some_iff.1 h.2
 exact sym_at h.1 hk

theorem keq_cases (a b : Int) : ((a == b) = true ∧ a = b) ∨ ((a == b) = false ∧ ¬ a = b) := by
 by_cases h : a = b
 ·exact Or.inl ⟨by simpa using h, h⟩
 ·exact Or.inr ⟨by simpa using h, h⟩

set_option maxHeartbeats 1000000 in
theorem kSymSame_any (x y : MSym) (w : World) (hx : SymIn w x) (hy : SymIn w y) :
  Calls Tryz.prog 84 #[.agg #[.int .i64 x.id, .slice x.a x.d.length x.c], .agg #[.int .i64 y.id, .slice y.a y.d.length y.c]] w fun e w' => e = .returned (.bool (decide (x.says = y.says))) ∧ Below w.heap.size w w' := by
 obtain ⟨N, hN⟩ : ∃ N, decide (x.says = y.says) = N := ⟨_, rfl⟩
 rw [hN]
 have sN := Shut.mk hN
 clear hN
 obtain ⟨W, hW⟩ : ∃ W, (w.alloc (.cells #[.int .i64 x.id, .slice x.a x.d.length x.c] 38)).alloc (.cells #[.int .i64 y.id, .slice y.a y.d.length y.c] 38) = W := ⟨_, rfl⟩
 have hB : Below w.heap.size w W := by rw [← hW]; exact ((Below.refl _ _).alloc (Nat.le_refl _) _).alloc (by simp) _
 have hk : W.heap[w.heap.size]? = some (.cells #[.int .i64 x.id, .slice x.a x.d.length x.c] 38 (0, 0)) := by rw [← hW, heap_alloc_eq, if_neg (by simp), heap_alloc_eq, if_pos rfl]
 have hk' : W.heap[w.heap.size + 1]? = some (.cells #[.int .i64 y.id, .slice y.a y.d.length y.c] 38 (0, 0)) := by rw [← hW, heap_alloc_eq, if_pos (by simp)]
 have HW := Shut.mk hW
 clear hW
 have hS := same_any x.a y.a x.d.length y.d.length x.c y.c x.d y.d W rfl rfl (hx.1.below hB (Nat.le_refl _)) (hy.1.below hB (Nat.le_refl _))
 have q0 : W.cell? ⟨w.heap.size, 0, none⟩ = some (.int .i64 x.id) := cellB hk 0 _ rfl
 have q1 : W.cell? ⟨w.heap.size, 1, none⟩ = some (.slice x.a x.d.length x.c) := cellB hk 1 _ rfl
 have s0 : W.cell? ⟨w.heap.size + 1, 0, none⟩ = some (.int .i64 y.id) := cellB hk' 0 _ rfl
 have s1 : W.cell? ⟨w.heap.size + 1, 1, none⟩ = some (.slice y.a y.d.length y.c) := cellB hk' 1 _ rfl
 clear hx hy hk hk'
 have ED : Shut (decide (x.d = y.d) = true ↔ x.d = y.d) := ⟨by simp⟩
 generalize decide (x.d = y.d) = dd at hS ED
 have no : ¬ (x.id = y.id ∧ x.d = y.d) → Shut (N = false) := fun g => ⟨by rw [← sN.out]; exact decide_eq_false (fun e => g (by unfold MSym.says at e; simpa using e))⟩
 go_enter Tryz.func84, Tryz.ntmps84
 go_upto_region 1 with fail
 rw [HW.out]
 clear HW
 rcases keq_cases x.id y.id with ⟨bqid, eid⟩ | ⟨bqid, eid⟩
 ·have Eid := Shut.mk eid
  clear eid
  go_wp2_with fail
  refine hS.mono ?_
  rintro e _ ⟨rfl, rfl⟩
  clear hS
  cases dd with
  | false =>
   have R := no (fun e => absurd (ED.out.2 e.2) (by simp))
   go_wp2
   go_ret
   exact ⟨by rw [R.out]; rfl, hB⟩
  | true =>
   have R : Shut (N = true) := ⟨by rw [← sN.out]; exact decide_eq_true (by unfold MSym.says; rw [Eid.out, ED.out.1 (by trivial)])⟩
   go_wp2
   go_ret
   exact ⟨by rw [R.out]; rfl, hB⟩
 ·have Eid := Shut.mk eid
  clear eid
  have R := no (fun e => Eid.out e.1)
  go_wp2
  go_ret
  exact ⟨by rw [R.out]; rfl, hB⟩

set_option maxHeartbeats 4000000 in
set_option maxRecDepth 8000 in
theorem equalSym_any (f : Nat) (eg : ∀ args w, (callFunc f args).run Tryz.prog w = .ok (.enter f args) w)
  (hf : ∀ (x y : MSym) (w : World), SymIn w x → SymIn w y → Calls Tryz.prog f #[.agg #[.int .i64 x.id, .slice x.a x.d.length x.c], .agg #[.int .i64 y.id, .slice y.a y.d.length y.c]] w fun e w' => e = .returned (.bool (decide (MSym.says x = MSym.says y))) ∧ Below w.heap.size w w')
  (a b : Option Addr) (ca cb : Nat) (xl yl : List MSym) (w : World) (hx : xl.length ≤ maxLen) (hy : yl.length ≤ maxLen) (ha : Lies w a (symCells xl)) (hb : Lies w b (symCells yl)) (hxa : ∀ y ∈ xl, SymIn w y) (hya : ∀ y ∈ yl, SymIn w y) :
  Calls Tryz.prog 83 #[.slice a xl.length ca, .slice b yl.length cb, .func (.func f) #[] #[]] w fun e w' => e = .returned (.bool (decide (xl.map (fun x => MSym.says x) = yl.map (fun x => MSym.says x)))) ∧ Below w.heap.size w w' := by
 obtain ⟨N, hN⟩ : ∃ N, decide (xl.map (fun x => MSym.says x) = yl.map (fun x => MSym.says x)) = N := ⟨_, rfl⟩
 rw [hN]
 have sN := Shut.mk hN
 have HF := Shut.mk hf
 clear hN hf
 by_cases hl : xl.length = yl.length
 ·obtain ⟨n, hn⟩ : ∃ n, xl.length = n := ⟨_, rfl⟩
  have hn2 : yl.length = n := by omega
  have HL := Shut.mk (And.intro hn hn2)
  rw [hn, hn2]
  rw [hn] at hx
  unfold maxLen at hx
  clear hl hn hn2 hy
  go_enter Tryz.func83, Tryz.ntmps83
  go_wp2
  go_loopw [17] (fun i wr => ∃ k : Nat, k ≤ n ∧ i = .int .i64 k ∧ Shut ((xl.map (fun x => MSym.says x)).take k = (yl.map (fun x => MSym.says x)).take k ∧ Below w.heap.size w wr)) (fun i _ => n - (intOf i).toNat)
  case atStart => exact ⟨0, Nat.zero_le _, rfl, ⟨rfl, Below.refl _ _⟩⟩
  case round =>
   obtain ⟨k, hk, rfl, HI⟩ := hrel
   obtain ⟨htk, hbr⟩ := HI.out
   by_cases hlt : k < n
   ·obtain ⟨b1, o1, rfl⟩ := ha.some (k := 0) (by rw [symCells_length, HL.out.1]; omega)
    obtain ⟨b2, o2, rfl⟩ := hb.some (k := 0) (by rw [symCells_length, HL.out.2]; omega)
    obtain ⟨x, hxk⟩ : ∃ x, xl[k]? = some x := ⟨_, List.getElem?_eq_getElem (by rw [HL.out.1]; exact hlt)⟩
    obtain ⟨y, hyk⟩ : ∃ y, yl[k]? = some y := ⟨_, List.getElem?_eq_getElem (by rw [HL.out.2]; exact hlt)⟩
    have h1 := And.intro (ha.below hbr (Nat.le_refl _)) hxk
    have h2 := And.intro (hb.below hbr (Nat.le_refl _)) hyk
    have hx1 := hxa x (List.mem_of_getElem? hxk)
    have hy1 := hya y (List.mem_of_getElem? hyk)
    have HK : Shut ((xl.map (fun x => MSym.says x)).take k = (yl.map (fun x => MSym.says x)).take k ∧ xl[k]? = some x ∧ yl[k]? = some y) := ⟨htk, hxk, hyk⟩
    clear htk hxk hyk HI
    have p0 : wr.cell? ⟨b1, o1 + k * 2, none⟩ = some (.int .i64 x.id) := (sym_cell h1).1
    have p1 : wr.cell? ⟨b1, o1 + k * 2 + 1, none⟩ = some (.slice x.a x.d.length x.c) := (sym_cell h1).2
    go_upto_region 6 with fail
    generalize hW1 : wr.alloc (.cells #[.int .i64 x.id, .slice x.a x.d.length x.c] 38) = W1
    have hb1 : Below wr.heap.size wr W1 := by rw [← hW1]; exact (Below.refl _ _).alloc (Nat.le_refl _) _
    have hq1 : W1.heap[wr.heap.size]? = some (.cells #[.int .i64 x.id, .slice x.a x.d.length x.c] 38 (0, 0)) := by rw [← hW1, heap_alloc_eq, if_pos rfl]
    have h3 := And.intro (h2.1.below hb1 (Nat.le_refl _)) h2.2
    clear hW1 h1 h2 p0 p1
    have p0 : W1.cell? ⟨b2, o2 + k * 2, none⟩ = some (.int .i64 y.id) := (sym_cell h3).1
    have p1 : W1.cell? ⟨b2, o2 + k * 2 + 1, none⟩ = some (.slice y.a y.d.length y.c) := (sym_cell h3).2
    go_upto_region 7 with fail
    generalize hW2 : W1.alloc (.cells #[.int .i64 y.id, .slice y.a y.d.length y.c] 38) = W2
    have hb2 : Below W1.heap.size W1 W2 := by rw [← hW2]; exact (Below.refl _ _).alloc (Nat.le_refl _) _
    have hq2 : W2.heap[W1.heap.size]? = some (.cells #[.int .i64 y.id, .slice y.a y.d.length y.c] 38 (0, 0)) := by rw [← hW2, heap_alloc_eq, if_pos rfl]
    have hq3 := blkB hq1 hb2
    have hB2 := (hbr.trans (hb1.mono hbr.size)).trans (hb2.mono (hbr.trans (hb1.mono hbr.size)).size)
    have hC := HF.out x y W2 (hx1.below hB2) (hy1.below hB2)
    clear hW2 h3 hq1 hb1 hb2 hx1 hy1 p0 p1
    have p0 : W2.cell? ⟨wr.heap.size, 0, none⟩ = some (.int .i64 x.id) := cellB hq3 0 _ rfl
    have p1 : W2.cell? ⟨wr.heap.size, 1, none⟩ = some (.slice x.a x.d.length x.c) := cellB hq3 1 _ rfl
    have q0 : W2.cell? ⟨W1.heap.size, 0, none⟩ = some (.int .i64 y.id) := cellB hq2 0 _ rfl
    have q1 : W2.cell? ⟨W1.heap.size, 1, none⟩ = some (.slice y.a y.d.length y.c) := cellB hq2 1 _ rfl
    go_wp2_with fail
    refine hC.mono ?_
    rintro e W3 ⟨rfl, hb3⟩
    have hB3 := hB2.trans (hb3.mono hB2.size)
    clear hC hb3 hq2 hq3 hB2 p0 p1 q0 q1
    by_cases hd : MSym.says x = MSym.says y
    ·have R : Shut ((xl.map (fun x => MSym.says x)).take (k + 1) = (yl.map (fun x => MSym.says x)).take (k + 1) ∧ Below w.heap.size w W3) := ⟨by
      rw [List.take_add_one, List.take_add_one, HK.out.1, List.getElem?_map, List.getElem?_map, HK.out.2.1, HK.out.2.2]
      simp [hd], hB3⟩
     rw [decide_eq_true hd]
     clear hd hB3
     go_wp2
     go_roundw
     case rel => exact ⟨k + 1, by omega, by go_num, R⟩
     case measure => simp [intOf]; omega
    ·have HD : Shut (N = false) := ⟨by
      rw [← sN.out]
      refine decide_eq_false fun e => hd ?_
      have h1 : (xl.map (fun x => MSym.says x))[k]? = (yl.map (fun x => MSym.says x))[k]? := by rw [e]
      rw [List.getElem?_map, List.getElem?_map, HK.out.2.1, HK.out.2.2] at h1
      simpa using h1⟩
     rw [decide_eq_false hd]
     clear hd
     go_wp2
     go_ret
     exact ⟨by rw [HD.out]; rfl, hB3⟩
   ·have HD : Shut (N = true) := ⟨by
     rw [← sN.out]
     refine decide_eq_true ?_
     rw [List.take_of_length_le (by rw [List.length_map, HL.out.1]; omega), List.take_of_length_le (by rw [List.length_map, HL.out.2]; omega)] at htk
     exact htk⟩
    clear HI htk
    go_wp2
    go_ret
    exact ⟨by rw [HD.out]; rfl, hbr⟩
 ·have hne : ((xl.length : Int) != (yl.length : Int)) = true := by simp; omega
  have HD : Shut (N = false) := ⟨by rw [← sN.out]; exact decide_eq_false fun e => hl (by have := congrArg List.length e; simpa using this)⟩
  clear hl ha hb
  go_enter Tryz.func83, Tryz.ntmps83
  go_wp2
  go_ret
  exact ⟨by rw [HD.out]; rfl, Below.refl _ _⟩

theorem neqTaken (a b c d : Int) (W : World) : (binOp .neq 149 (.agg #[.int .i64 a, .int .i64 b]) (.agg #[.int .i64 c, .int .i64 d])).run Tryz.prog W = .ok (.bool (!decide ((a, b) = (c, d)))) W := by
 have hs : Tryz.prog.underlying 149 = some (.struct (Tryz.prog.fieldsOf 149)) := by kernel_rfl
 have hp : Tryz.prog.stoodInHeld 149 = false := by kernel_rfl
 have hi := Tryz.underlying3
 have hE : ∀ (x y : Int) (w : World) (d : Nat), (Op.equalIn (d + 1) 3 (.int .i64 x) (.int .i64 y)).run Tryz.prog w = .ok (x == y) w := fun x y w d => run_equalIn_int w d 3 .i64 .i64 x y hi
 rw [run_neq_struct, run_equalIn_agg W 9999 _ _ _ hs hp]
 simp only [Program.fieldsOf, Tryz.underlying149]
 simp [Op.eqFields, go_sem, hE]
 by_cases h1 : a = c <;> by_cases h2 : b = d <;> simp [h1, h2]

theorem tk_cellK {w : World} {b o k : Nat} {l : List (Int × Int)} {x : Int × Int} (h : Lies w (some ⟨b, o, none⟩) (tkCells l) ∧ l[k]? = some x) : w.cell? ⟨b, o + k * 2, none⟩ = some (.int .i64 x.1) ∧ w.cell? ⟨b, o + k * 2 + 1, none⟩ = some (.int .i64 x.2) := by
 obtain ⟨hk, rfl⟩ := List.getElem?_eq_some_iff.1 h.2
 have h0 := h.1.at (tkCells_get hk).1
 have h1 := h.1.at (tkCells_get hk).2
 rw [Nat.mul_comm] at h0
 rw [Nat.mul_comm, ← Nat.add_assoc] at h1
 exact ⟨h0, h1⟩

set_option maxHeartbeats 2000000 in
set_option maxRecDepth 8000 in
theorem equalTk_any (a b : Option Addr) (ca cb : Nat) (xl yl : List (Int × Int)) (w : World) (hx : xl.length ≤ maxLen) (hy : yl.length ≤ maxLen) (ha : Lies w a (tkCells xl)) (hb : Lies w b (tkCells yl)) :
  Calls Tryz.prog 85 #[.slice a xl.length ca, .slice b yl.length cb] w fun e w' => e = .returned (.bool (decide (xl = yl))) ∧ Below w.heap.size w w' := by
 obtain ⟨N, hN⟩ : ∃ N, decide (xl = yl) = N := ⟨_, rfl⟩
 rw [hN]
 have sN := Shut.mk hN
 clear hN
 by_cases hl : xl.length = yl.length
 ·obtain ⟨n, hn⟩ : ∃ n, xl.length = n := ⟨_, rfl⟩
  have hn2 : yl.length = n := by omega
  have HL := Shut.mk (And.intro hn hn2)
  rw [hn, hn2]
  rw [hn] at hx
  unfold maxLen at hx
  clear hl hn hn2 hy
  go_enter Tryz.func85, Tryz.ntmps85
  go_wp2
  go_loopw [13] (fun i wr => ∃ k : Nat, k ≤ n ∧ i = .int .i64 k ∧ Shut (xl.take k = yl.take k ∧ Below w.heap.size w wr)) (fun i _ => n - (intOf i).toNat)
  case atStart => exact ⟨0, Nat.zero_le _, rfl, ⟨rfl, Below.refl _ _⟩⟩
  case round =>
   obtain ⟨k, hk, rfl, HI⟩ := hrel
   obtain ⟨htk, hbr⟩ := HI.out
   by_cases hlt : k < n
   ·obtain ⟨b1, o1, rfl⟩ := ha.some (k := 0) (by rw [tkCells_length, HL.out.1]; omega)
    obtain ⟨b2, o2, rfl⟩ := hb.some (k := 0) (by rw [tkCells_length, HL.out.2]; omega)
    obtain ⟨⟨x1, x2⟩, hxk⟩ : ∃ x, xl[k]? = some x := ⟨_, List.getElem?_eq_getElem (by rw [HL.out.1]; exact hlt)⟩
    obtain ⟨⟨y1, y2⟩, hyk⟩ : ∃ y, yl[k]? = some y := ⟨_, List.getElem?_eq_getElem (by rw [HL.out.2]; exact hlt)⟩
    obtain ⟨p0, p1⟩   := tk_cellK (And.intro (ha.below hbr (Nat.le_refl _)) hxk)
    obtain ⟨q0, q1⟩   := tk_cellK (And.intro (hb.below hbr (Nat.le_refl _)) hyk)
    simp only at p0 p1 q0 q1
    have hC := neqTaken x1 x2 y1 y2
    have HK : Shut (xl.take k = yl.take k ∧ xl[k]? = some (x1, x2) ∧ yl[k]? = some (y1, y2)) := ⟨htk, hxk, hyk⟩
    have hbd : ∀ nn : Nat, Below w.heap.size w (wr.drewN nn) := fun nn => hbr.trans (bdn wr nn _)
    have hk1 : (k : Int) < (n : Int) := by omega
    clear htk hxk hyk HI
    by_cases hd : (x1, x2) = (y1, y2)
    ·have R : ∀ nn : Nat, Shut (xl.take (k + 1) = yl.take (k + 1) ∧ Below w.heap.size w (wr.drewN nn)) := fun nn => ⟨by
      rw [List.take_add_one, List.take_add_one, HK.out.1, HK.out.2.1, HK.out.2.2, hd], hbd nn⟩
     rw [decide_eq_true hd] at hC
     clear hd hbd
     go_wp2_with (go_quiet (fail))
     go_wp2
     go_roundw
     case rel => exact ⟨k + 1, by omega, by go_num, R _⟩
     case measure => simp [intOf]; omega
    ·have HD : Shut (N = false) := ⟨by
      rw [← sN.out]
      refine decide_eq_false fun e => hd ?_
      have h1 : xl[k]? = yl[k]? := by rw [e]
      rw [HK.out.2.1, HK.out.2.2] at h1
      exact Option.some.inj h1⟩
     rw [decide_eq_false hd] at hC
     clear hd
     go_wp2_with (go_quiet (fail))
     go_wp2
     go_ret
     exact ⟨by rw [HD.out]; rfl, hbd _⟩
   ·have HD : Shut (N = true) := ⟨by
     rw [← sN.out]
     refine decide_eq_true ?_
     rw [List.take_of_length_le (by rw [HL.out.1]; omega), List.take_of_length_le (by rw [HL.out.2]; omega)] at htk
     exact htk⟩
    clear HI htk
    go_wp2
    go_ret
    exact ⟨by rw [HD.out]; rfl, hbr⟩
 ·have hne : ((xl.length : Int) != (yl.length : Int)) = true := by simp; omega
  have HD : Shut (N = false) := ⟨by rw [← sN.out]; exact decide_eq_false fun e => hl (by rw [e])⟩
  clear hl ha hb
  go_enter Tryz.func85, Tryz.ntmps85
  go_wp2
  go_ret
  exact ⟨by rw [HD.out]; rfl, Below.refl _ _⟩

end Go.Proofs.YtakkajjoeimkdaaGreatDoor
