import Derived.Test.YtakkajjoeimkdaaGreatDoorPart21
import Derived.Deep.RegionHeld3
import Derived.Test.YtakkajjoeimkdaaGreatDoorPart16
import Derived.Test.YtakkajjoeimkdaaGreatDoorPart19
import Derived.Deep.AppendLies
namespace Go.Proofs.YtakkajjoeimkdaaGreatDoor
open Go.RowKit
set_option linter.unusedVariables false
set_option linter.unusedSimpArgs false
attribute [local go_sem ↓] Go.wp_at_zero Go.wp_at_succ

theorem plBox {W : World} {g : Nat} {a b c d : Value} (h : W.heap[g]? = some (.cells #[a, b, c, d] 25 (0, 0))) : W.cell? ⟨g, 0, none⟩ = some a ∧ W.cell? ⟨g, 1, none⟩ = some b ∧ W.cell? ⟨g, 2, none⟩ = some c ∧ W.cell? ⟨g, 3, none⟩ = some d :=
 ⟨cellB h 0 _ rfl, cellB h 1 _ rfl, cellB h 2 _ rfl, cellB h 3 _ rfl⟩

theorem frzB {W : World} {g : Nat} {c : Array Value} {T : TypeId} (h : W.heap[g]? = some (.cells c T (0, 0))) (j : Nat) : W.frozen? ⟨g, j, none⟩ = false := by simp [World.frozen?, h]

theorem box4 (W : World) (g : Nat) (T : TypeId) (a0 a1 a2 a3 v0 v1 v2 v3 : Value) (hb : W.heap[g]? = some (.cells #[a0, a1, a2, a3] T (0, 0))) :
  ∃ W9, (((W.setCell ⟨g, 0, none⟩ v0).setCell ⟨g, 1, none⟩ v1).setCell ⟨g, 2, none⟩ v2).setCell ⟨g, 3, none⟩ v3 = W9 ∧ W9.heap[g]? = some (.cells #[v0, v1, v2, v3] T (0, 0)) ∧ (∀ k, k ≠ g → W9.heap[k]? = W.heap[k]?) ∧ (∀ B w, B ≤ g → Below B w W → Below B w W9) := by
 refine ⟨_, rfl, ?_, ?_, ?_⟩
 ·have h := setCell_blk (setCell_blk (setCell_blk (setCell_blk hb 0 v0) 1 v1) 2 v2) 3 v3
  simpa using h
 ·intro k hk
  rw [setCell_far _ _ hk, setCell_far _ _ hk, setCell_far _ _ hk, setCell_far _ _ hk]
 ·intro B w hB h
  exact (((h.setCell (p := ⟨g, 0, none⟩) hB _).setCell (p := ⟨g, 1, none⟩) hB _).setCell (p := ⟨g, 2, none⟩) hB _).setCell (p := ⟨g, 3, none⟩) hB _

theorem setK4 (W : World) (g : Nat) (T : TypeId) (a b c d v : Value) (h : W.heap[g]? = some (.cells #[a, b, c, d] T (0, 0))) :
  ∃ W', W.setCell ⟨g, 1, none⟩ v = W' ∧ W'.heap[g]? = some (.cells #[a, v, c, d] T (0, 0)) ∧ (∀ k, k ≠ g → W'.heap[k]? = W.heap[k]?) ∧ ∀ B w, B ≤ g → Below B w W → Below B w W' := by
 refine ⟨_, rfl, ?_, fun k hk => setCell_far _ _ hk, fun B w hB hb => hb.setCell (p := ⟨g, 1, none⟩) hB _⟩
 have := setCell_blk (v := v) h 1
 simpa using this

theorem kpCellsOf {W : World} {g : Nat} {a0 a1 a2 a3 a4 a5 a6 a7 a8 a9 a10 a11 a12 a13 a14 a15 : Value} (h : W.heap[g]? = some (.cells #[a0, a1, a2, a3, a4, a5, a6, a7, a8, a9, a10, a11, a12, a13, a14, a15] 88 (0, 0))) :
  W.cell? ⟨g, 0, none⟩ = some a0 ∧ W.cell? ⟨g, 1, none⟩ = some a1 ∧ W.cell? ⟨g, 2, none⟩ = some a2 ∧ W.cell? ⟨g, 3, none⟩ = some a3 ∧ W.cell? ⟨g, 4, none⟩ = some a4 ∧ W.cell? ⟨g, 5, none⟩ = some a5 ∧ W.cell? ⟨g, 6, none⟩ = some a6 ∧ W.cell? ⟨g, 7, none⟩ = some a7 ∧ W.cell? ⟨g, 8, none⟩ = some a8 ∧ W.cell? ⟨g, 9, none⟩ = some a9 ∧ W.cell? ⟨g, 10, none⟩ = some a10 ∧ W.cell? ⟨g, 11, none⟩ = some a11 ∧ W.cell? ⟨g, 12, none⟩ = some a12 ∧ W.cell? ⟨g, 13, none⟩ = some a13 ∧ W.cell? ⟨g, 14, none⟩ = some a14 ∧ W.cell? ⟨g, 15, none⟩ = some a15 :=
 ⟨cellB h 0 _ rfl, cellB h 1 _ rfl, cellB h 2 _ rfl, cellB h 3 _ rfl, cellB h 4 _ rfl, cellB h 5 _ rfl, cellB h 6 _ rfl, cellB h 7 _ rfl, cellB h 8 _ rfl, cellB h 9 _ rfl, cellB h 10 _ rfl, cellB h 11 _ rfl, cellB h 12 _ rfl, cellB h 13 _ rfl, cellB h 14 _ rfl, cellB h 15 _ rfl⟩

theorem PlNew.of {B : Nat} {V wr : World} {g n cp : Nat} {l : List Kp} (h : CopyK B V wr g n cp l n) : ∃ L, PlNew B wr l L (some ⟨g, 0, none⟩) cp := by
 obtain ⟨L, h1, h2, h3, h4, h5, h6⟩ := h
 have hn : L.length = n := by have := h2.1; rw [kpCells_length] at this; omega
 have hl : l.length = n := by rw [← h1, List.length_map, hn]
 have idx : ∀ m ∈ L, ∃ i : Nat, i < n ∧ L[i]? = some m := fun m hm => by
  obtain ⟨i, hi⟩ := List.mem_iff_getElem?.1 hm
  exact ⟨i, by have := (List.getElem?_eq_some_iff.1 hi).1; omega, hi⟩
 refine ⟨L, h1, by rw [hl]; exact h2, fun m hm => ?_, fun i j m m' hij e1 e2 => h5 i j m m' ?_ ?_ hij e1 e2⟩
 ·obtain ⟨i, hi, e⟩ := idx m hm
  refine ⟨(h4 i m e hi).1, fun g' o e' => ?_⟩
  simp only [Option.some.injEq, Addr.mk.injEq] at e'
  obtain ⟨rfl, _⟩ := e'
  exact ⟨(h3 m hm).2, (h4 i m e hi).2⟩
 ·have := (List.getElem?_eq_some_iff.1 e1).1; omega
 ·have := (List.getElem?_eq_some_iff.1 e2).1; omega

theorem far16 {W : World} {g a b j : Nat} {v0 v1 v2 v3 v4 v5 v6 v7 v8 v9 v10 v11 v12 v13 v14 v15 u : Value} (h : W.cell? ⟨b, j, none⟩ = some u) (hne : b ≠ g) : ((((((((((((((((W.setCell ⟨g, a, none⟩ v0).setCell ⟨g, a + 1, none⟩ v1).setCell ⟨g, a + 2, none⟩ v2).setCell ⟨g, a + 3, none⟩ v3).setCell ⟨g, a + 4, none⟩ v4).setCell ⟨g, a + 5, none⟩ v5).setCell ⟨g, a + 6, none⟩ v6).setCell ⟨g, a + 7, none⟩ v7).setCell ⟨g, a + 8, none⟩ v8).setCell ⟨g, a + 9, none⟩ v9).setCell ⟨g, a + 10, none⟩ v10).setCell ⟨g, a + 11, none⟩ v11).setCell ⟨g, a + 12, none⟩ v12).setCell ⟨g, a + 13, none⟩ v13).setCell ⟨g, a + 14, none⟩ v14).setCell ⟨g, a + 15, none⟩ v15).cell? ⟨b, j, none⟩ = some u := by
 rw [set16]
 rw [← h]
 simp only [World.cell?, setRun_far hne]

theorem PlNew.old {B B' b : Nat} {w w' : World} {l : List Kp} {L : List MKp} {p : Option Addr} {cp : Nat} (h : PlNew B w l L p cp) (hb : b < B) (hk : ∀ k, k ≠ b → w'.heap[k]? = w.heap[k]?) (hB : B' ≤ B) : PlNew B' w' l L p cp := by
 refine ⟨h.says, own_at (own_low h.own hB) (fun g e => hk g ?_), fun m hm => ⟨?_, (h.new m hm).2⟩, h.far⟩
 ·have := (h.own.lt g e).1
  omega
 ·have h1 := (h.new m hm).1
  exact (h1.keep (fun k => k = b) (fun k e => by subst e; exact ⟨farM_new h1 hb, fun e => by have := (h1.grow_lt e).1; omega⟩) (fun k _ e => hk k e)).mono hB

set_option maxHeartbeats 8000000 in
set_option maxRecDepth 8000 in
theorem placeCopy_any (me tm sq : Int) (pa : Option Addr) (pc : Nat) (l : List MKp) (w : World) (hl : Lies w pa (kpCells l)) (hall : ∀ m ∈ l, KpIn w m ∧ m.k.small) (hm : l.length ≤ 65536) :
  Calls Tryz.prog 35 #[.agg #[.int .i64 me, .slice pa l.length pc, .int .i64 tm, .int .i64 sq]] w fun e w' => ∃ (L : List MKp) (p : Option Addr) (cp : Nat), e = .returned (.agg #[.int .i64 me, .slice p l.length cp, .int .i64 tm, .int .i64 sq]) ∧ Shut (PlNew w.heap.size w' (l.map MKp.k) L p cp ∧ Below w.heap.size w w') := by
 obtain ⟨n, hn⟩ : ∃ n, l.length = n := ⟨_, rfl⟩
 have HX := Shut.mk (And.intro hn hall)
 rw [hn] at hm ⊢
 obtain ⟨W, hW⟩ : ∃ W, (w.alloc (.cells #[.int .i64 me, .slice pa n pc, .int .i64 tm, .int .i64 sq] 25)).alloc (.cells #[.int .i64 0, .slice none 0 0, .int .i64 0, .int .i64 0] 25) = W := ⟨_, rfl⟩
 have hB : Below w.heap.size w W := by rw [← hW]; exact ((Below.refl _ _).alloc (Nat.le_refl _) _).alloc (by simp) _
 have hk : W.heap[w.heap.size]? = some (.cells #[.int .i64 me, .slice pa n pc, .int .i64 tm, .int .i64 sq] 25 (0, 0)) := by rw [← hW, heap_alloc_eq, if_neg (by simp), heap_alloc_eq, if_pos rfl]
 have hr : W.heap[w.heap.size + 1]? = some (.cells #[.int .i64 0, .slice none 0 0, .int .i64 0, .int .i64 0] 25 (0, 0)) := by rw [← hW, heap_alloc_eq, if_pos (by simp)]
 have hsW : w.heap.size + 2 ≤ W.heap.size := by rw [← hW]; simp
 have hC := cloneP pa n pc (kpCells l) W (by rw [kpCells_length, hn]; omega) (kpCells_one _) hm (hl.below hB (Nat.le_refl _))
 have inW : ∀ m ∈ l, KpIn W m := fun m h => (hall m h).1.below hB
 obtain ⟨b0, b1, b2, b3⟩ := plBox hk
 have HW := Shut.mk hW
 clear hW hn hall hl
 go_enter Tryz.func35, Tryz.ntmps35
 go_upto_region 1 with fail
 rw [HW.out]
 clear HW
 go_wp2_with fail
 refine hC.mono ?_
 rintro e W1 ⟨p, cp, rfl, H1⟩
 have hk1 := blkB hk H1.out.2.2.2
 have hr1 := blkB hr H1.out.2.2.2
 have hB1 := hB.trans (H1.out.2.2.2.mono hB.size)
 have hs1 := Nat.le_trans hsW H1.out.2.2.2.size
 clear hC hk hr b0 b1 b2 b3
 obtain ⟨b0, b1, b2, b3⟩ := plBox hk1
 have f1 := frzB hk1 1
 go_upto_region 2 with fail
 obtain ⟨V, hV, hkV, hoV, hBV⟩ := setK4 W1 w.heap.size 25 _ _ _ _ (.slice p n cp) hk1
 rw [hV]
 have hrV : V.heap[w.heap.size + 1]? = _ := (hoV _ (by omega)).trans hr1
 have hBw := hBV _ _ (Nat.le_refl _) hB1
 have hsV : w.heap.size + 2 ≤ V.heap.size := Nat.le_trans hs1 (hBV 0 W1 (Nat.zero_le _) (Below.refl _ _)).size
 have owV : V.ownsRow (w.heap.size + 2) 88 16 (.slice p n cp) n (kpCells l) := by
  refine own_at (own_low H1.out.1 hsW) (fun g hg => hoV g ?_)
  have := (H1.out.1.lt g hg).1
  omega
 have inV : ∀ m ∈ l, KpIn V m := fun m h => ((HX.out.2 m h).1).below hBw
 have M := Shut.mk (And.intro hkV (And.intro hrV (And.intro hsV (And.intro hBw (And.intro owV inV)))))
 clear hV hoV hBV hk1 hr1 hB1 hs1 f1 b0 b1 b2 b3 H1 hB hsW inW
 obtain ⟨b0, b1, b2, b3⟩ := plBox hkV
 clear hkV hrV hsV hBw
 by_cases hn0 : n = 0
 ·subst hn0
  clear owV inV
  go_wp2
  go_loopw [12] (fun i wr => i = .int .i64 0 ∧ wr = V) (fun i _ => 0)
  case atStart => exact ⟨rfl, rfl⟩
  case round =>
   obtain ⟨rfl, rfl⟩ := hrel
   obtain ⟨c0, c1, c2, c3⟩ := plBox M.out.2.1
   have g0 := frzB M.out.2.1 0
   have g1 := frzB M.out.2.1 1
   have g2 := frzB M.out.2.1 2
   have g3 := frzB M.out.2.1 3
   go_wp2
   obtain ⟨W9, hW9, hb9, hk9, hB9⟩ := box4 wr (w.heap.size + 1) 25 _ _ _ _ (.int .i64 me) (.slice p 0 cp) (.int .i64 tm) (.int .i64 sq) M.out.2.1
   rw [hW9]
   have R : Shut (PlNew w.heap.size W9 (l.map MKp.k) [] p cp ∧ Below w.heap.size w W9) := by
    obtain rfl : l = [] := List.eq_nil_of_length_eq_zero HX.out.1
    refine ⟨⟨⟨rfl, ?_, fun m hm => (by cases hm), fun i j m m' _ e => (by cases e)⟩, hB9 _ _ (by omega) M.out.2.2.2.1⟩⟩
    refine own_at (own_low M.out.2.2.2.2.1 (by omega)) (fun g hg => hk9 g ?_)
    have := (M.out.2.2.2.2.1.lt g hg).1
    omega
   clear hW9 hB9 hk9 b0 b1 b2 b3 c0 c1 c2 c3 g0 g1 g2 g3
   obtain ⟨c0, c1, c2, c3⟩ := plBox hb9
   refine bodyPost_ret (v := .agg #[.int .i64 me, .slice p 0 cp, .int .i64 tm, .int .i64 sq]) (by simp [results, Tryz.results35, go_sem, c0, c1, c2, c3]) rfl ?_
   exact ⟨[], p, cp, rfl, R⟩
 ·obtain ⟨g, rfl⟩ : ∃ g, p = some ⟨g, 0, none⟩ := by
   rcases owV.2 with ⟨_, h0⟩ | ⟨g, cap, cur, h1, _⟩
   ·exact absurd h0 hn0
   ·simp only [Value.slice.injEq] at h1
    exact ⟨g, h1.1⟩
  have hgB := (owV.lt g rfl).1
  have HS : Shut (CopyK (w.heap.size + 2) V V g n cp (l.map MKp.k) 0) := ⟨l, rfl, owV, fun m h => ⟨inV m h, farM_old (HX.out.2 m h).1 (by omega)⟩, fun i m _ hi => absurd hi (by omega), fun i j m m' hi => absurd hi (by omega), Below.refl _ _⟩
  obtain ⟨o0, ho0⟩ : ∃ o0 : Nat, o0 = 0 := ⟨0, rfl⟩
  have HO0 := Shut.mk ho0
  have b1' : V.cell? ⟨w.heap.size, 1, none⟩ = some (.slice (some ⟨g, o0, none⟩) n cp) := by rw [ho0]; exact b1
  clear ho0 owV inV hgB b1
  go_wp2
  go_loopw [12] (fun i wr => ∃ q : Nat, q ≤ n ∧ i = .int .i64 q ∧ Shut (CopyK (w.heap.size + 2) V wr g n cp (l.map MKp.k) q)) (fun i _ => n - (intOf i).toNat)
  case atStart => exact ⟨0, Nat.zero_le _, rfl, HS⟩
  case round =>
   clear HS b0 b1' b2 b3
   obtain ⟨q, hq, rfl, HI⟩ := hrel
   by_cases hlt : q < n
   ·obtain ⟨L, hL, hown, hall, hnew, hfar, hbr⟩ := HI.out
    have hLn : L.length = n := by have := hown.1; rw [kpCells_length] at this; omega
    obtain ⟨x, hx⟩ : ∃ x, L[q]? = some x := ⟨_, List.getElem?_eq_getElem (by omega)⟩
    have hxin := (hall x (List.mem_of_getElem? hx)).1
    have hxs : x.k.small := by
     have h1 : (l.map MKp.k)[q]? = some x.k := by rw [← hL, List.getElem?_map, hx]; rfl
     obtain ⟨y, hy1, hy2⟩ := List.mem_map.1 (List.mem_of_getElem? h1)
     rw [← hy2]
     exact (HX.out.2 y hy1).2
    have hxy : x.ys.length ≤ 65536 := by rw [← MKp.sslen hxin]; exact hxs.2.1
    have hxd : ∀ y ∈ x.ys, y.d.length ≤ 65536 := fun y hy => hxs.2.2.2 y.says (by rw [← hxin.says]; exact List.mem_map.2 ⟨y, hy, rfl⟩)
    have hrow : ∀ (v : World), Below wr.heap.size wr v → (∀ j c, x.cells[j]? = some c → v.cell? ⟨g, o0 + q * 16 + j, none⟩ = some c) ∧ (∀ j, v.frozen? ⟨g, j, none⟩ = false) := fun v hv => by
     have ow := ownB hown hv
     rw [HO0.out]
     exact ⟨fun j c hj => kp_cell ⟨(own_some ow).1, hx⟩ j hj, own_frz ow⟩
    have hkp : ∀ (v : World), Below wr.heap.size wr v → v.cell? ⟨w.heap.size, 1, none⟩ = some (.slice (some ⟨g, o0, none⟩) n cp) := fun v hv => by
     have h1 : wr.heap[w.heap.size]? = V.heap[w.heap.size]? := hbr.block _ (by omega)
     rw [HO0.out]
     exact (plBox (blkB (h1.trans M.out.1) hv)).2.1
    have hgk : w.heap.size ≠ g := by have := (hown.lt g rfl).1; omega
    have hgx : wr.heap.size ≠ g := by have := (hown.lt g rfl).2; omega
    have hqc : q < cp := by have := (own_some hown).2; omega
    have HR := Shut.mk hrow
    have HK := Shut.mk hkp
    have HST : Shut (∀ (u W2 : World) (z : MKp), Below wr.heap.size wr W2 → wr.heap.size ≤ u.heap.size → z.k = x.k → NewM W2 u.heap.size z → CopyK (w.heap.size + 2) V (setRun W2 g (16 * q) z.cells) g n cp (l.map MKp.k) (q + 1)) := ⟨fun u W2 z e1 e2 e3 e4 => CopyK.step hL hown hall hnew hfar hbr hx e1 e2 e3 e4 hlt⟩
    have p0 : wr.cell? ⟨g, o0 + q * 16, none⟩ = some (.int .i64 x.k.h.F) := (hrow wr (Below.refl _ _)).1 0 _ rfl
    have p1 : wr.cell? ⟨g, o0 + q * 16 + 1, none⟩ = some (.int .i64 x.k.h.Q) := (hrow wr (Below.refl _ _)).1 1 _ rfl
    have p2 : wr.cell? ⟨g, o0 + q * 16 + 2, none⟩ = some (.int .i64 x.k.h.T) := (hrow wr (Below.refl _ _)).1 2 _ rfl
    have p3 : wr.cell? ⟨g, o0 + q * 16 + 3, none⟩ = some (.int .i64 x.k.h.L) := (hrow wr (Below.refl _ _)).1 3 _ rfl
    have p4 : wr.cell? ⟨g, o0 + q * 16 + 4, none⟩ = some (.int .i64 x.k.h.B) := (hrow wr (Below.refl _ _)).1 4 _ rfl
    have p5 : wr.cell? ⟨g, o0 + q * 16 + 5, none⟩ = some (.int .i64 x.k.h.K) := (hrow wr (Below.refl _ _)).1 5 _ rfl
    have p6 : wr.cell? ⟨g, o0 + q * 16 + 6, none⟩ = some (.bool x.k.own) := (hrow wr (Below.refl _ _)).1 6 _ rfl
    have p7 : wr.cell? ⟨g, o0 + q * 16 + 7, none⟩ = some (.slice x.ca x.k.c.length x.cc) := (hrow wr (Below.refl _ _)).1 7 _ rfl
    have p8 : wr.cell? ⟨g, o0 + q * 16 + 8, none⟩ = some (.slice x.ya x.ys.length x.yc) := (hrow wr (Below.refl _ _)).1 8 _ rfl
    have p9 : wr.cell? ⟨g, o0 + q * 16 + 9, none⟩ = some (.int .i64 x.k.sh) := (hrow wr (Below.refl _ _)).1 9 _ rfl
    have p10 : wr.cell? ⟨g, o0 + q * 16 + 10, none⟩ = some (.int .i64 x.k.gv) := (hrow wr (Below.refl _ _)).1 10 _ rfl
    have p11 : wr.cell? ⟨g, o0 + q * 16 + 11, none⟩ = some (.int .i64 x.k.tw) := (hrow wr (Below.refl _ _)).1 11 _ rfl
    have p12 : wr.cell? ⟨g, o0 + q * 16 + 12, none⟩ = some (.int .i64 x.k.tr) := (hrow wr (Below.refl _ _)).1 12 _ rfl
    have p13 : wr.cell? ⟨g, o0 + q * 16 + 13, none⟩ = some (.slice x.ta x.k.tk.length x.tc) := (hrow wr (Below.refl _ _)).1 13 _ rfl
    have p14 : wr.cell? ⟨g, o0 + q * 16 + 14, none⟩ = some (.bool x.k.dl) := (hrow wr (Below.refl _ _)).1 14 _ rfl
    have p15 : wr.cell? ⟨g, o0 + q * 16 + 15, none⟩ = some (.bool x.k.pg) := (hrow wr (Below.refl _ _)).1 15 _ rfl
    clear HI hL hown hall hnew hfar hbr hx hrow hkp hLn
    go_upto_region 5 with fail
    obtain ⟨W1, hW1⟩ : ∃ W1, wr.alloc (.cells #[.int .i64 x.k.h.F, .int .i64 x.k.h.Q, .int .i64 x.k.h.T, .int .i64 x.k.h.L, .int .i64 x.k.h.B, .int .i64 x.k.h.K, .bool x.k.own, .slice x.ca x.k.c.length x.cc, .slice x.ya x.ys.length x.yc, .int .i64 x.k.sh, .int .i64 x.k.gv, .int .i64 x.k.tw, .int .i64 x.k.tr, .slice x.ta x.k.tk.length x.tc, .bool x.k.dl, .bool x.k.pg] 88) = W1 := ⟨_, rfl⟩
    rw [hW1]
    have hb1 : Below wr.heap.size wr W1 := by rw [← hW1]; exact (Below.refl _ _).alloc (Nat.le_refl _) _
    have hx1 : W1.heap[wr.heap.size]? = some (.cells #[.int .i64 x.k.h.F, .int .i64 x.k.h.Q, .int .i64 x.k.h.T, .int .i64 x.k.h.L, .int .i64 x.k.h.B, .int .i64 x.k.h.K, .bool x.k.own, .slice x.ca x.k.c.length x.cc, .slice x.ya x.ys.length x.yc, .int .i64 x.k.sh, .int .i64 x.k.gv, .int .i64 x.k.tw, .int .i64 x.k.tr, .slice x.ta x.k.tk.length x.tc, .bool x.k.dl, .bool x.k.pg] 88 (0, 0)) := by rw [← hW1, heap_alloc_eq, if_pos rfl]
    have hCp : ∀ v : World, Below W1.heap.size W1 v → Calls Tryz.prog 67 #[.agg #[.int .i64 x.k.h.F, .int .i64 x.k.h.Q, .int .i64 x.k.h.T, .int .i64 x.k.h.L, .int .i64 x.k.h.B, .int .i64 x.k.h.K, .bool x.k.own, .slice x.ca x.k.c.length x.cc, .slice x.ya x.ys.length x.yc, .int .i64 x.k.sh, .int .i64 x.k.gv, .int .i64 x.k.tw, .int .i64 x.k.tr, .slice x.ta x.k.tk.length x.tc, .bool x.k.dl, .bool x.k.pg]] v fun e w' => ∃ z : MKp, e = .returned (.agg #[.int .i64 z.k.h.F, .int .i64 z.k.h.Q, .int .i64 z.k.h.T, .int .i64 z.k.h.L, .int .i64 z.k.h.B, .int .i64 z.k.h.K, .bool z.k.own, .slice z.ca z.k.c.length z.cc, .slice z.ya z.ys.length z.yc, .int .i64 z.k.sh, .int .i64 z.k.gv, .int .i64 z.k.tw, .int .i64 z.k.tr, .slice z.ta z.k.tk.length z.tc, .bool z.k.dl, .bool z.k.pg]) ∧ (Shut (CopyR v w' x z) ∧ Below W1.heap.size W1 w') := fun v hv => by
     refine (keptCopy_any x v ((hxin.below hb1).below hv) hxs.1 hxy hxs.2.2.1 hxd).mono ?_
     rintro e w' ⟨z, rfl, H⟩
     exact ⟨z, rfl, H, hv.trans (H.out.2.2.2.2.2.2.2.1.mono hv.size)⟩
    have HB1 := Shut.mk hb1
    have HC := Shut.mk hCp
    have HX1 := Shut.mk hx1
    have k1 : W1.drew.cell? ⟨w.heap.size, 1, none⟩ = some (.slice (some ⟨g, o0, none⟩) n cp) := HK.out W1 hb1
    obtain ⟨x0, x1, x2, x3, x4, x5, x6, x7, x8, x9, x10, x11, x12, x13, x14, x15⟩ := kpCellsOf (show W1.drew.heap[wr.heap.size]? = _ from hx1)
    clear hW1 p0 p1 p2 p3 p4 p5 p6 p7 p8 p9 p10 p11 p12 p13 p14 p15 hxin hxs hxy hxd hCp hx1 hb1
    go_region_held3 (fun w' => w'.cell? ⟨w.heap.size, 1, none⟩ = some (.slice (some ⟨g, o0, none⟩) n cp) ∧ w'.cell? ⟨wr.heap.size, 0, none⟩ = some (.int .i64 x.k.h.F) ∧ w'.cell? ⟨wr.heap.size, 1, none⟩ = some (.int .i64 x.k.h.Q) ∧ w'.cell? ⟨wr.heap.size, 2, none⟩ = some (.int .i64 x.k.h.T) ∧ w'.cell? ⟨wr.heap.size, 3, none⟩ = some (.int .i64 x.k.h.L) ∧ w'.cell? ⟨wr.heap.size, 4, none⟩ = some (.int .i64 x.k.h.B) ∧ w'.cell? ⟨wr.heap.size, 5, none⟩ = some (.int .i64 x.k.h.K) ∧ w'.cell? ⟨wr.heap.size, 6, none⟩ = some (.bool x.k.own) ∧ w'.cell? ⟨wr.heap.size, 7, none⟩ = some (.slice x.ca x.k.c.length x.cc) ∧ w'.cell? ⟨wr.heap.size, 8, none⟩ = some (.slice x.ya x.ys.length x.yc) ∧ w'.cell? ⟨wr.heap.size, 9, none⟩ = some (.int .i64 x.k.sh) ∧ w'.cell? ⟨wr.heap.size, 10, none⟩ = some (.int .i64 x.k.gv) ∧ w'.cell? ⟨wr.heap.size, 11, none⟩ = some (.int .i64 x.k.tw) ∧ w'.cell? ⟨wr.heap.size, 12, none⟩ = some (.int .i64 x.k.tr) ∧ w'.cell? ⟨wr.heap.size, 13, none⟩ = some (.slice x.ta x.k.tk.length x.tc) ∧ w'.cell? ⟨wr.heap.size, 14, none⟩ = some (.bool x.k.dl) ∧ w'.cell? ⟨wr.heap.size, 15, none⟩ = some (.bool x.k.pg)) (first | exact ⟨by with_reducible assumption, by with_reducible assumption, by with_reducible assumption, by with_reducible assumption, by with_reducible assumption, by with_reducible assumption, by with_reducible assumption, by with_reducible assumption, by with_reducible assumption, by with_reducible assumption, by with_reducible assumption, by with_reducible assumption, by with_reducible assumption, by with_reducible assumption, by with_reducible assumption, by with_reducible assumption, by with_reducible assumption⟩ | exact ⟨far16 (by with_reducible assumption) hgk, far16 (by with_reducible assumption) hgx, far16 (by with_reducible assumption) hgx, far16 (by with_reducible assumption) hgx, far16 (by with_reducible assumption) hgx, far16 (by with_reducible assumption) hgx, far16 (by with_reducible assumption) hgx, far16 (by with_reducible assumption) hgx, far16 (by with_reducible assumption) hgx, far16 (by with_reducible assumption) hgx, far16 (by with_reducible assumption) hgx, far16 (by with_reducible assumption) hgx, far16 (by with_reducible assumption) hgx, far16 (by with_reducible assumption) hgx, far16 (by with_reducible assumption) hgx, far16 (by with_reducible assumption) hgx, far16 (by with_reducible assumption) hgx⟩) ((go_at_call 67; refine (HC.out _ ((Below.refl _ _).drew)).mono ?_; rintro e wk ⟨z, rfl, HZ, hbk⟩; have hbw : Below wr.heap.size wr wk := HB1.out.trans (hbk.mono HB1.out.size); have k1 := HK.out wk hbw; obtain ⟨x0, x1, x2, x3, x4, x5, x6, x7, x8, x9, x10, x11, x12, x13, x14, x15⟩ := kpCellsOf (blkB HX1.out hbk); obtain ⟨hcell, hfz⟩ := HR.out wk hbw; have p0 : wk.cell? ⟨g, o0 + q * 16, none⟩ = some (.int .i64 x.k.h.F) := hcell 0 _ rfl; have f0 := hfz (o0 + q * 16); have p1 : wk.cell? ⟨g, o0 + q * 16 + 1, none⟩ = some (.int .i64 x.k.h.Q) := hcell 1 _ rfl; have f1 := hfz (o0 + q * 16 + 1); have p2 : wk.cell? ⟨g, o0 + q * 16 + 2, none⟩ = some (.int .i64 x.k.h.T) := hcell 2 _ rfl; have f2 := hfz (o0 + q * 16 + 2); have p3 : wk.cell? ⟨g, o0 + q * 16 + 3, none⟩ = some (.int .i64 x.k.h.L) := hcell 3 _ rfl; have f3 := hfz (o0 + q * 16 + 3); have p4 : wk.cell? ⟨g, o0 + q * 16 + 4, none⟩ = some (.int .i64 x.k.h.B) := hcell 4 _ rfl; have f4 := hfz (o0 + q * 16 + 4); have p5 : wk.cell? ⟨g, o0 + q * 16 + 5, none⟩ = some (.int .i64 x.k.h.K) := hcell 5 _ rfl; have f5 := hfz (o0 + q * 16 + 5); have p6 : wk.cell? ⟨g, o0 + q * 16 + 6, none⟩ = some (.bool x.k.own) := hcell 6 _ rfl; have f6 := hfz (o0 + q * 16 + 6); have p7 : wk.cell? ⟨g, o0 + q * 16 + 7, none⟩ = some (.slice x.ca x.k.c.length x.cc) := hcell 7 _ rfl; have f7 := hfz (o0 + q * 16 + 7); have p8 : wk.cell? ⟨g, o0 + q * 16 + 8, none⟩ = some (.slice x.ya x.ys.length x.yc) := hcell 8 _ rfl; have f8 := hfz (o0 + q * 16 + 8); have p9 : wk.cell? ⟨g, o0 + q * 16 + 9, none⟩ = some (.int .i64 x.k.sh) := hcell 9 _ rfl; have f9 := hfz (o0 + q * 16 + 9); have p10 : wk.cell? ⟨g, o0 + q * 16 + 10, none⟩ = some (.int .i64 x.k.gv) := hcell 10 _ rfl; have f10 := hfz (o0 + q * 16 + 10); have p11 : wk.cell? ⟨g, o0 + q * 16 + 11, none⟩ = some (.int .i64 x.k.tw) := hcell 11 _ rfl; have f11 := hfz (o0 + q * 16 + 11); have p12 : wk.cell? ⟨g, o0 + q * 16 + 12, none⟩ = some (.int .i64 x.k.tr) := hcell 12 _ rfl; have f12 := hfz (o0 + q * 16 + 12); have p13 : wk.cell? ⟨g, o0 + q * 16 + 13, none⟩ = some (.slice x.ta x.k.tk.length x.tc) := hcell 13 _ rfl; have f13 := hfz (o0 + q * 16 + 13); have p14 : wk.cell? ⟨g, o0 + q * 16 + 14, none⟩ = some (.bool x.k.dl) := hcell 14 _ rfl; have f14 := hfz (o0 + q * 16 + 14); have p15 : wk.cell? ⟨g, o0 + q * 16 + 15, none⟩ = some (.bool x.k.pg) := hcell 15 _ rfl; have f15 := hfz (o0 + q * 16 + 15)))
    all_goals
     have e9 : Shut (CopyK (w.heap.size + 2) V (setRun wk g (o0 + q * 16) [.int .i64 z.k.h.F, .int .i64 z.k.h.Q, .int .i64 z.k.h.T, .int .i64 z.k.h.L, .int .i64 z.k.h.B, .int .i64 z.k.h.K, .bool z.k.own, .slice z.ca z.k.c.length z.cc, .slice z.ya z.ys.length z.yc, .int .i64 z.k.sh, .int .i64 z.k.gv, .int .i64 z.k.tw, .int .i64 z.k.tr, .slice z.ta z.k.tk.length z.tc, .bool z.k.dl, .bool z.k.pg]) g n cp (l.map MKp.k) (q + 1)) := ⟨by
      rw [HO0.out, show 0 + q * 16 = 16 * q by omega]
      exact HST.out W1.drew wk z hbw HB1.out.size HZ.out.1 HZ.out.new⟩
     rw [set16]
     generalize setRun wk g (o0 + q * 16) [.int .i64 z.k.h.F, .int .i64 z.k.h.Q, .int .i64 z.k.h.T, .int .i64 z.k.h.L, .int .i64 z.k.h.B, .int .i64 z.k.h.K, .bool z.k.own, .slice z.ca z.k.c.length z.cc, .slice z.ya z.ys.length z.yc, .int .i64 z.k.sh, .int .i64 z.k.gv, .int .i64 z.k.tw, .int .i64 z.k.tr, .slice z.ta z.k.tk.length z.tc, .bool z.k.dl, .bool z.k.pg] = W9 at e9 ⊢
     clear hbw hbk k1 hcell hfz x0 x1 x2 x3 x4 x5 x6 x7 x8 x9 x10 x11 x12 x13 x14 x15 p0 p1 p2 p3 p4 p5 p6 p7 p8 p9 p10 p11 p12 p13 p14 p15 f0 f1 f2 f3 f4 f5 f6 f7 f8 f9 f10 f11 f12 f13 f14 f15 HZ
     go_wp2
     go_roundw
     case rel => exact ⟨q + 1, by omega, by go_num, e9⟩
     case measure => simp [intOf]; omega
   ·obtain rfl : q = n := by omega
    obtain ⟨L, hPL⟩ := PlNew.of HI.out
    obtain ⟨_, _, _, _, _, _, hbr⟩ := HI.out
    have hkw := (hbr.block w.heap.size (by omega)).trans M.out.1
    have hrw := (hbr.block (w.heap.size + 1) (by omega)).trans M.out.2.1
    have hbw := M.out.2.2.2.1.trans (hbr.mono (by omega))
    have hlen := Shut.mk (show (l.map MKp.k).length = q by rw [List.length_map]; exact HX.out.1)
    obtain ⟨b0, b1, b2, b3⟩ := plBox hkw
    obtain ⟨c0, c1, c2, c3⟩ := plBox hrw
    have g0 := frzB hrw 0
    have g1 := frzB hrw 1
    have g2 := frzB hrw 2
    have g3 := frzB hrw 3
    clear HI hbr hkw
    go_wp2
    obtain ⟨W9, hW9, hb9, hk9, hB9⟩ := box4 wr (w.heap.size + 1) 25 _ _ _ _ (.int .i64 me) (.slice (some ⟨g, 0, none⟩) q cp) (.int .i64 tm) (.int .i64 sq) hrw
    rw [hW9]
    have R : Shut (PlNew w.heap.size W9 (l.map MKp.k) L (some ⟨g, 0, none⟩) cp ∧ Below w.heap.size w W9) := ⟨hPL.old (b := w.heap.size + 1) (by omega) hk9 (by omega), hB9 _ _ (by omega) hbw⟩
    clear hW9 hB9 hk9 b0 b1 b2 b3 c0 c1 c2 c3 g0 g1 g2 g3 hrw
    obtain ⟨c0, c1, c2, c3⟩ := plBox hb9
    refine bodyPost_ret (v := .agg #[.int .i64 me, .slice (some ⟨g, 0, none⟩) q cp, .int .i64 tm, .int .i64 sq]) (by simp [results, Tryz.results35, go_sem, c0, c1, c2, c3]) rfl ?_
    exact ⟨L, some ⟨g, 0, none⟩, cp, rfl, R⟩

theorem newCells (W : World) {c : Array Value} {T : TypeId} {l : List Value} (h : c.toList = l) : ∀ j u, l[j]? = some u → ((W.alloc (.cells c T)).drew).cell? ((⟨W.heap.size, 0, none⟩ : Addr).add j) = some u := by
 intro j u hj
 subst h
 rw [Addr.add_lit, Nat.zero_add]
 exact cellB (w := W.alloc (.cells c T)) (by rw [heap_alloc_eq, if_pos rfl]) j u (by simpa using hj)

theorem tkB {W : World} {g : Nat} {a b : Value} (h : W.heap[g]? = some (.cells #[a, b] 149 (0, 0))) : W.cell? ⟨g, 0, none⟩ = some a ∧ W.cell? ⟨g, 1, none⟩ = some b := ⟨cellB h 0 _ rfl, cellB h 1 _ rfl⟩

def GrowsR (B : Nat) (w : World) (g o : Nat) (pre post : List Value) (m : MKp) (z : Int) (k' : Kp) (w' : World) : Prop := Below B w w' ∧ (z = 0 → ∃ m' : MKp, m'.k = k' ∧ ChgR B w w' g o pre post m m')

theorem take_done {B g o g1 cap : Nat} {w V U w' : World} {pre post : List Value} {m : MKp} {p y : Int} {sh : Int} (hN : NewM w B m) (hf : FarM g m) (hgr : ¬ growB m g) (hg : B ≤ g) (hgw : g < w.heap.size)
  (hwV : Below w.heap.size w V) (hVU : V.grownBy U (Value.slice m.ta m.k.tk.length m.tc).ownBlock) (hown : U.ownsRow B 149 2 (.slice (some ⟨g1, 0, none⟩) (m.k.tk.length + 1) cap) (m.k.tk.length + 1) (tkCells (m.k.tk ++ [(p, y)])))
  (hwh : (Value.slice m.ta m.k.tk.length m.tc).ownBlock = some g1 ∨ w.heap.size ≤ g1) (hat : At16 w' g o pre post ({ m with ta := some ⟨g1, 0, none⟩, tc := cap, k := { m.k with tk := m.k.tk ++ [(p, y)], sh := sh } } : MKp).cells) (hUw : U.grownBy w' (some g)) (hlen : m.k.tk.length < 40) :
  ChgR B w w' g o pre post m { m with ta := some ⟨g1, 0, none⟩, tc := cap, k := { m.k with tk := m.k.tk ++ [(p, y)], sh := sh } } := by
 have hg0 : m.ta = some ⟨g1, 0, none⟩ ∨ w.heap.size ≤ g1 := by
  rcases hwh with h | h
  ·exact .inl (own_plain hN.own.2 h)
  ·exact .inr h
 have hg1 : growB m g1 ∨ w.heap.size ≤ g1 := by
  rcases hg0 with h | h
  ·exact .inl (.inr ⟨0, h⟩)
  ·exact .inr h
 have hne : g1 ≠ g := fun e => by
  subst e
  rcases hg1 with h | h
  ·exact hgr h
  ·omega
 have hrest : ∀ k, k < w.heap.size → k ≠ g → ¬ growB m k → w'.heap[k]? = w.heap[k]? := fun k h1 h2 h3 => by
  have e1 := hwV.block k h1
  have hs := hwV.size
  have e2 := hVU.block k (by omega) (fun e => h3 (.inr ⟨0, own_plain hN.own.2 e.symm⟩))
  have e3 := hUw.block k (by have := hVU.size; omega) (fun e => h2 (Option.some.inj e))
  exact e3.trans (e2.trans e1)
 have hta : ∀ k o', m.ta = some ⟨k, o', none⟩ → growB m k := fun k o' e => .inr ⟨o', e⟩
 have hP : ∀ k, k < w.heap.size → ¬ (k = g ∨ ∃ o', m.ta = some ⟨k, o', none⟩) → w'.heap[k]? = w.heap[k]? := fun k h1 h2 => by
  have e1 := hwV.block k h1
  have hs := hwV.size
  have e2 := hVU.block k (by omega) (fun e => h2 (.inr ⟨0, own_plain hN.own.2 e.symm⟩))
  have e3 := hUw.block k (by have := hVU.size; omega) (fun e => h2 (.inl (Option.some.inj e)))
  exact e3.trans (e2.trans e1)
 have hk : ∀ a, ∀ xs : List Value, Lies w a xs → (xs ≠ [] → ∀ c o', a = some ⟨c, o', none⟩ → c ≠ g ∧ ∀ k o2, m.ta = some ⟨k, o2, none⟩ → c ≠ k) → Lies w' a xs := fun a xs hl hf' => by
  intro k u hu
  obtain ⟨b, off, e, hcell⟩ := hl k u hu
  refine ⟨b, off, e, ?_⟩
  have hb := World.block_lt_of_cell? w _ hcell
  have hne' : xs ≠ [] := fun e0 => by rw [e0] at hu; cases hu
  have h2 := hf' hne' b off e
  have := hP b (by simpa using hb) (fun e0 => by
   rcases e0 with e0 | ⟨o', e0⟩
   ·exact h2.1 e0
   ·exact h2.2 b o' e0 rfl)
  rw [← hcell]
  simp only [World.cell?, this]
 have hown' : w'.ownsRow B 149 2 (.slice (some ⟨g1, 0, none⟩) (m.k.tk.length + 1) cap) (m.k.tk.length + 1) (tkCells (m.k.tk ++ [(p, y)])) := by
  refine own_at hown (fun k e => hUw.block k (hown.lt k e).2 (fun e2 => ?_))
  obtain rfl := Option.some.inj e2
  simp only [Value.ownBlock, Option.some.injEq] at e
  exact hne e
 have hll : (m.k.tk ++ [(p, y)]).length = m.k.tk.length + 1 := by simp
 obtain ⟨s1, s2, s3, s4, s5⟩ := hN.sep
 have hcap := own_some hown'
 refine ⟨hat, ⟨⟨?_, ?_, fun z hz => ⟨?_, (hN.inn.ys z hz).2⟩, hN.inn.says, hcap.1⟩, ⟨hN.fits.c, hN.fits.y, ?_, hN.fits.cc, hN.fits.yc, ?_⟩, hN.ca, hN.ya, ?_, hN.ys, ⟨?_, ?_⟩, ?_⟩, ?_, ?_, hrest, hUw.os.trans (hVU.os.trans hwV.os), hUw.tape.trans (hVU.tape.trans hwV.tape), hUw.output.trans (hVU.output.trans hwV.output), Nat.le_trans hwV.size (Nat.le_trans hVU.size hUw.size)⟩
 ·exact hk _ _ hN.inn.c (fun e c o' ec => ⟨hf.c (bs_ne e) c o' ec, fun k o2 ek => fun e0 => s3 (bs_ne e) k o2 c o' ek ec e0.symm⟩)
 ·exact hk _ _ hN.inn.y (fun e c o' ec => ⟨hf.y (sy_ne e) c o' ec, fun k o2 ek => s1 c o' k o2 ec ek⟩)
 ·exact hk _ _ (hN.inn.ys z hz).1 (fun e c o' ec => ⟨hf.ys z hz (fun e0 => e (by rw [e0]; rfl)) c o' ec, fun k o2 ek => s5 z hz (fun e0 => e (by rw [e0]; rfl)) c o' k o2 ec ek⟩)
 ·show (m.k.tk ++ [(p, y)]).length ≤ maxLen
  rw [hll]; unfold maxLen; omega
 ·show (m.k.tk ++ [(p, y)]).length ≤ cap
  rw [hll]; exact hcap.2
 ·intro b o' e
  simp only [Option.some.injEq, Addr.mk.injEq] at e
  obtain ⟨rfl, _⟩ := e
  exact (hown'.lt _ rfl).1
 ·refine own_at hN.own.1 (fun k e => hP k (hN.own.1.lt k e).2 (fun e0 => ?_))
  have ey := own_plain hN.own.1 e
  rcases e0 with e0 | ⟨o', e0⟩
  ·exact hgr (.inl ⟨0, by rw [← e0]; exact ey⟩)
  ·exact s1 k 0 k o' ey e0 rfl
 ·show w'.ownsRow B _ 2 (.slice (some ⟨g1, 0, none⟩) (m.k.tk ++ [(p, y)]).length cap) (m.k.tk ++ [(p, y)]).length _
  rw [hll]
  exact hown'
 ·have hcl : ∀ b b' o2, (some ⟨g1, 0, none⟩ : Option Addr) = some ⟨b', o2, none⟩ → (∀ k o2, m.ta = some ⟨k, o2, none⟩ → b ≠ k) → b < w.heap.size → b ≠ b' := fun b b' o2 e2 h1 h2 => by
   simp only [Option.some.injEq, Addr.mk.injEq] at e2
   obtain ⟨rfl, _⟩ := e2
   rcases hg0 with h | h
   ·exact h1 _ _ h
   ·omega
  refine ⟨fun b o1 b' o2 e1 e2 => ?_, fun hc => s2 hc, fun hc b o1 b' o2 e1 e2 => ?_, s4, fun z hz hd b o1 b' o2 e1 e2 => ?_⟩
  ·exact hcl b b' o2 e2 (fun k o3 ek => s1 b o1 k o3 e1 ek) (hN.own.1.lt b (by rw [e1]; rfl)).2
  ·exact fun e0 => hcl b' b o1 e1 (fun k o3 ek => fun e3 => s3 hc k o3 b' o2 ek e2 e3.symm) (lies_block hN.inn.c (bs_ne' hc) b' o2 e2) e0.symm
  ·exact hcl b b' o2 e2 (fun k o3 ek => s5 z hz hd b o1 k o3 e1 ek) (symIn_lt (hN.inn.ys z hz) hd b o1 e1)
 ·intro b hb h1 h2
  have hb1 : g1 ≠ b := fun e => by
   subst e
   rcases hg1 with h | h
   ·exact h2 h
   ·omega
  refine ⟨⟨h1.c, h1.y, h1.ys, fun _ a o' e => ?_⟩, fun e => ?_⟩
  ·simp only [Option.some.injEq, Addr.mk.injEq] at e
   obtain ⟨rfl, _⟩ := e
   exact hb1
  ·rcases e with ⟨o', e⟩ | ⟨o', e⟩
   ·exact h2 (.inl ⟨o', e⟩)
   ·simp only [Option.some.injEq, Addr.mk.injEq] at e
    exact hb1 e.1
 ·intro b hb
  rcases hb with ⟨o', e⟩ | ⟨o', e⟩
  ·exact .inl (.inl ⟨o', e⟩)
  ·simp only [Option.some.injEq, Addr.mk.injEq] at e
   obtain ⟨rfl, _⟩ := e
   exact hg1

set_option maxHeartbeats 8000000 in
set_option maxRecDepth 8000 in
theorem take_any (B : Nat) (m : MKp) (r : Rc) (da : Option Addr) (dc : Nat) (ca : Option Addr) (cc : Nat) (g o : Nat) (pre post : List Value) (w : World) (h : At16 w g o pre post m.cells) (hN : NewM w B m) (hf : FarM g m) (hgr : ¬ growB m g) (hg : B ≤ g) (hi : 0 ≤ m.k.sh ∧ m.k.sh ≤ 64 ∧ 0 ≤ r.n ∧ r.n ≤ 1000000) :
  Calls Tryz.prog 76 #[.pointer (some ⟨g, o, none⟩), rcV r da dc ca cc] w fun e w' => e = .returned (.int .i64 (m.k.take r.p r.n r.y).1) ∧ Shut (GrowsR B w g o pre post m (m.k.take r.p r.n r.y).1 (m.k.take r.p r.n r.y).2 w') := by
 obtain ⟨i0, hii, hz0, hz1, hz2⟩ : ∃ i, Tryz.prog.info? 149 = some i ∧ i.zero = some (.agg #[.int .i64 0, .int .i64 0]) ∧ i.size = 2 ∧ i.bytes = 16 := by
  have h0 := info_cloneT
  cases hh : Tryz.prog.info? 149 with
  | none => rw [hh] at h0; cases h0
  | some i =>
   rw [hh] at h0
   simp only [Option.map_some, Option.some.injEq, Prod.mk.injEq] at h0
   exact ⟨i, rfl, h0.1, h0.2.1, h0.2.2⟩
 have hgw := h.lt
 obtain ⟨W, hW⟩ : ∃ W, w.alloc (.cells #[.int .i64 r.k, .int .i64 r.p, .int .i64 r.n, .int .i64 r.y, .int .i64 r.h.F, .int .i64 r.h.Q, .int .i64 r.h.T, .int .i64 r.h.L, .int .i64 r.h.B, .int .i64 r.h.K, .int .i64 r.id, .slice da r.d.length dc, .slice ca r.c.length cc] 40) = W := ⟨_, rfl⟩
 have hb : Below w.heap.size w W := by rw [← hW]; exact (Below.refl _ _).alloc (Nat.le_refl _) _
 have hk : W.heap[w.heap.size]? = some (.cells #[.int .i64 r.k, .int .i64 r.p, .int .i64 r.n, .int .i64 r.y, .int .i64 r.h.F, .int .i64 r.h.Q, .int .i64 r.h.T, .int .i64 r.h.L, .int .i64 r.h.B, .int .i64 r.h.K, .int .i64 r.id, .slice da r.d.length dc, .slice ca r.c.length cc] 40 (0, 0)) := by rw [← hW, heap_alloc_eq, if_pos rfl]
 have hsz : W.heap.size = w.heap.size + 1 := by rw [← hW]; simp
 obtain ⟨V, hV⟩ : ∃ V, W.alloc (.cells #[.int .i64 r.p, .int .i64 r.y] 149) = V := ⟨_, rfl⟩
 have hbV : Below w.heap.size w V := by rw [← hV]; exact hb.alloc hb.size _
 have hkV : V.heap[w.heap.size]? = some (.cells #[.int .i64 r.k, .int .i64 r.p, .int .i64 r.n, .int .i64 r.y, .int .i64 r.h.F, .int .i64 r.h.Q, .int .i64 r.h.T, .int .i64 r.h.L, .int .i64 r.h.B, .int .i64 r.h.K, .int .i64 r.id, .slice da r.d.length dc, .slice ca r.c.length cc] 40 (0, 0)) := by rw [← hV, heap_alloc_eq, if_neg (by omega)]; exact hk
 have htV : V.heap[w.heap.size + 1]? = some (.cells #[.int .i64 r.p, .int .i64 r.y] 149 (0, 0)) := by rw [← hV, heap_alloc_eq, if_pos hsz.symm]
 have hA := h.below hbV
 obtain ⟨b0, b1, b2, b3, b4, b5, b6, b7, b8, b9, b10, b11, b12⟩ := rcBox hk
 have HB := Shut.mk (And.intro hb (And.intro hbV (And.intro hkV (And.intro htV (And.intro hA (And.intro hN h))))))
 have HG := Shut.mk (And.intro hf (And.intro hgr (And.intro hg hgw)))
 have HW := Shut.mk (And.intro hW (And.intro hV hsz))
 clear hb hk hbV hkV htV hA h hN hW hV hsz hf hgr hg hgw
 have e1 : IntKind.i64.wrap (m.k.sh + r.n) = m.k.sh + r.n := by
  rw [IntKind.wrap_i64]; omega
 have bad : ∀ (z : Int) (k' : Kp) (u : World), z ≠ 0 → Below w.heap.size w u → Shut (GrowsR B w g o pre post m z k' u) := fun z k' u hz hu => ⟨hu.mono (by have := HG.out.2.2; omega), fun e => absurd e hz⟩
 unfold rcV
 go_enter Tryz.func76, Tryz.ntmps76
 go_upto_region 1 with fail
 rw [HW.out.1]
 go_upto_region 2 with fail
 rw [HW.out.2.1]
 rw [HW.out.2.2]
 clear b0 b1 b2 b3 b4 b5 b6 b7 b8 b9 b10 b11 b12
 obtain ⟨b0, b1, b2, b3, b4, b5, b6, b7, b8, b9, b10, b11, b12⟩ := rcBox HB.out.2.2.1
 obtain ⟨t0, t1⟩ := tkB HB.out.2.2.2.1
 have c9 := HB.out.2.2.2.2.1.cell 9 _ rfl
 have c13 := HB.out.2.2.2.2.1.cell 13 _ rfl
 have hbV := HB.out.2.1
 by_cases p1 : r.y = 0 ∨ r.n = 0 ∨ 64 < m.k.sh + r.n
 ·have hr : m.k.take r.p r.n r.y = (3, m.k) := by unfold Kp.take; rw [if_pos p1]
  have HR := Shut.mk hr
  clear hr
  rcases eqDec r.y 0 with ⟨y1, y2, y3, y4⟩ | ⟨y1, y2, y3, y4⟩
  ·clear p1
   have HY := Shut.mk y1
   clear y1 hi
   go_region
   all_goals
    go_wp2
    go_ret
    rw [HR.out]; exact ⟨rfl, bad _ _ _ (by show (3 : Int) ≠ 0; decide) hbV.drew⟩
  ·rcases eqDec r.n 0 with ⟨n1, n2, n3, n4⟩ | ⟨n1, n2, n3, n4⟩
   ·have HY := Shut.mk n1
    clear p1 y1 n1 hi
    go_region
    all_goals
     go_wp2
     go_ret
     rw [HR.out]; exact ⟨rfl, bad _ _ _ (by show (3 : Int) ≠ 0; decide) hbV.drew⟩
   ·have q3 : 64 < m.k.sh + r.n := by
     rcases p1 with h | h | h
     ·exact absurd h y1
     ·exact absurd h n1
     ·exact h
    clear p1 y1 n1 hi
    go_region
    all_goals
     go_wp2
     go_ret
     rw [HR.out]; exact ⟨rfl, bad _ _ _ (by show (3 : Int) ≠ 0; decide) hbV.drew⟩
 ·have y2 : (r.y == 0) = false := by simp; omega
  have n2 : (r.n == 0) = false := by simp; omega
  have q3 : ¬ 64 < m.k.sh + r.n := by omega
  have q4 : m.k.sh + r.n ≤ 64 := by omega
  go_region
  all_goals go_upto_region 4 with fail
  have HP := Shut.mk p1
  clear p1 y2 n2 q3 q4 hi
  have hCT : ∀ u : World, Below V.heap.size V u → Calls Tryz.prog 112 #[.slice m.ta m.k.tk.length m.tc, .agg #[.int .i64 r.p, .int .i64 r.y]] u fun e w' => ∃ x, e = .returned x ∧ (∃ bq : Bool, x = .bool bq ∧ Shut (bq = decide ((r.p, r.y) ∈ m.k.tk)) ∧ Below V.heap.size V w') := fun u hu => by
   have hN' := HB.out.2.2.2.2.2.1
   refine (containsTk m.ta m.tc m.k.tk r.p r.y u ((hN'.inn.t.below hbV (Nat.le_refl _)).below hu (Nat.le_refl _)) hN'.fits.t).mono ?_
   rintro e w' ⟨rfl, hb'⟩
   exact ⟨_, rfl, _, rfl, ⟨rfl⟩, hu.trans (hb'.mono hu.size)⟩
  have HCT := Shut.mk hCT
  clear hCT
  have c13d : V.drew.drew.cell? ⟨g, o + 13, none⟩ = some (.slice m.ta m.k.tk.length m.tc) := c13
  have t0d : V.drew.drew.cell? ⟨w.heap.size + 1, 0, none⟩ = some (.int .i64 r.p) := t0
  have t1d : V.drew.drew.cell? ⟨w.heap.size + 1, 1, none⟩ = some (.int .i64 r.y) := t1
  go_region_law (refine step_call2 entersContTk rfl (.tmp 34) (.tmp 35) 86 149 rfl _ _ rfl rfl (HCT.out _ ((Below.refl _ V).drew.drew)) ?_; rintro _ wk ⟨bq, rfl, hbq, hbk⟩)
  all_goals
   have hbw := hbV.trans (hbk.mono hbV.size)
   have A2 := HB.out.2.2.2.2.1.below hbk
   have k2 := blkB HB.out.2.2.1 hbk
   have t2 := blkB HB.out.2.2.2.1 hbk
   clear b0 b1 b2 b3 b4 b5 b6 b7 b8 b9 b10 b11 b12 t0 t1 c9 c13 c13d t0d t1d hbV
   obtain ⟨b0, b1, b2, b3, b4, b5, b6, b7, b8, b9, b10, b11, b12⟩ := rcBox k2
   obtain ⟨t0, t1⟩ := tkB t2
   have c9 := A2.cell 9 _ rfl
   have c13 := A2.cell 13 _ rfl
   have f13 := A2.frz (o + 13)
   have H2 := Shut.mk (And.intro hbw (And.intro A2 (And.intro k2 t2)))
   clear A2 k2 t2 hbk
   by_cases p4 : (r.p, r.y) ∈ m.k.tk
   ·have HR := Shut.mk (show m.k.take r.p r.n r.y = (6, m.k) from by unfold Kp.take; rw [if_neg HP.out, if_pos p4])
    obtain rfl : bq = true := by rw [hbq.out]; exact decide_eq_true p4
    clear p4
    go_wp2
    go_ret
    rw [HR.out]
    exact ⟨rfl, bad _ _ _ (by show (6 : Int) ≠ 0; decide) hbw⟩
   ·obtain rfl : bq = false := by rw [hbq.out]; exact decide_eq_false p4
    by_cases p5 : 40 ≤ m.k.tk.length
    ·have HR := Shut.mk (show m.k.take r.p r.n r.y = (2, m.k) from by unfold Kp.take; rw [if_neg HP.out, if_neg p4, if_pos p5])
     clear p4
     have l5 : (40 : Int) ≤ (m.k.tk.length : Int) := by omega
     go_wp2
     go_ret
     rw [HR.out]
     exact ⟨rfl, bad _ _ _ (by show (2 : Int) ≠ 0; decide) hbw⟩
    ·have HR := Shut.mk (show m.k.take r.p r.n r.y = (0, { m.k with tk := m.k.tk ++ [(r.p, r.y)], sh := m.k.sh + r.n }) from by unfold Kp.take; rw [if_neg HP.out, if_neg p4, if_neg p5])
     clear p4
     have l5 : ¬ (40 : Int) ≤ (m.k.tk.length : Int) := by omega
     have l6 : m.k.tk.length < 40 := by omega
     go_upto_region 8 with fail
     have hN := HB.out.2.2.2.2.2.1
     have hown3 : ∀ ob : Obj, ((wk.alloc ob).drew).ownsRow B 149 2 (.slice m.ta m.k.tk.length m.tc) m.k.tk.length (tkCells m.k.tk) := fun ob => ownB (ownB (ownB hN.own.2 hbw) (by exact Below.refl _ _)) (((Below.refl _ _).alloc (Nat.le_refl _) ob).drew)
     have hNB : B ≤ wk.heap.size := by have := HG.out.2.2; have := hbw.size; omega
     have c13d : wk.drew.cell? ⟨g, o + 13, none⟩ = some (.slice m.ta m.k.tk.length m.tc) := c13
     have t0d : wk.drew.cell? ⟨w.heap.size + 1, 0, none⟩ = some (.int .i64 r.p) := t0
     have t1d : wk.drew.cell? ⟨w.heap.size + 1, 1, none⟩ = some (.int .i64 r.y) := t1
     have Y : ∀ ob : Obj, ((wk.alloc ob).drew).cell? ⟨g, o + 13, none⟩ = some (.slice m.ta m.k.tk.length m.tc) := fun ob => cellW (w := wk) c13 (((Below.refl _ _).alloc (Nat.le_refl _) ob).drew)
     go_region_law (refine step_append_lies _ rfl (.tmp 48) (.tmp 50) 86 rfl B 149 i0 (.agg #[.int .i64 0, .int .i64 0]) 2 16 Tryz.underlying86 hii hz0 hz1 hz2 rfl (by decide) (.slice m.ta m.k.tk.length m.tc) m.k.tk.length (tkCells m.k.tk) (by simp [Act.eval, Act.put]) (hown3 _) ⟨wk.heap.size, 0, none⟩ 1 1 [.int .i64 r.p, .int .i64 r.y] (by simp [Act.eval, Act.put]) rfl (newCells wk rfl) (fun u hu => List.all_eq_true.1 (show List.all [.int .i64 r.p, .int .i64 r.y] (fun v => v.oneCell') = true from rfl) u hu) (by decide) (by unfold maxLen; omega) (by omega) (by simp; omega) _ rfl ?_; intro g1 cap w4 hown4 hgrow hat hlt4; have hA4 := At16.blk H2.out.2.1 ((hgrow.block g (by have := H2.out.2.1.lt; simp; omega) (fun e => HG.out.2.1 (.inr ⟨0, own_plain hN.own.2 e.symm⟩))).trans ((((Below.refl _ wk).alloc (Nat.le_refl _) _).drew).block g H2.out.2.1.lt)); have d13 := hA4.cell 13 _ rfl; have e13 := hA4.frz (o + 13))
     all_goals
      have hwV : Below w.heap.size w (wk.alloc (.cells #[.int .i64 r.p, .int .i64 r.y] 149)).drew := (hbw.alloc hbw.size _).drew
      have hk4 : w4.heap[w.heap.size]? = wk.heap[w.heap.size]? := (hgrow.block _ (by have := hbw.size; have := (Array.getElem?_eq_some_iff.1 H2.out.2.2.1).1; simp; omega) (fun e => by have := (hN.own.2.lt _ e.symm).2; omega)).trans ((((Below.refl _ wk).alloc (Nat.le_refl _) _).drew).block _ (Array.getElem?_eq_some_iff.1 H2.out.2.2.1).1)
      have n2 := (rcBox (hk4.trans H2.out.2.2.1)).2.2.1
      obtain ⟨V2, hV2⟩ : ∃ V2, w4.setCell ⟨g, o + 13, none⟩ (.slice (some ⟨g1, 0, none⟩) (m.k.tk.length + 1) cap) = V2 := ⟨_, rfl⟩
      have hgne : w.heap.size ≠ g := by have := HG.out.2.2.2; omega
      have HA : Shut (At16 V2 g o pre post (m.cells.set 13 (.slice (some ⟨g1, 0, none⟩) (m.k.tk.length + 1) cap)) ∧ w4.grownBy V2 (some g)) := by
       rw [← hV2]
       exact ⟨At16.set hA4 13 (by show 13 < 16; omega) _, grown_set (grown_refl _ _) _ _⟩
      have v2 : V2.cell? ⟨w.heap.size, 2, none⟩ = some (.int .i64 r.n) := by rw [← hV2]; exact cellOff n2 hgne
      have D : Shut (∀ u : World, At16 u g o pre post ((m.cells.set 13 (.slice (some ⟨g1, 0, none⟩) (m.k.tk.length + 1) cap)).set 9 (.int .i64 (m.k.sh + r.n))) → w4.grownBy u (some g) → GrowsR B w g o pre post m 0 { m.k with tk := m.k.tk ++ [(r.p, r.y)], sh := m.k.sh + r.n } u) := ⟨fun u h1 h2 => by
       have hC := take_done (p := r.p) (y := r.y) (sh := m.k.sh + r.n) hN HG.out.1 HG.out.2.1 HG.out.2.2.1 HG.out.2.2.2 hwV hgrow (by rw [tkCells_append]; exact hown4) (by rcases hat with h | h; exact .inl h; exact .inr (by rw [h]; exact hwV.size)) (h1.conv (by simp only [MKp.cells, List.length_append, List.length_singleton]; rfl)) h2 l6
       exact ⟨hC.below hN HG.out.2.2.1 (by have := HG.out.2.2; omega), fun _ => ⟨_, rfl, hC⟩⟩⟩
      rw [hV2]
      clear hV2 hwV hk4 n2 hA4 d13 e13 hown4 hgrow hat hlt4 hown3 hNB c13d t0d t1d Y b0 b1 b2 b3 b4 b5 b6 b7 b8 b9 b10 b11 b12 t0 t1 c9 c13 f13 hN hbq
      have c9 := HA.out.1.cell 9 _ rfl
      have f9 := HA.out.1.frz (o + 9)
      go_upto_region 9 with fail
      go_region
      all_goals
       go_wp2
       go_ret
       rw [HR.out]
       exact ⟨rfl, ⟨D.out _ (At16.drew (At16.set HA.out.1 9 (by show 9 < 16; omega) _)) (grown_drew (grown_set HA.out.2 _ _))⟩⟩

end Go.Proofs.YtakkajjoeimkdaaGreatDoor
