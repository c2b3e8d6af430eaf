import Derived.Test.YtakkajjoeimkdaaGreatDoorPart18
import Derived.Test.YtakkajjoeimkdaaGreatDoorPart19
namespace Go.Proofs.YtakkajjoeimkdaaGreatDoor
open Go.RowKit
set_option linter.unusedVariables false
set_option linter.unusedSimpArgs false
attribute [local go_sem ↓] Go.wp_at_zero Go.wp_at_succ

theorem entersSymCopy : ∀ args w, (callFunc 106 args).run Tryz.prog w = .ok (.enter 106 args) w := enters_of Tryz.func106 (by kernel_rfl) rfl

def OwnM (w' : World) (B : Nat) (m' : MKp) : Prop := w'.ownsRow B 38 2 (.slice m'.ya m'.ys.length m'.yc) m'.ys.length (symCells m'.ys) ∧ w'.ownsRow B 149 2 (.slice m'.ta m'.k.tk.length m'.tc) m'.k.tk.length (tkCells m'.k.tk)

def SepM (m' : MKp) : Prop := (∀ b o b' o', m'.ya = some ⟨b, o, none⟩ → m'.ta = some ⟨b', o', none⟩ → b ≠ b') ∧ (∀ b o b' o', m'.ya = some ⟨b, o, none⟩ → m'.ca = some ⟨b', o', none⟩ → b ≠ b') ∧ (∀ b o b' o', m'.ta = some ⟨b, o, none⟩ → m'.ca = some ⟨b', o', none⟩ → b ≠ b') ∧
 (∀ y ∈ m'.ys, ∀ b o b' o', y.a = some ⟨b, o, none⟩ → m'.ya = some ⟨b', o', none⟩ → b ≠ b') ∧ (∀ y ∈ m'.ys, ∀ b o b' o', y.a = some ⟨b, o, none⟩ → m'.ta = some ⟨b', o', none⟩ → b ≠ b')

def CopyR (w w' : World) (m m' : MKp) : Prop := m'.k = m.k ∧ KpIn w' m' ∧ m'.fits ∧ (∀ b o, m'.ca = some ⟨b, o, none⟩ → w.heap.size ≤ b) ∧ (∀ b o, m'.ya = some ⟨b, o, none⟩ → w.heap.size ≤ b) ∧ (∀ b o, m'.ta = some ⟨b, o, none⟩ → w.heap.size ≤ b) ∧ (∀ y ∈ m'.ys, y.d.length ≤ y.c ∧ ∀ b o, y.a = some ⟨b, o, none⟩ → w.heap.size ≤ b) ∧ Below w.heap.size w w' ∧ OwnM w' w.heap.size m' ∧ SepM m'

theorem lies_of {V w' : World} {kb : Nat} {a : Option Addr} {xs : List Value} (h : Lies V a xs) (hk : ∀ k, k < V.heap.size → k ≠ kb → w'.heap[k]? = V.heap[k]?) (hne : ∀ b o, a = some ⟨b, o, none⟩ → b ≠ kb) : Lies w' a xs := by
 intro k u hu
 obtain ⟨b, off, e, hc⟩ := h k u hu
 refine ⟨b, off, e, ?_⟩
 have h1 := World.block_lt_of_cell? V _ hc
 rw [← hc]
 simp only [World.cell?, hk b (by simpa using h1) (hne b off e)]

theorem copyRes {w V2 V3 wr W9 : World} {m : MKp} {q1 q2 q3 : Option Addr} {c1 c2 c3 : Nat} {L : List MSym} (hin : KpIn w m) (hc : m.k.c.length ≤ 65536) (hy : m.ys.length ≤ 65536) (ht : m.k.tk.length ≤ 65536) (l1 : Lies V2 q1 (bs m.k.c)) (l2 : Lies V2 q2 (tkCells m.k.tk)) (A1 : ∀ b o, q1 = some ⟨b, o, none⟩ → w.heap.size + 2 ≤ b) (A2 : ∀ b o, q2 = some ⟨b, o, none⟩ → w.heap.size + 2 ≤ b)
  (hs : w.heap.size + 2 ≤ V2.heap.size) (hH : ∀ k, k < V2.heap.size → k ≠ w.heap.size → V3.heap[k]? = V2.heap[k]?) (hB3 : Below w.heap.size w V3) (hbr : Below V2.heap.size V3 wr) (ly : Lies wr q3 (symCells L)) (A3 : ∀ b o, q3 = some ⟨b, o, none⟩ → V2.heap.size ≤ b) (hL : L.map MSym.says = m.ys.map MSym.says)
  (hall : ∀ y ∈ L, SymIn wr y ∧ y.d.length ≤ y.c ∧ ∀ b o, y.a = some ⟨b, o, none⟩ → V2.heap.size ≤ b ∧ ∀ b' o', q3 = some ⟨b', o', none⟩ → b ≠ b')
  (S12 : ∀ b o b' o', q1 = some ⟨b, o, none⟩ → q2 = some ⟨b', o', none⟩ → b < b') (S1 : ∀ b o, q1 = some ⟨b, o, none⟩ → b < V2.heap.size) (S2 : ∀ b o, q2 = some ⟨b, o, none⟩ → b < V2.heap.size) (O2 : V2.ownsRow w.heap.size 149 2 (.slice q2 m.k.tk.length c2) m.k.tk.length (tkCells m.k.tk)) (O3 : wr.ownsRow V2.heap.size 38 2 (.slice q3 L.length c3) L.length (symCells L)) (h1 : m.k.c.length ≤ c1) (h2 : m.k.tk.length ≤ c2) (h3 : m.ys.length ≤ c3) (hk9 : ∀ k, k ≠ w.heap.size + 1 → W9.heap[k]? = wr.heap[k]?) (hB9 : ∀ B u, B ≤ w.heap.size + 1 → Below B u wr → Below B u W9) :
  CopyR w W9 m (MKp.mk m.k q1 c1 q3 c3 L q2 c2) := by
 have hw : ∀ k, k < V2.heap.size → k ≠ w.heap.size → wr.heap[k]? = V2.heap[k]? := fun k e1 e2 => (hbr.block k e1).trans (hH k e1 e2)
 have hLl : L.length = m.ys.length := by have := congrArg List.length hL; simpa using this
 refine ⟨rfl, ⟨?_, ?_, ?_, ?_, ?_⟩, ⟨?_, ?_, ?_, h1, ?_, h2⟩, ?_, ?_, ?_, ?_, ?_, ⟨?_, ?_⟩, ?_, ?_, ?_, ?_, ?_⟩
 ·exact liesG (lies_of l1 hw (fun b o e => by have := A1 b o e; omega)) hk9 (fun b o e => by have := A1 b o e; omega)
 ·exact liesG ly hk9 (fun b o e => by have := A3 b o e; omega)
 ·intro y hy'
  have h := hall y hy'
  exact symIn_far h.1 (fun _ b o e => by have := (h.2.2 b o e).1; omega) hk9
 ·exact hL.trans hin.says
 ·exact liesG (lies_of l2 hw (fun b o e => by have := A2 b o e; omega)) hk9 (fun b o e => by have := A2 b o e; omega)
 ·show m.k.c.length ≤ maxLen; unfold maxLen; omega
 ·show L.length ≤ maxLen; unfold maxLen; omega
 ·show m.k.tk.length ≤ maxLen; unfold maxLen; omega
 ·show L.length ≤ c3; omega
 ·intro b o e; have := A1 b o e; omega
 ·intro b o e; have := A3 b o e; omega
 ·intro b o e; have := A2 b o e; omega
 ·intro y hy'
  have h := hall y hy'
  exact ⟨h.2.1, fun b o e => by have := (h.2.2 b o e).1; omega⟩
 ·exact hB9 _ _ (by omega) (hB3.trans (hbr.mono (by omega)))
 ·refine own_at (own_low O3 (by omega)) (fun g hg => hk9 g ?_)
  have := (O3.lt g hg).1
  omega
 ·refine own_at O2 (fun g hg => ?_)
  have h0 : ∃ o, q2 = some ⟨g, o, none⟩ := by
   rcases O2.2 with ⟨e0, _⟩ | ⟨g', cap, cur, e0, _⟩
   ·rw [e0] at hg; cases hg
   ·rw [e0] at hg
    simp only [Value.slice.injEq] at e0
    obtain rfl : g' = g := by simpa [Value.ownBlock] using hg
    exact ⟨0, e0.1⟩
  obtain ⟨o, ho⟩ := h0
  have e1 := A2 g o ho
  have e2 := S2 g o ho
  exact (hk9 g (by omega)).trans (hw g e2 (by omega))
 ·intro b o b' o' e1 e2
  have := A3 b o e1
  have := S2 b' o' e2
  omega
 ·intro b o b' o' e1 e2
  have := A3 b o e1
  have := S1 b' o' e2
  omega
 ·intro b o b' o' e1 e2
  have := S12 b' o' b o e2 e1
  omega
 ·intro y hy' b o b' o' e1 e2
  exact ((hall y hy').2.2 b o e1).2 b' o' e2
 ·intro y hy' b o b' o' e1 e2
  have := ((hall y hy').2.2 b o e1).1
  have := S2 b' o' e2
  omega

theorem setK (W : World) (g j : Nat) (T : TypeId) (c : List Value) (v : Value) (h : W.heap[g]? = some (.cells c.toArray T (0, 0))) :
  ∃ W', W.setCell ⟨g, j, none⟩ v = W' ∧ W'.heap[g]? = some (.cells (c.set j v).toArray T (0, 0)) ∧ (∀ k, k ≠ g → W'.heap[k]? = W.heap[k]?) ∧ ∀ B w, B ≤ g → Below B w W → Below B w W' := by
 refine ⟨_, rfl, ?_, fun k hk => setCell_far _ _ hk, fun B w hB hb => hb.setCell (p := ⟨g, j, none⟩) hB _⟩
 have := setCell_blk (v := v) h j
 simpa using this

set_option maxHeartbeats 8000000 in
set_option maxRecDepth 8000 in
theorem keptCopy_none (m : MKp) (HZ : Shut (m.ys.length = 0)) (w : World) (hin : KpIn w m) (hc : m.k.c.length ≤ 65536) (hy : m.ys.length ≤ 65536) (ht : m.k.tk.length ≤ 65536) (hd : ∀ y ∈ m.ys, y.d.length ≤ 65536) :
  Calls Tryz.prog 67 #[.agg #[.int .i64 m.k.h.F, .int .i64 m.k.h.Q, .int .i64 m.k.h.T, .int .i64 m.k.h.L, .int .i64 m.k.h.B, .int .i64 m.k.h.K, .bool m.k.own, .slice m.ca m.k.c.length m.cc, .slice m.ya m.ys.length m.yc, .int .i64 m.k.sh, .int .i64 m.k.gv, .int .i64 m.k.tw, .int .i64 m.k.tr, .slice m.ta m.k.tk.length m.tc, .bool m.k.dl, .bool m.k.pg]] w fun e w' => ∃ m' : MKp, e = .returned m'.val ∧ Shut (CopyR w w' m m') := by
 obtain ⟨n1, hn1⟩ : ∃ n1, m.k.c.length = n1 := ⟨_, rfl⟩
 obtain ⟨n2, hn2⟩ : ∃ n2, m.k.tk.length = n2 := ⟨_, rfl⟩
 obtain ⟨n, hn⟩ : ∃ n, m.ys.length = n := ⟨_, rfl⟩
 have HN := Shut.mk (And.intro hn1 (And.intro hn2 (And.intro hn (And.intro hin hd))))
 rw [hn1] at hc
 rw [hn2] at ht
 rw [hn] at hy
 rw [hn1, hn2, hn]
 clear hn1 hn2 hn hin hd
 obtain ⟨W, hW⟩ : ∃ W, (w.alloc (.cells #[.int .i64 m.k.h.F, .int .i64 m.k.h.Q, .int .i64 m.k.h.T, .int .i64 m.k.h.L, .int .i64 m.k.h.B, .int .i64 m.k.h.K, .bool m.k.own, .slice m.ca n1 m.cc, .slice m.ya n m.yc, .int .i64 m.k.sh, .int .i64 m.k.gv, .int .i64 m.k.tw, .int .i64 m.k.tr, .slice m.ta n2 m.tc, .bool m.k.dl, .bool m.k.pg] 88)).alloc (.cells #[.int .i64 0, .int .i64 0, .int .i64 0, .int .i64 0, .int .i64 0, .int .i64 0, .bool false, .slice none 0 0, .slice none 0 0, .int .i64 0, .int .i64 0, .int .i64 0, .int .i64 0, .slice none 0 0, .bool false, .bool false] 88) = W := ⟨_, rfl⟩
 have hB : Below w.heap.size w W := by rw [← hW]; exact ((Below.refl _ _).alloc (Nat.le_refl _) _).alloc (by simp) _
 have hk : W.heap[w.heap.size]? = some (.cells [.int .i64 m.k.h.F, .int .i64 m.k.h.Q, .int .i64 m.k.h.T, .int .i64 m.k.h.L, .int .i64 m.k.h.B, .int .i64 m.k.h.K, .bool m.k.own, .slice m.ca n1 m.cc, .slice m.ya n m.yc, .int .i64 m.k.sh, .int .i64 m.k.gv, .int .i64 m.k.tw, .int .i64 m.k.tr, .slice m.ta n2 m.tc, .bool m.k.dl, .bool m.k.pg].toArray 88 (0, 0)) := by rw [← hW, heap_alloc_eq, if_neg (by simp), heap_alloc_eq, if_pos rfl]
 have hr : W.heap[w.heap.size + 1]? = some (.cells #[.int .i64 0, .int .i64 0, .int .i64 0, .int .i64 0, .int .i64 0, .int .i64 0, .bool false, .slice none 0 0, .slice none 0 0, .int .i64 0, .int .i64 0, .int .i64 0, .int .i64 0, .slice none 0 0, .bool false, .bool false] 88 (0, 0)) := by rw [← hW, heap_alloc_eq, if_pos (by simp)]
 have hsW : w.heap.size + 2 ≤ W.heap.size := by rw [← hW]; simp
 have inW := HN.out.2.2.2.1.below hB
 have hC1 := cloneB m.ca n1 m.cc (bs m.k.c) W (by rw [bs_length, HN.out.1]; omega) (bs_oneK _) hc inW.c
 have c7 := (kpBox hk 7 _ rfl).1
 have HW := Shut.mk hW
 clear hW inW
 go_enter Tryz.func67, Tryz.ntmps67
 go_upto_region 1 with fail
 rw [HW.out]
 clear HW
 go_wp2_with fail
 refine hC1.mono ?_
 rintro e W1 ⟨q1, c1, rfl, H1⟩
 have hk1 := blkB hk H1.out.2.2.2
 have hr1 := blkB hr H1.out.2.2.2
 have hB1 := hB.trans (H1.out.2.2.2.mono hB.size)
 have hs1 := Nat.le_trans hsW H1.out.2.2.2.size
 have A1 : Shut (∀ b o, q1 = some ⟨b, o, none⟩ → w.heap.size + 2 ≤ b) := ⟨fun b o e => by have := (H1.out.1.lt b (by rw [e]; rfl)).1; omega⟩
 have U1 : Shut (∀ b o, q1 = some ⟨b, o, none⟩ → b < W1.heap.size) := ⟨fun b o e => (H1.out.1.lt b (by rw [e]; rfl)).2⟩
 clear hC1 hk hr hB hsW c7
 obtain ⟨c7, f7⟩ := kpBox hk1 7 _ rfl
 go_upto_region 2 with fail
 obtain ⟨V1, hV1, hkV1, hoV1, hBV1⟩ := setK W1 w.heap.size 7 88 _ (.slice q1 n1 c1) hk1
 rw [hV1]
 have hrV1 : V1.heap[w.heap.size + 1]? = _ := (hoV1 _ (by omega)).trans hr1
 have hB1' := hBV1 _ _ (Nat.le_refl _) hB1
 have l1 := liesG H1.out.2.2.1 hoV1 (fun b o e => by have := A1.out b o e; omega)
 have hs1' : w.heap.size + 2 ≤ V1.heap.size := Nat.le_trans hs1 (hBV1 0 W1 (Nat.zero_le _) (Below.refl _ _)).size
 have U1' : Shut (∀ b o, q1 = some ⟨b, o, none⟩ → b < V1.heap.size) := ⟨fun b o e => by have := U1.out b o e; have := (hBV1 0 W1 (Nat.zero_le _) (Below.refl _ _)).size; omega⟩
 clear U1
 have HN1 := H1.out.2.1
 clear hV1 hBV1 hoV1 hk1 hr1 hB1 hs1 c7 f7 H1
 simp only [List.set_cons_succ, List.set_cons_zero] at hkV1
 have inV := HN.out.2.2.2.1.below hB1'
 have hC2 := cloneT m.ta n2 m.tc (tkCells m.k.tk) V1 (by rw [tkCells_length, HN.out.2.1]; omega) (tkCells_one _) ht inV.t
 have c13 := (kpBox hkV1 13 _ rfl).1
 clear inV
 go_wp2_with fail
 refine hC2.mono ?_
 rintro e W2 ⟨q2, c2, rfl, H2⟩
 have hk2 := blkB hkV1 H2.out.2.2.2
 have hr2 := blkB hrV1 H2.out.2.2.2
 have hB2 := hB1'.trans (H2.out.2.2.2.mono hB1'.size)
 have hs2 := Nat.le_trans hs1' H2.out.2.2.2.size
 have l12 := l1.below H2.out.2.2.2 (Nat.le_refl _)
 have A2 : Shut (∀ b o, q2 = some ⟨b, o, none⟩ → w.heap.size + 2 ≤ b) := ⟨fun b o e => by have := (H2.out.1.lt b (by rw [e]; rfl)).1; omega⟩
 have S12 : Shut (∀ b o b' o', q1 = some ⟨b, o, none⟩ → q2 = some ⟨b', o', none⟩ → b < b') := ⟨fun b o b' o' e1 e2 => by have := (H2.out.1.lt b' (by rw [e2]; rfl)).1; have := U1'.out b o e1; omega⟩
 have U2 : Shut ((∀ b o, q1 = some ⟨b, o, none⟩ → b < W2.heap.size) ∧ ∀ b o, q2 = some ⟨b, o, none⟩ → b < W2.heap.size) := ⟨fun b o e => by have := U1'.out b o e; have := H2.out.2.2.2.size; omega, fun b o e => (H2.out.1.lt b (by rw [e]; rfl)).2⟩
 have OW2 := Shut.mk (own_low H2.out.1 hs1')
 clear U1'
 clear hC2 hkV1 hrV1 hB1' hs1' c13 l1
 obtain ⟨c13, f13⟩ := kpBox hk2 13 _ rfl
 go_upto_region 3 with fail
 obtain ⟨V2, hV2, hkV2, hoV2, hBV2⟩ := setK W2 w.heap.size 13 88 _ (.slice q2 n2 c2) hk2
 rw [hV2]
 have hrV2 : V2.heap[w.heap.size + 1]? = _ := (hoV2 _ (by omega)).trans hr2
 have hB2' := hBV2 _ _ (Nat.le_refl _) hB2
 have l13 := liesG l12 hoV2 (fun b o e => by have := A1.out b o e; omega)
 have l2 := liesG H2.out.2.2.1 hoV2 (fun b o e => by have := A2.out b o e; omega)
 have hs2' : w.heap.size + 2 ≤ V2.heap.size := Nat.le_trans hs2 (hBV2 0 W2 (Nat.zero_le _) (Below.refl _ _)).size
 have HN2 := H2.out.2.1
 have UV : Shut ((∀ b o, q1 = some ⟨b, o, none⟩ → b < V2.heap.size) ∧ (∀ b o, q2 = some ⟨b, o, none⟩ → b < V2.heap.size) ∧ V2.ownsRow w.heap.size 149 2 (.slice q2 n2 c2) n2 (tkCells m.k.tk)) := by
  have hsz := (hBV2 0 W2 (Nat.zero_le _) (Below.refl _ _)).size
  refine ⟨fun b o e => by have := U2.out.1 b o e; omega, fun b o e => by have := U2.out.2 b o e; omega, ?_⟩
  refine own_at (own_low OW2.out (by omega)) (fun g hg => hoV2 g ?_)
  have := (OW2.out.lt g hg).1
  omega
 clear U2 OW2
 clear hV2 hBV2 hoV2 hk2 hr2 hB2 hs2 c13 f13 H2 l12
 simp only [List.set_cons_succ, List.set_cons_zero] at hkV2
 have inV := HN.out.2.2.2.1.below hB2'
 have hC3 := cloneY m.ya n m.yc (symCells m.ys) V2 (by rw [symCells_length, HN.out.2.2.1]; omega) (symCells_one _) hy inV.y
 have c8 := (kpBox hkV2 8 _ rfl).1
 clear inV
 go_wp2_with fail
 refine hC3.mono ?_
 rintro e W3 ⟨q3, c3, rfl, H3⟩
 have hk3 := blkB hkV2 H3.out.2.2.2
 have hr3 := blkB hrV2 H3.out.2.2.2
 have hB3 := hB2'.trans (H3.out.2.2.2.mono hB2'.size)
 have l123 := l13.below H3.out.2.2.2 (Nat.le_refl _)
 have l23 := l2.below H3.out.2.2.2 (Nat.le_refl _)
 have hv23 := H3.out.2.2.2.size
 have A3 : Shut (∀ b o, q3 = some ⟨b, o, none⟩ → V2.heap.size ≤ b) := ⟨fun b o e => (H3.out.1.lt b (by rw [e]; rfl)).1⟩
 clear hC3 hkV2 hrV2 hB2' c8
 obtain ⟨c8, f8⟩ := kpBox hk3 8 _ rfl
 go_upto_region 4 with fail
 obtain ⟨V3, hV3, hkV3, hoV3, hBV3⟩ := setK W3 w.heap.size 8 88 _ (.slice q3 n c3) hk3
 rw [hV3]
 have hrV3 : V3.heap[w.heap.size + 1]? = _ := (hoV3 _ (by omega)).trans hr3
 have hB3' := hBV3 _ _ (Nat.le_refl _) hB3
 have m1 := liesG l123 hoV3 (fun b o e => by have := A1.out b o e; omega)
 have m2 := liesG l23 hoV3 (fun b o e => by have := A2.out b o e; omega)
 have hs3' : V2.heap.size ≤ V3.heap.size := Nat.le_trans hv23 (hBV3 0 W3 (Nat.zero_le _) (Below.refl _ _)).size
 have ow3 : V3.ownsRow V2.heap.size 38 2 (.slice q3 n c3) n (symCells m.ys) := by
  have h0 := hBV3 0 W3 (Nat.zero_le _) (Below.refl _ _)
  refine H3.out.1.kept (row := some w.heap.size) ⟨h0.os, h0.tape, h0.output, h0.size, fun k _ hne => hoV3 k (fun e => hne (by rw [e]))⟩ (Or.inr ?_)
  intro e
  have := (H3.out.1.lt _ e).1
  omega
 have HN3 := H3.out.2.1
 have hH : ∀ k, k < V2.heap.size → k ≠ w.heap.size → V3.heap[k]? = V2.heap[k]? := fun k e1 e2 => (hoV3 k e2).trans (H3.out.2.2.2.block k e1)
 have P := Shut.mk (And.intro l13 (And.intro l2 (And.intro hs2' (And.intro hH hB3'))))
 have M := Shut.mk (And.intro hkV3 (And.intro hrV3 (And.intro m1 (And.intro m2 (And.intro hB3' (And.intro hs2' hs3'))))))
 simp only [List.set_cons_succ, List.set_cons_zero] at hkV3
 have c8 := (kpBox hkV3 8 _ rfl).1
 clear hV3 hBV3 hoV3 hk3 hr3 hB3 f8 H3 l123 l23 hv23 m1 m2 l13 l2 hH
 by_cases hn0 : n = 0
 ·obtain rfl := hn0
  have hkw := M.out.1
  have hrw := M.out.2.1
  go_wp2
  go_loopw [20] (fun i wr => i = .int .i64 0 ∧ wr = V3) (fun i _ => 0)
  case atStart => exact ⟨rfl, rfl⟩
  case round =>
   obtain ⟨rfl, rfl⟩ := hrel
   have q_0 : wr.cell? ⟨w.heap.size, 0, none⟩ = some (.int .i64 m.k.h.F) := (kpBox hkw 0 _ rfl).1
   have q_1 : wr.cell? ⟨w.heap.size, 1, none⟩ = some (.int .i64 m.k.h.Q) := (kpBox hkw 1 _ rfl).1
   have q_2 : wr.cell? ⟨w.heap.size, 2, none⟩ = some (.int .i64 m.k.h.T) := (kpBox hkw 2 _ rfl).1
   have q_3 : wr.cell? ⟨w.heap.size, 3, none⟩ = some (.int .i64 m.k.h.L) := (kpBox hkw 3 _ rfl).1
   have q_4 : wr.cell? ⟨w.heap.size, 4, none⟩ = some (.int .i64 m.k.h.B) := (kpBox hkw 4 _ rfl).1
   have q_5 : wr.cell? ⟨w.heap.size, 5, none⟩ = some (.int .i64 m.k.h.K) := (kpBox hkw 5 _ rfl).1
   have q_6 : wr.cell? ⟨w.heap.size, 6, none⟩ = some (.bool m.k.own) := (kpBox hkw 6 _ rfl).1
   have q_7 : wr.cell? ⟨w.heap.size, 7, none⟩ = some (.slice q1 n1 c1) := (kpBox hkw 7 _ rfl).1
   have q_8 : wr.cell? ⟨w.heap.size, 8, none⟩ = some (.slice q3 0 c3) := (kpBox hkw 8 _ rfl).1
   have q_9 : wr.cell? ⟨w.heap.size, 9, none⟩ = some (.int .i64 m.k.sh) := (kpBox hkw 9 _ rfl).1
   have q_10 : wr.cell? ⟨w.heap.size, 10, none⟩ = some (.int .i64 m.k.gv) := (kpBox hkw 10 _ rfl).1
   have q_11 : wr.cell? ⟨w.heap.size, 11, none⟩ = some (.int .i64 m.k.tw) := (kpBox hkw 11 _ rfl).1
   have q_12 : wr.cell? ⟨w.heap.size, 12, none⟩ = some (.int .i64 m.k.tr) := (kpBox hkw 12 _ rfl).1
   have q_13 : wr.cell? ⟨w.heap.size, 13, none⟩ = some (.slice q2 n2 c2) := (kpBox hkw 13 _ rfl).1
   have q_14 : wr.cell? ⟨w.heap.size, 14, none⟩ = some (.bool m.k.dl) := (kpBox hkw 14 _ rfl).1
   have q_15 : wr.cell? ⟨w.heap.size, 15, none⟩ = some (.bool m.k.pg) := (kpBox hkw 15 _ rfl).1
   have d_0 : wr.cell? ⟨w.heap.size + 1, 0, none⟩ = some (.int .i64 0) := (kpBox hrw 0 _ rfl).1
   have g_0 : wr.frozen? ⟨w.heap.size + 1, 0, none⟩ = false := (kpBox hrw 0 _ rfl).2
   have d_1 : wr.cell? ⟨w.heap.size + 1, 1, none⟩ = some (.int .i64 0) := (kpBox hrw 1 _ rfl).1
   have g_1 : wr.frozen? ⟨w.heap.size + 1, 1, none⟩ = false := (kpBox hrw 1 _ rfl).2
   have d_2 : wr.cell? ⟨w.heap.size + 1, 2, none⟩ = some (.int .i64 0) := (kpBox hrw 2 _ rfl).1
   have g_2 : wr.frozen? ⟨w.heap.size + 1, 2, none⟩ = false := (kpBox hrw 2 _ rfl).2
   have d_3 : wr.cell? ⟨w.heap.size + 1, 3, none⟩ = some (.int .i64 0) := (kpBox hrw 3 _ rfl).1
   have g_3 : wr.frozen? ⟨w.heap.size + 1, 3, none⟩ = false := (kpBox hrw 3 _ rfl).2
   have d_4 : wr.cell? ⟨w.heap.size + 1, 4, none⟩ = some (.int .i64 0) := (kpBox hrw 4 _ rfl).1
   have g_4 : wr.frozen? ⟨w.heap.size + 1, 4, none⟩ = false := (kpBox hrw 4 _ rfl).2
   have d_5 : wr.cell? ⟨w.heap.size + 1, 5, none⟩ = some (.int .i64 0) := (kpBox hrw 5 _ rfl).1
   have g_5 : wr.frozen? ⟨w.heap.size + 1, 5, none⟩ = false := (kpBox hrw 5 _ rfl).2
   have d_6 : wr.cell? ⟨w.heap.size + 1, 6, none⟩ = some (.bool false) := (kpBox hrw 6 _ rfl).1
   have g_6 : wr.frozen? ⟨w.heap.size + 1, 6, none⟩ = false := (kpBox hrw 6 _ rfl).2
   have d_7 : wr.cell? ⟨w.heap.size + 1, 7, none⟩ = some (.slice none 0 0) := (kpBox hrw 7 _ rfl).1
   have g_7 : wr.frozen? ⟨w.heap.size + 1, 7, none⟩ = false := (kpBox hrw 7 _ rfl).2
   have d_8 : wr.cell? ⟨w.heap.size + 1, 8, none⟩ = some (.slice none 0 0) := (kpBox hrw 8 _ rfl).1
   have g_8 : wr.frozen? ⟨w.heap.size + 1, 8, none⟩ = false := (kpBox hrw 8 _ rfl).2
   have d_9 : wr.cell? ⟨w.heap.size + 1, 9, none⟩ = some (.int .i64 0) := (kpBox hrw 9 _ rfl).1
   have g_9 : wr.frozen? ⟨w.heap.size + 1, 9, none⟩ = false := (kpBox hrw 9 _ rfl).2
   have d_10 : wr.cell? ⟨w.heap.size + 1, 10, none⟩ = some (.int .i64 0) := (kpBox hrw 10 _ rfl).1
   have g_10 : wr.frozen? ⟨w.heap.size + 1, 10, none⟩ = false := (kpBox hrw 10 _ rfl).2
   have d_11 : wr.cell? ⟨w.heap.size + 1, 11, none⟩ = some (.int .i64 0) := (kpBox hrw 11 _ rfl).1
   have g_11 : wr.frozen? ⟨w.heap.size + 1, 11, none⟩ = false := (kpBox hrw 11 _ rfl).2
   have d_12 : wr.cell? ⟨w.heap.size + 1, 12, none⟩ = some (.int .i64 0) := (kpBox hrw 12 _ rfl).1
   have g_12 : wr.frozen? ⟨w.heap.size + 1, 12, none⟩ = false := (kpBox hrw 12 _ rfl).2
   have d_13 : wr.cell? ⟨w.heap.size + 1, 13, none⟩ = some (.slice none 0 0) := (kpBox hrw 13 _ rfl).1
   have g_13 : wr.frozen? ⟨w.heap.size + 1, 13, none⟩ = false := (kpBox hrw 13 _ rfl).2
   have d_14 : wr.cell? ⟨w.heap.size + 1, 14, none⟩ = some (.bool false) := (kpBox hrw 14 _ rfl).1
   have g_14 : wr.frozen? ⟨w.heap.size + 1, 14, none⟩ = false := (kpBox hrw 14 _ rfl).2
   have d_15 : wr.cell? ⟨w.heap.size + 1, 15, none⟩ = some (.bool false) := (kpBox hrw 15 _ rfl).1
   have g_15 : wr.frozen? ⟨w.heap.size + 1, 15, none⟩ = false := (kpBox hrw 15 _ rfl).2
   go_wp2
   obtain ⟨W9, hW9, hb9, hk9, hB9⟩ := box16 wr (w.heap.size + 1) 88 _ _ _ _ _ _ _ _ _ _ _ _ _ _ _ _ (.int .i64 m.k.h.F) (.int .i64 m.k.h.Q) (.int .i64 m.k.h.T) (.int .i64 m.k.h.L) (.int .i64 m.k.h.B) (.int .i64 m.k.h.K) (.bool m.k.own) (.slice q1 n1 c1) (.slice q3 0 c3) (.int .i64 m.k.sh) (.int .i64 m.k.gv) (.int .i64 m.k.tw) (.int .i64 m.k.tr) (.slice q2 n2 c2) (.bool m.k.dl) (.bool m.k.pg) hrw
   rw [hW9]
   have R : Shut (CopyR w W9 m (MKp.mk m.k q1 c1 q3 c3 [] q2 c2)) := ⟨copyRes HN.out.2.2.2.1 (by rw [HN.out.1]; exact hc) (by rw [HN.out.2.2.1]; exact hy) (by rw [HN.out.2.1]; exact ht) P.out.1 P.out.2.1 A1.out A2.out P.out.2.2.1 P.out.2.2.2.1 P.out.2.2.2.2 (Below.refl _ _) (Lies.nil _ _) A3.out (by have h := List.eq_nil_of_length_eq_zero HN.out.2.2.1; rw [h]) (fun y hy => by cases hy) S12.out UV.out.1 UV.out.2.1 (by rw [HN.out.2.1]; exact UV.out.2.2) (by have h := List.eq_nil_of_length_eq_zero HN.out.2.2.1; have h2 := ow3; rw [h] at h2; exact h2) (by rw [HN.out.1]; exact HN1) (by rw [HN.out.2.1]; exact HN2) (by rw [HN.out.2.2.1]; exact HN3) hk9 hB9⟩
   clear hW9 hB9 hk9 q_0 d_0 g_0 q_1 d_1 g_1 q_2 d_2 g_2 q_3 d_3 g_3 q_4 d_4 g_4 q_5 d_5 g_5 q_6 d_6 g_6 q_7 d_7 g_7 q_8 d_8 g_8 q_9 d_9 g_9 q_10 d_10 g_10 q_11 d_11 g_11 q_12 d_12 g_12 q_13 d_13 g_13 q_14 d_14 g_14 q_15 d_15 g_15
   obtain ⟨q_0, q_1, q_2, q_3, q_4, q_5, q_6, q_7, q_8, q_9, q_10, q_11, q_12, q_13, q_14, q_15⟩ := bx16 hb9
   refine bodyPost_ret (v := .agg #[.int .i64 m.k.h.F, .int .i64 m.k.h.Q, .int .i64 m.k.h.T, .int .i64 m.k.h.L, .int .i64 m.k.h.B, .int .i64 m.k.h.K, .bool m.k.own, .slice q1 n1 c1, .slice q3 0 c3, .int .i64 m.k.sh, .int .i64 m.k.gv, .int .i64 m.k.tw, .int .i64 m.k.tr, .slice q2 n2 c2, .bool m.k.dl, .bool m.k.pg]) (by simp [results, Tryz.results67, go_sem, q_0, q_1, q_2, q_3, q_4, q_5, q_6, q_7, q_8, q_9, q_10, q_11, q_12, q_13, q_14, q_15]) rfl ?_
   exact ⟨MKp.mk m.k q1 c1 q3 c3 [] q2 c2, by simp only [MKp.val, List.length_nil]; rw [HN.out.1, HN.out.2.1], R⟩
 ·exact absurd (HN.out.2.2.1.symm.trans HZ.out) hn0

set_option maxHeartbeats 8000000 in
set_option maxRecDepth 8000 in
theorem keptCopy_some (m : MKp) (HZ : Shut (m.ys.length ≠ 0)) (w : World) (hin : KpIn w m) (hc : m.k.c.length ≤ 65536) (hy : m.ys.length ≤ 65536) (ht : m.k.tk.length ≤ 65536) (hd : ∀ y ∈ m.ys, y.d.length ≤ 65536) :
  Calls Tryz.prog 67 #[.agg #[.int .i64 m.k.h.F, .int .i64 m.k.h.Q, .int .i64 m.k.h.T, .int .i64 m.k.h.L, .int .i64 m.k.h.B, .int .i64 m.k.h.K, .bool m.k.own, .slice m.ca m.k.c.length m.cc, .slice m.ya m.ys.length m.yc, .int .i64 m.k.sh, .int .i64 m.k.gv, .int .i64 m.k.tw, .int .i64 m.k.tr, .slice m.ta m.k.tk.length m.tc, .bool m.k.dl, .bool m.k.pg]] w fun e w' => ∃ m' : MKp, e = .returned m'.val ∧ Shut (CopyR w w' m m') := by
 obtain ⟨n1, hn1⟩ : ∃ n1, m.k.c.length = n1 := ⟨_, rfl⟩
 obtain ⟨n2, hn2⟩ : ∃ n2, m.k.tk.length = n2 := ⟨_, rfl⟩
 obtain ⟨n, hn⟩ : ∃ n, m.ys.length = n := ⟨_, rfl⟩
 have HN := Shut.mk (And.intro hn1 (And.intro hn2 (And.intro hn (And.intro hin hd))))
 rw [hn1] at hc
 rw [hn2] at ht
 rw [hn] at hy
 rw [hn1, hn2, hn]
 clear hn1 hn2 hn hin hd
 obtain ⟨W, hW⟩ : ∃ W, (w.alloc (.cells #[.int .i64 m.k.h.F, .int .i64 m.k.h.Q, .int .i64 m.k.h.T, .int .i64 m.k.h.L, .int .i64 m.k.h.B, .int .i64 m.k.h.K, .bool m.k.own, .slice m.ca n1 m.cc, .slice m.ya n m.yc, .int .i64 m.k.sh, .int .i64 m.k.gv, .int .i64 m.k.tw, .int .i64 m.k.tr, .slice m.ta n2 m.tc, .bool m.k.dl, .bool m.k.pg] 88)).alloc (.cells #[.int .i64 0, .int .i64 0, .int .i64 0, .int .i64 0, .int .i64 0, .int .i64 0, .bool false, .slice none 0 0, .slice none 0 0, .int .i64 0, .int .i64 0, .int .i64 0, .int .i64 0, .slice none 0 0, .bool false, .bool false] 88) = W := ⟨_, rfl⟩
 have hB : Below w.heap.size w W := by rw [← hW]; exact ((Below.refl _ _).alloc (Nat.le_refl _) _).alloc (by simp) _
 have hk : W.heap[w.heap.size]? = some (.cells [.int .i64 m.k.h.F, .int .i64 m.k.h.Q, .int .i64 m.k.h.T, .int .i64 m.k.h.L, .int .i64 m.k.h.B, .int .i64 m.k.h.K, .bool m.k.own, .slice m.ca n1 m.cc, .slice m.ya n m.yc, .int .i64 m.k.sh, .int .i64 m.k.gv, .int .i64 m.k.tw, .int .i64 m.k.tr, .slice m.ta n2 m.tc, .bool m.k.dl, .bool m.k.pg].toArray 88 (0, 0)) := by rw [← hW, heap_alloc_eq, if_neg (by simp), heap_alloc_eq, if_pos rfl]
 have hr : W.heap[w.heap.size + 1]? = some (.cells #[.int .i64 0, .int .i64 0, .int .i64 0, .int .i64 0, .int .i64 0, .int .i64 0, .bool false, .slice none 0 0, .slice none 0 0, .int .i64 0, .int .i64 0, .int .i64 0, .int .i64 0, .slice none 0 0, .bool false, .bool false] 88 (0, 0)) := by rw [← hW, heap_alloc_eq, if_pos (by simp)]
 have hsW : w.heap.size + 2 ≤ W.heap.size := by rw [← hW]; simp
 have inW := HN.out.2.2.2.1.below hB
 have hC1 := cloneB m.ca n1 m.cc (bs m.k.c) W (by rw [bs_length, HN.out.1]; omega) (bs_oneK _) hc inW.c
 have c7 := (kpBox hk 7 _ rfl).1
 have HW := Shut.mk hW
 clear hW inW
 go_enter Tryz.func67, Tryz.ntmps67
 go_upto_region 1 with fail
 rw [HW.out]
 clear HW
 go_wp2_with fail
 refine hC1.mono ?_
 rintro e W1 ⟨q1, c1, rfl, H1⟩
 have hk1 := blkB hk H1.out.2.2.2
 have hr1 := blkB hr H1.out.2.2.2
 have hB1 := hB.trans (H1.out.2.2.2.mono hB.size)
 have hs1 := Nat.le_trans hsW H1.out.2.2.2.size
 have A1 : Shut (∀ b o, q1 = some ⟨b, o, none⟩ → w.heap.size + 2 ≤ b) := ⟨fun b o e => by have := (H1.out.1.lt b (by rw [e]; rfl)).1; omega⟩
 have U1 : Shut (∀ b o, q1 = some ⟨b, o, none⟩ → b < W1.heap.size) := ⟨fun b o e => (H1.out.1.lt b (by rw [e]; rfl)).2⟩
 clear hC1 hk hr hB hsW c7
 obtain ⟨c7, f7⟩ := kpBox hk1 7 _ rfl
 go_upto_region 2 with fail
 obtain ⟨V1, hV1, hkV1, hoV1, hBV1⟩ := setK W1 w.heap.size 7 88 _ (.slice q1 n1 c1) hk1
 rw [hV1]
 have hrV1 : V1.heap[w.heap.size + 1]? = _ := (hoV1 _ (by omega)).trans hr1
 have hB1' := hBV1 _ _ (Nat.le_refl _) hB1
 have l1 := liesG H1.out.2.2.1 hoV1 (fun b o e => by have := A1.out b o e; omega)
 have hs1' : w.heap.size + 2 ≤ V1.heap.size := Nat.le_trans hs1 (hBV1 0 W1 (Nat.zero_le _) (Below.refl _ _)).size
 have U1' : Shut (∀ b o, q1 = some ⟨b, o, none⟩ → b < V1.heap.size) := ⟨fun b o e => by have := U1.out b o e; have := (hBV1 0 W1 (Nat.zero_le _) (Below.refl _ _)).size; omega⟩
 clear U1
 have HN1 := H1.out.2.1
 clear hV1 hBV1 hoV1 hk1 hr1 hB1 hs1 c7 f7 H1
 simp only [List.set_cons_succ, List.set_cons_zero] at hkV1
 have inV := HN.out.2.2.2.1.below hB1'
 have hC2 := cloneT m.ta n2 m.tc (tkCells m.k.tk) V1 (by rw [tkCells_length, HN.out.2.1]; omega) (tkCells_one _) ht inV.t
 have c13 := (kpBox hkV1 13 _ rfl).1
 clear inV
 go_wp2_with fail
 refine hC2.mono ?_
 rintro e W2 ⟨q2, c2, rfl, H2⟩
 have hk2 := blkB hkV1 H2.out.2.2.2
 have hr2 := blkB hrV1 H2.out.2.2.2
 have hB2 := hB1'.trans (H2.out.2.2.2.mono hB1'.size)
 have hs2 := Nat.le_trans hs1' H2.out.2.2.2.size
 have l12 := l1.below H2.out.2.2.2 (Nat.le_refl _)
 have A2 : Shut (∀ b o, q2 = some ⟨b, o, none⟩ → w.heap.size + 2 ≤ b) := ⟨fun b o e => by have := (H2.out.1.lt b (by rw [e]; rfl)).1; omega⟩
 have S12 : Shut (∀ b o b' o', q1 = some ⟨b, o, none⟩ → q2 = some ⟨b', o', none⟩ → b < b') := ⟨fun b o b' o' e1 e2 => by have := (H2.out.1.lt b' (by rw [e2]; rfl)).1; have := U1'.out b o e1; omega⟩
 have U2 : Shut ((∀ b o, q1 = some ⟨b, o, none⟩ → b < W2.heap.size) ∧ ∀ b o, q2 = some ⟨b, o, none⟩ → b < W2.heap.size) := ⟨fun b o e => by have := U1'.out b o e; have := H2.out.2.2.2.size; omega, fun b o e => (H2.out.1.lt b (by rw [e]; rfl)).2⟩
 have OW2 := Shut.mk (own_low H2.out.1 hs1')
 clear U1'
 clear hC2 hkV1 hrV1 hB1' hs1' c13 l1
 obtain ⟨c13, f13⟩ := kpBox hk2 13 _ rfl
 go_upto_region 3 with fail
 obtain ⟨V2, hV2, hkV2, hoV2, hBV2⟩ := setK W2 w.heap.size 13 88 _ (.slice q2 n2 c2) hk2
 rw [hV2]
 have hrV2 : V2.heap[w.heap.size + 1]? = _ := (hoV2 _ (by omega)).trans hr2
 have hB2' := hBV2 _ _ (Nat.le_refl _) hB2
 have l13 := liesG l12 hoV2 (fun b o e => by have := A1.out b o e; omega)
 have l2 := liesG H2.out.2.2.1 hoV2 (fun b o e => by have := A2.out b o e; omega)
 have hs2' : w.heap.size + 2 ≤ V2.heap.size := Nat.le_trans hs2 (hBV2 0 W2 (Nat.zero_le _) (Below.refl _ _)).size
 have HN2 := H2.out.2.1
 have UV : Shut ((∀ b o, q1 = some ⟨b, o, none⟩ → b < V2.heap.size) ∧ (∀ b o, q2 = some ⟨b, o, none⟩ → b < V2.heap.size) ∧ V2.ownsRow w.heap.size 149 2 (.slice q2 n2 c2) n2 (tkCells m.k.tk)) := by
  have hsz := (hBV2 0 W2 (Nat.zero_le _) (Below.refl _ _)).size
  refine ⟨fun b o e => by have := U2.out.1 b o e; omega, fun b o e => by have := U2.out.2 b o e; omega, ?_⟩
  refine own_at (own_low OW2.out (by omega)) (fun g hg => hoV2 g ?_)
  have := (OW2.out.lt g hg).1
  omega
 clear U2 OW2
 clear hV2 hBV2 hoV2 hk2 hr2 hB2 hs2 c13 f13 H2 l12
 simp only [List.set_cons_succ, List.set_cons_zero] at hkV2
 have inV := HN.out.2.2.2.1.below hB2'
 have hC3 := cloneY m.ya n m.yc (symCells m.ys) V2 (by rw [symCells_length, HN.out.2.2.1]; omega) (symCells_one _) hy inV.y
 have c8 := (kpBox hkV2 8 _ rfl).1
 clear inV
 go_wp2_with fail
 refine hC3.mono ?_
 rintro e W3 ⟨q3, c3, rfl, H3⟩
 have hk3 := blkB hkV2 H3.out.2.2.2
 have hr3 := blkB hrV2 H3.out.2.2.2
 have hB3 := hB2'.trans (H3.out.2.2.2.mono hB2'.size)
 have l123 := l13.below H3.out.2.2.2 (Nat.le_refl _)
 have l23 := l2.below H3.out.2.2.2 (Nat.le_refl _)
 have hv23 := H3.out.2.2.2.size
 have A3 : Shut (∀ b o, q3 = some ⟨b, o, none⟩ → V2.heap.size ≤ b) := ⟨fun b o e => (H3.out.1.lt b (by rw [e]; rfl)).1⟩
 clear hC3 hkV2 hrV2 hB2' c8
 obtain ⟨c8, f8⟩ := kpBox hk3 8 _ rfl
 go_upto_region 4 with fail
 obtain ⟨V3, hV3, hkV3, hoV3, hBV3⟩ := setK W3 w.heap.size 8 88 _ (.slice q3 n c3) hk3
 rw [hV3]
 have hrV3 : V3.heap[w.heap.size + 1]? = _ := (hoV3 _ (by omega)).trans hr3
 have hB3' := hBV3 _ _ (Nat.le_refl _) hB3
 have m1 := liesG l123 hoV3 (fun b o e => by have := A1.out b o e; omega)
 have m2 := liesG l23 hoV3 (fun b o e => by have := A2.out b o e; omega)
 have hs3' : V2.heap.size ≤ V3.heap.size := Nat.le_trans hv23 (hBV3 0 W3 (Nat.zero_le _) (Below.refl _ _)).size
 have ow3 : V3.ownsRow V2.heap.size 38 2 (.slice q3 n c3) n (symCells m.ys) := by
  have h0 := hBV3 0 W3 (Nat.zero_le _) (Below.refl _ _)
  refine H3.out.1.kept (row := some w.heap.size) ⟨h0.os, h0.tape, h0.output, h0.size, fun k _ hne => hoV3 k (fun e => hne (by rw [e]))⟩ (Or.inr ?_)
  intro e
  have := (H3.out.1.lt _ e).1
  omega
 have HN3 := H3.out.2.1
 have hH : ∀ k, k < V2.heap.size → k ≠ w.heap.size → V3.heap[k]? = V2.heap[k]? := fun k e1 e2 => (hoV3 k e2).trans (H3.out.2.2.2.block k e1)
 have P := Shut.mk (And.intro l13 (And.intro l2 (And.intro hs2' (And.intro hH hB3'))))
 have M := Shut.mk (And.intro hkV3 (And.intro hrV3 (And.intro m1 (And.intro m2 (And.intro hB3' (And.intro hs2' hs3'))))))
 simp only [List.set_cons_succ, List.set_cons_zero] at hkV3
 have c8 := (kpBox hkV3 8 _ rfl).1
 clear hV3 hBV3 hoV3 hk3 hr3 hB3 f8 H3 l123 l23 hv23 m1 m2 l13 l2 hH
 by_cases hn0 : n = 0
 ·exact absurd (HN.out.2.2.1.trans hn0) HZ.out
 ·obtain ⟨g, rfl⟩ : ∃ g, q3 = some ⟨g, 0, none⟩ := by
   rcases ow3.2 with ⟨_, h0⟩ | ⟨g, cap, cur, h1, _⟩
   ·exact absurd h0 hn0
   ·simp only [Value.slice.injEq] at h1
    exact ⟨g, h1.1⟩
  have hgB : V2.heap.size ≤ g := A3.out g 0 rfl
  have HS : Shut (CopyY V2.heap.size V3 V3 g n c3 (m.ys.map MSym.says) 0) := ⟨m.ys, rfl, ow3, fun y hy => by
   have h := (HN.out.2.2.2.1.ys y hy)
   have hlt : y.d ≠ [] → ∀ b o, y.a = some ⟨b, o, none⟩ → b < w.heap.size := symIn_lt h
   exact ⟨h.below M.out.2.2.2.2.1, fun hd b o e => by have := hlt hd b o e; omega⟩, fun i y _ hi => absurd hi (by omega), Below.refl _ _⟩
  obtain ⟨o0, ho0⟩ : ∃ o0 : Nat, o0 = 0 := ⟨0, rfl⟩
  have HO0 := Shut.mk ho0
  rw [← ho0] at c8
  have A3' := Shut.mk A3.out
  obtain ⟨B, hBB⟩ : ∃ B, B = V2.heap.size := ⟨_, rfl⟩
  subst hBB
  clear ow3 A3 hs2' hs3' ho0 hrV3 hB3'
  go_wp2
  go_loopw [20] (fun i wr => ∃ q : Nat, q ≤ n ∧ i = .int .i64 q ∧ Shut (CopyY V2.heap.size V3 wr g n c3 (m.ys.map MSym.says) q)) (fun i _ => n - (intOf i).toNat)
  case atStart => exact ⟨0, Nat.zero_le _, rfl, HS⟩
  case round =>
   clear HS c8 hkV3
   obtain ⟨q, hq, rfl, HI⟩ := hrel
   obtain ⟨L, hL, hown, hall, hnew, hbr⟩ := HI.out
   have HI2 := Shut.mk (And.intro hL (And.intro hown (And.intro hall (And.intro hnew hbr))))
   have hLn : L.length = n := by have := hown.1; rw [symCells_length] at this; omega
   by_cases hlt : q < n
   ·have hqL : q < L.length := by omega
    obtain ⟨x, hx⟩ : ∃ x, L[q]? = some x := ⟨_, List.getElem?_eq_getElem hqL⟩
    have hxe : L[q] = x := by rw [List.getElem?_eq_getElem hqL] at hx; exact Option.some.inj hx
    have HQ := Shut.mk hx
    have hxi := (hall x (List.mem_of_getElem? hx)).1
    have hxd : x.d.length ≤ 65536 := by
     have h1 : (m.ys.map MSym.says)[q]? = some x.says := by rw [← hL, List.getElem?_map, hx]; rfl
     obtain ⟨y, hy1, hy2⟩ := List.mem_map.1 (List.mem_of_getElem? h1)
     have h2 := HN.out.2.2.2.2 y hy1
     have h3 : y.d = x.d := congrArg Prod.snd hy2
     rw [← h3]
     exact h2
    have hrow : ∀ (u : World), Below wr.heap.size wr u → u.cell? ⟨g, o0 + q * 2, none⟩ = some (.int .i64 x.id) ∧ u.cell? ⟨g, o0 + q * 2 + 1, none⟩ = some (.slice x.a x.d.length x.c) ∧ (∀ j, u.frozen? ⟨g, j, none⟩ = false) := fun u hu => by
     have ou := ownB HI2.out.2.1 hu
     obtain ⟨_, _, e1, e2, _⟩ := own_gen ou
     simp only [Value.slice.injEq] at e1
     obtain ⟨rfl, _, _⟩ := e1
     have h := sy_cell e2 hqL
     rw [hxe] at h
     rw [HO0.out]
     refine ⟨h.1, h.2, fun j => ?_⟩
     rcases ou.2 with ⟨h0, _⟩ | ⟨g', cap', cur, h0, _, hc, _⟩
     ·cases h0
     ·simp only [Value.slice.injEq, Option.some.injEq, Addr.mk.injEq] at h0
      obtain ⟨⟨rfl, _⟩, _, _⟩ := h0
      simp [World.frozen?, hc]
    have hkp : ∀ (u : World), Below wr.heap.size wr u → u.cell? ⟨w.heap.size, 8, none⟩ = some (.slice (some ⟨g, o0, none⟩) n c3) := fun u hu => by
     have h1 : wr.heap[w.heap.size]? = V3.heap[w.heap.size]? := hbr.block _ (by have := M.out.2.2.2.2.2.1; omega)
     have h2 := h1.trans M.out.1
     have h3 := blkB h2 hu
     rw [HO0.out]
     exact (kpBox h3 8 _ rfl).1
    have hqc : q < c3 := by omega
    obtain ⟨p0, p1, _⟩ := hrow wr (Below.refl _ _)
    have HR := Shut.mk hrow
    have HK := Shut.mk hkp
    clear HI hL hown hall hnew hx hxe hrow hkp
    go_upto_region 7 with fail
    obtain ⟨W1, hW1⟩ : ∃ W1, wr.alloc (.cells #[.int .i64 x.id, .slice x.a x.d.length x.c] 38) = W1 := ⟨_, rfl⟩
    rw [hW1]
    have hb1 : Below wr.heap.size wr W1 := by rw [← hW1]; exact (Below.refl _ _).alloc (Nat.le_refl _) _
    have hx1 : W1.heap[wr.heap.size]? = some (.cells #[.int .i64 x.id, .slice x.a x.d.length x.c] 38 (0, 0)) := by rw [← hW1, heap_alloc_eq, if_pos rfl]
    have hCp : ∀ u : World, Below W1.heap.size W1 u → Calls Tryz.prog 106 #[.agg #[.int .i64 x.id, .slice x.a x.d.length x.c]] u fun e w' => ∃ v, e = .returned v ∧ ((∃ qa ca, v = .agg #[.int .i64 x.id, .slice qa x.d.length ca] ∧ x.d.length ≤ ca ∧ Lies w' qa (bs x.d) ∧ ∀ b o, qa = some ⟨b, o, none⟩ → W1.heap.size ≤ b) ∧ Below W1.heap.size W1 w') := fun u hu => by
     refine (symbolCopy_any x.id x.a x.d.length x.c x.d u rfl hxd ((hxi.below hb1).below hu).1).mono ?_
     rintro e w' ⟨qa, ca, rfl, H⟩
     exact ⟨_, rfl, ⟨qa, ca, rfl, H.out.1, H.out.2.1, fun b o e => Nat.le_trans hu.size (H.out.2.2.2 b o e)⟩, hu.trans (H.out.2.2.1.mono hu.size)⟩
    have hxm := hxi.2
    have HB1 := Shut.mk hb1
    clear hW1 p0 p1 hxi hxd hbr
    obtain ⟨r0, r1, fz⟩ := HR.out W1 hb1
    have k8 := HK.out W1 hb1
    have x0 : W1.cell? ⟨wr.heap.size, 0, none⟩ = some (.int .i64 x.id) := cellB hx1 0 _ rfl
    have x1 : W1.cell? ⟨wr.heap.size, 1, none⟩ = some (.slice x.a x.d.length x.c) := cellB hx1 1 _ rfl
    have k8' : W1.drew.cell? ⟨w.heap.size, 8, none⟩ = some (.slice (some ⟨g, o0, none⟩) n c3) := k8
    have x0' : W1.drew.cell? ⟨wr.heap.size, 0, none⟩ = some (.int .i64 x.id) := x0
    have x1' : W1.drew.cell? ⟨wr.heap.size, 1, none⟩ = some (.slice x.a x.d.length x.c) := x1
    clear hx1 hb1
    go_region_law (refine step_call1 entersSymCopy rfl (.tmp 28) 38 rfl _ rfl (hCp _ (Below.refl _ _).drew) ?_; rintro _ wk ⟨⟨qa, ca, rfl, hcc, hla, hna⟩, hbk⟩; have hbw : Below wr.heap.size wr wk := HB1.out.trans (hbk.mono HB1.out.size); obtain ⟨y0, y1, fy⟩ := HR.out wk hbw; have y8 := HK.out wk hbw; have fy0 := fy (o0 + q * 2); have fy1 := fy (o0 + q * 2 + 1))
    all_goals
     have HST := Shut.mk (CopyY.step (x := ⟨x.id, qa, ca, x.d⟩) HI2.out.1 HI2.out.2.1 HI2.out.2.2.1 HI2.out.2.2.2.1 HI2.out.2.2.2.2 HQ.out hbw HB1.out.size rfl ⟨hla, hxm⟩ hcc hna hlt)
     have e9 : Shut (CopyY V2.heap.size V3 (setRun wk g (o0 + q * 2) [.int .i64 x.id, .slice qa x.d.length ca]) g n c3 (m.ys.map MSym.says) (q + 1)) := ⟨by
      rw [HO0.out, show 0 + q * 2 = 2 * q by omega]
      exact HST.out⟩
     have e8 : (wk.setCell ⟨g, o0 + q * 2, none⟩ (.int .i64 x.id)).setCell ⟨g, o0 + q * 2 + 1, none⟩ (.slice qa x.d.length ca) = setRun wk g (o0 + q * 2) [.int .i64 x.id, .slice qa x.d.length ca] := rfl
     rw [e8]
     generalize setRun wk g (o0 + q * 2) [.int .i64 x.id, .slice qa x.d.length ca] = W9 at e9 ⊢
     clear e8 HST y0 y1 fy y8 fy0 fy1 hbw hbk hla hna hcc
     go_wp2
     go_roundw
     case rel => exact ⟨q + 1, by omega, by go_num, e9⟩
     case measure => simp [intOf]; omega
   ·have hqn : n = q := by omega
    subst hqn
    have hkw := (hbr.block w.heap.size (by have := P.out.2.2.1; omega)).trans M.out.1
    have hrw := (hbr.block (w.heap.size + 1) (by have := P.out.2.2.1; omega)).trans M.out.2.1
    have lyw : Lies wr (some ⟨g, 0, none⟩) (symCells L) := by
     obtain ⟨_, _, e1, e2, _⟩ := own_gen hown
     simp only [Value.slice.injEq] at e1
     obtain ⟨rfl, _, _⟩ := e1
     exact e2
    have F := Shut.mk (And.intro hbr (And.intro lyw (And.intro hL (fun y hy => (show SymIn wr y ∧ y.d.length ≤ y.c ∧ ∀ b o, y.a = some ⟨b, o, none⟩ → V2.heap.size ≤ b ∧ ∀ b' o', (some ⟨g, 0, none⟩ : Option Addr) = some ⟨b', o', none⟩ → b ≠ b' from by
     obtain ⟨i, hi⟩ := List.mem_iff_getElem?.1 hy
     have h1 := hnew i y hi (by have := (List.getElem?_eq_some_iff.1 hi).1; omega)
     refine ⟨(hall y hy).1, h1.1, fun b o e => ⟨(h1.2 b o e).1, fun b' o' e' => ?_⟩⟩
     simp only [Option.some.injEq, Addr.mk.injEq] at e'
     obtain ⟨rfl, _⟩ := e'
     exact (h1.2 b o e).2)))))
    have FO := Shut.mk (show wr.ownsRow V2.heap.size 38 2 (.slice (some ⟨g, 0, none⟩) L.length c3) L.length (symCells L) from by rw [hLn]; exact hown)
    have hLn' := Shut.mk hLn
    clear HI hL hown hall hnew HI2 hbr lyw
    have q_0 : wr.cell? ⟨w.heap.size, 0, none⟩ = some (.int .i64 m.k.h.F) := (kpBox hkw 0 _ rfl).1
    have q_1 : wr.cell? ⟨w.heap.size, 1, none⟩ = some (.int .i64 m.k.h.Q) := (kpBox hkw 1 _ rfl).1
    have q_2 : wr.cell? ⟨w.heap.size, 2, none⟩ = some (.int .i64 m.k.h.T) := (kpBox hkw 2 _ rfl).1
    have q_3 : wr.cell? ⟨w.heap.size, 3, none⟩ = some (.int .i64 m.k.h.L) := (kpBox hkw 3 _ rfl).1
    have q_4 : wr.cell? ⟨w.heap.size, 4, none⟩ = some (.int .i64 m.k.h.B) := (kpBox hkw 4 _ rfl).1
    have q_5 : wr.cell? ⟨w.heap.size, 5, none⟩ = some (.int .i64 m.k.h.K) := (kpBox hkw 5 _ rfl).1
    have q_6 : wr.cell? ⟨w.heap.size, 6, none⟩ = some (.bool m.k.own) := (kpBox hkw 6 _ rfl).1
    have q_7 : wr.cell? ⟨w.heap.size, 7, none⟩ = some (.slice q1 n1 c1) := (kpBox hkw 7 _ rfl).1
    have q_8 : wr.cell? ⟨w.heap.size, 8, none⟩ = some (.slice (some ⟨g, 0, none⟩) n c3) := (kpBox hkw 8 _ rfl).1
    have q_9 : wr.cell? ⟨w.heap.size, 9, none⟩ = some (.int .i64 m.k.sh) := (kpBox hkw 9 _ rfl).1
    have q_10 : wr.cell? ⟨w.heap.size, 10, none⟩ = some (.int .i64 m.k.gv) := (kpBox hkw 10 _ rfl).1
    have q_11 : wr.cell? ⟨w.heap.size, 11, none⟩ = some (.int .i64 m.k.tw) := (kpBox hkw 11 _ rfl).1
    have q_12 : wr.cell? ⟨w.heap.size, 12, none⟩ = some (.int .i64 m.k.tr) := (kpBox hkw 12 _ rfl).1
    have q_13 : wr.cell? ⟨w.heap.size, 13, none⟩ = some (.slice q2 n2 c2) := (kpBox hkw 13 _ rfl).1
    have q_14 : wr.cell? ⟨w.heap.size, 14, none⟩ = some (.bool m.k.dl) := (kpBox hkw 14 _ rfl).1
    have q_15 : wr.cell? ⟨w.heap.size, 15, none⟩ = some (.bool m.k.pg) := (kpBox hkw 15 _ rfl).1
    have d_0 : wr.cell? ⟨w.heap.size + 1, 0, none⟩ = some (.int .i64 0) := (kpBox hrw 0 _ rfl).1
    have g_0 : wr.frozen? ⟨w.heap.size + 1, 0, none⟩ = false := (kpBox hrw 0 _ rfl).2
    have d_1 : wr.cell? ⟨w.heap.size + 1, 1, none⟩ = some (.int .i64 0) := (kpBox hrw 1 _ rfl).1
    have g_1 : wr.frozen? ⟨w.heap.size + 1, 1, none⟩ = false := (kpBox hrw 1 _ rfl).2
    have d_2 : wr.cell? ⟨w.heap.size + 1, 2, none⟩ = some (.int .i64 0) := (kpBox hrw 2 _ rfl).1
    have g_2 : wr.frozen? ⟨w.heap.size + 1, 2, none⟩ = false := (kpBox hrw 2 _ rfl).2
    have d_3 : wr.cell? ⟨w.heap.size + 1, 3, none⟩ = some (.int .i64 0) := (kpBox hrw 3 _ rfl).1
    have g_3 : wr.frozen? ⟨w.heap.size + 1, 3, none⟩ = false := (kpBox hrw 3 _ rfl).2
    have d_4 : wr.cell? ⟨w.heap.size + 1, 4, none⟩ = some (.int .i64 0) := (kpBox hrw 4 _ rfl).1
    have g_4 : wr.frozen? ⟨w.heap.size + 1, 4, none⟩ = false := (kpBox hrw 4 _ rfl).2
    have d_5 : wr.cell? ⟨w.heap.size + 1, 5, none⟩ = some (.int .i64 0) := (kpBox hrw 5 _ rfl).1
    have g_5 : wr.frozen? ⟨w.heap.size + 1, 5, none⟩ = false := (kpBox hrw 5 _ rfl).2
    have d_6 : wr.cell? ⟨w.heap.size + 1, 6, none⟩ = some (.bool false) := (kpBox hrw 6 _ rfl).1
    have g_6 : wr.frozen? ⟨w.heap.size + 1, 6, none⟩ = false := (kpBox hrw 6 _ rfl).2
    have d_7 : wr.cell? ⟨w.heap.size + 1, 7, none⟩ = some (.slice none 0 0) := (kpBox hrw 7 _ rfl).1
    have g_7 : wr.frozen? ⟨w.heap.size + 1, 7, none⟩ = false := (kpBox hrw 7 _ rfl).2
    have d_8 : wr.cell? ⟨w.heap.size + 1, 8, none⟩ = some (.slice none 0 0) := (kpBox hrw 8 _ rfl).1
    have g_8 : wr.frozen? ⟨w.heap.size + 1, 8, none⟩ = false := (kpBox hrw 8 _ rfl).2
    have d_9 : wr.cell? ⟨w.heap.size + 1, 9, none⟩ = some (.int .i64 0) := (kpBox hrw 9 _ rfl).1
    have g_9 : wr.frozen? ⟨w.heap.size + 1, 9, none⟩ = false := (kpBox hrw 9 _ rfl).2
    have d_10 : wr.cell? ⟨w.heap.size + 1, 10, none⟩ = some (.int .i64 0) := (kpBox hrw 10 _ rfl).1
    have g_10 : wr.frozen? ⟨w.heap.size + 1, 10, none⟩ = false := (kpBox hrw 10 _ rfl).2
    have d_11 : wr.cell? ⟨w.heap.size + 1, 11, none⟩ = some (.int .i64 0) := (kpBox hrw 11 _ rfl).1
    have g_11 : wr.frozen? ⟨w.heap.size + 1, 11, none⟩ = false := (kpBox hrw 11 _ rfl).2
    have d_12 : wr.cell? ⟨w.heap.size + 1, 12, none⟩ = some (.int .i64 0) := (kpBox hrw 12 _ rfl).1
    have g_12 : wr.frozen? ⟨w.heap.size + 1, 12, none⟩ = false := (kpBox hrw 12 _ rfl).2
    have d_13 : wr.cell? ⟨w.heap.size + 1, 13, none⟩ = some (.slice none 0 0) := (kpBox hrw 13 _ rfl).1
    have g_13 : wr.frozen? ⟨w.heap.size + 1, 13, none⟩ = false := (kpBox hrw 13 _ rfl).2
    have d_14 : wr.cell? ⟨w.heap.size + 1, 14, none⟩ = some (.bool false) := (kpBox hrw 14 _ rfl).1
    have g_14 : wr.frozen? ⟨w.heap.size + 1, 14, none⟩ = false := (kpBox hrw 14 _ rfl).2
    have d_15 : wr.cell? ⟨w.heap.size + 1, 15, none⟩ = some (.bool false) := (kpBox hrw 15 _ rfl).1
    have g_15 : wr.frozen? ⟨w.heap.size + 1, 15, none⟩ = false := (kpBox hrw 15 _ rfl).2
    go_wp2
    obtain ⟨W9, hW9, hb9, hk9, hB9⟩ := box16 wr (w.heap.size + 1) 88 _ _ _ _ _ _ _ _ _ _ _ _ _ _ _ _ (.int .i64 m.k.h.F) (.int .i64 m.k.h.Q) (.int .i64 m.k.h.T) (.int .i64 m.k.h.L) (.int .i64 m.k.h.B) (.int .i64 m.k.h.K) (.bool m.k.own) (.slice q1 n1 c1) (.slice (some ⟨g, 0, none⟩) n c3) (.int .i64 m.k.sh) (.int .i64 m.k.gv) (.int .i64 m.k.tw) (.int .i64 m.k.tr) (.slice q2 n2 c2) (.bool m.k.dl) (.bool m.k.pg) hrw
    rw [hW9]
    have R : Shut (CopyR w W9 m (MKp.mk m.k q1 c1 (some ⟨g, 0, none⟩) c3 L q2 c2)) := ⟨copyRes HN.out.2.2.2.1 (by rw [HN.out.1]; exact hc) (by rw [HN.out.2.2.1]; exact hy) (by rw [HN.out.2.1]; exact ht) P.out.1 P.out.2.1 A1.out A2.out P.out.2.2.1 P.out.2.2.2.1 P.out.2.2.2.2 F.out.1 F.out.2.1 A3'.out F.out.2.2.1 F.out.2.2.2 S12.out UV.out.1 UV.out.2.1 (by rw [HN.out.2.1]; exact UV.out.2.2) FO.out (by rw [HN.out.1]; exact HN1) (by rw [HN.out.2.1]; exact HN2) (by rw [HN.out.2.2.1]; exact HN3) hk9 hB9⟩
    clear hW9 hB9 hk9 q_0 d_0 g_0 q_1 d_1 g_1 q_2 d_2 g_2 q_3 d_3 g_3 q_4 d_4 g_4 q_5 d_5 g_5 q_6 d_6 g_6 q_7 d_7 g_7 q_8 d_8 g_8 q_9 d_9 g_9 q_10 d_10 g_10 q_11 d_11 g_11 q_12 d_12 g_12 q_13 d_13 g_13 q_14 d_14 g_14 q_15 d_15 g_15
    obtain ⟨q_0, q_1, q_2, q_3, q_4, q_5, q_6, q_7, q_8, q_9, q_10, q_11, q_12, q_13, q_14, q_15⟩ := bx16 hb9
    refine bodyPost_ret (v := .agg #[.int .i64 m.k.h.F, .int .i64 m.k.h.Q, .int .i64 m.k.h.T, .int .i64 m.k.h.L, .int .i64 m.k.h.B, .int .i64 m.k.h.K, .bool m.k.own, .slice q1 n1 c1, .slice (some ⟨g, 0, none⟩) n c3, .int .i64 m.k.sh, .int .i64 m.k.gv, .int .i64 m.k.tw, .int .i64 m.k.tr, .slice q2 n2 c2, .bool m.k.dl, .bool m.k.pg]) (by simp [results, Tryz.results67, go_sem, q_0, q_1, q_2, q_3, q_4, q_5, q_6, q_7, q_8, q_9, q_10, q_11, q_12, q_13, q_14, q_15]) rfl ?_
    exact ⟨MKp.mk m.k q1 c1 (some ⟨g, 0, none⟩) c3 L q2 c2, by simp only [MKp.val]; rw [HN.out.1, HN.out.2.1, hLn'.out], R⟩

theorem keptCopy_any (m : MKp) (w : World) (hin : KpIn w m) (hc : m.k.c.length ≤ 65536) (hy : m.ys.length ≤ 65536) (ht : m.k.tk.length ≤ 65536) (hd : ∀ y ∈ m.ys, y.d.length ≤ 65536) :
  Calls Tryz.prog 67 #[.agg #[.int .i64 m.k.h.F, .int .i64 m.k.h.Q, .int .i64 m.k.h.T, .int .i64 m.k.h.L, .int .i64 m.k.h.B, .int .i64 m.k.h.K, .bool m.k.own, .slice m.ca m.k.c.length m.cc, .slice m.ya m.ys.length m.yc, .int .i64 m.k.sh, .int .i64 m.k.gv, .int .i64 m.k.tw, .int .i64 m.k.tr, .slice m.ta m.k.tk.length m.tc, .bool m.k.dl, .bool m.k.pg]] w fun e w' => ∃ m' : MKp, e = .returned m'.val ∧ Shut (CopyR w w' m m') := by
 by_cases hz : m.ys.length = 0
 ·exact keptCopy_none m ⟨hz⟩ w hin hc hy ht hd
 ·exact keptCopy_some m ⟨hz⟩ w hin hc hy ht hd

end Go.Proofs.YtakkajjoeimkdaaGreatDoor
