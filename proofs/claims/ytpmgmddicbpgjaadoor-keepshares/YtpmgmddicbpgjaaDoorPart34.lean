import Derived.Test.YtpmgmddicbpgjaaDoorPart32
import Derived.Test.YtpmgmddicbpgjaaDoorPart33
import Derived.Test.YtpmgmddicbpgjaaDoorPart1
import Derived.ProofKit
import Derived.OpenShut
import Derived.ShutString
import Derived.ChangeOld
import Derived.Below
import Derived.Carry
import Derived.SizedLaws
import Derived.Deep.Slices
import Derived.Test.YtpmgmddicbpgjaaDoorPart2
import Derived.Lib.SmallJoins
import Derived.Test.YtpmgmddicbpgjaaDoorPart9
import Derived.Test.YtpmgmddicbpgjaaDoorPart17
/-
  Chapter 9: KeepShares' walk.
-/
namespace Go.Proofs.YtpmgmddicbpgjaaDoor
open Go.RowKit
set_option linter.unusedVariables false
set_option linter.unusedSimpArgs false
attribute [local go_sem ↓] Go.wp_at_zero Go.wp_at_succ

theorem find_had {l : List MKp} {P : Pl} (h : Hd) (hs : l.map MKp.k = P.kp) : (findI (l.map MKp.k) h.F h.Q = -1 ∧ P.had h = 0) ∨ ∃ (i : Nat) (hi : i < l.length), findI (l.map MKp.k) h.F h.Q = (i : Int) ∧ l[i].k.sh = P.had h := by
  unfold Pl.had findI
  rw [← hs]
  rcases hf : findL (l.map MKp.k) h.F h.Q with _ | i
  · exact Or.inl ⟨rfl, rfl⟩
  · obtain ⟨hi, _⟩ := findL_some hf
    have hi' : i < l.length := by simpa using hi
    exact Or.inr ⟨i, hi', rfl, by simp [hi']⟩

/-- what the loop stands on -/
structure ShIn (w W : World) (P : Pl) (r : Rc) (n : Nat) (pa : Option Addr) (pc : Nat) (l : List MKp) (da : Option Addr) (dc : Nat) (ca : Option Addr) (cc : Nat) (L : List MKp) (p1 : Option Addr) : Prop where
  hB : Below w.heap.size w W
  hp : W.heap[w.heap.size]? = some (.cells #[.int .i64 P.me, .slice pa n pc, .int .i64 P.tm, .int .i64 P.sq] 25 (0, 0))
  hr : W.heap[w.heap.size + 1]? = some (.cells #[.int .i64 r.k, .int .i64 r.p, .int .i64 r.n, .int .i64 r.y, .int .i64 r.h.F, .int .i64 r.h.Q, .int .i64 r.h.T, .int .i64 r.h.L, .int .i64 r.h.B, .int .i64 r.h.K, .int .i64 r.id, .slice da r.d.length dc, .slice ca r.c.length cc] 40 (0, 0))
  hl : Lies W pa (kpCells l)
  h1 : Lies W p1 (kpCells L)

theorem ShIn.below {w W V : World} {P : Pl} {r : Rc} {n : Nat} {pa : Option Addr} {pc : Nat} {l : List MKp} {da : Option Addr} {dc : Nat} {ca : Option Addr} {cc : Nat} {L : List MKp} {p1 : Option Addr} (h : ShIn w W P r n pa pc l da dc ca cc L p1) (hb : Below W.heap.size W V) : ShIn w V P r n pa pc l da dc ca cc L p1 :=
  ⟨h.hB.trans (hb.mono h.hB.size), blkB h.hp hb, blkB h.hr hb, h.hl.below hb (Nat.le_refl _), h.h1.below hb (Nat.le_refl _)⟩

/-- what a round asks of the numbers -/
theorem due_of {P : Pl} {r : Rc} {y : Kp} (h : y.sh = P.due r y.h ∧ (r.h = y.h → r.k = 4 → y.gv = r.n)) : (r.h ≠ y.h ∨ r.k = 8 → y.sh = P.had y.h) ∧ (r.h = y.h → r.k ≠ 8 → (r.k = 1 ∨ r.k = 6 → y.sh = P.had y.h + r.n) ∧ (r.k = 4 → y.sh = P.had y.h - r.n ∧ y.gv = r.n) ∧ (r.k = 3 ∨ r.k = 7 → y.sh = 0) ∧ (r.k ≠ 1 → r.k ≠ 6 → r.k ≠ 4 → r.k ≠ 3 → r.k ≠ 7 → y.sh = P.had y.h)) := by
  obtain ⟨h1, h2⟩ := h
  unfold Pl.due at h1
  refine ⟨fun hn => ?_, fun he h8 => ?_⟩
  · rw [h1, if_neg]
    rintro ⟨e1, e2⟩
    rcases hn with hn | hn
    · exact hn e1
    · exact e2 hn
  · rw [if_pos ⟨he, h8⟩] at h1
    refine ⟨fun h => ?_, fun h => ⟨?_, h2 he h⟩, fun h => ?_, fun a b c d e => ?_⟩
    · rw [h1, if_pos h]
    · rw [h1, if_neg (by omega), if_pos h]
    · rw [h1, if_neg (by omega), if_neg (by omega), if_pos h]
    · rw [h1, if_neg (by omega), if_neg c, if_neg (by omega)]

set_option maxHeartbeats 16000000 in
set_option maxRecDepth 8000 in
theorem W_keepShares (P : Pl) (pa : Option Addr) (pc : Nat) (l : List MKp) (r : Rc) (da : Option Addr) (dc : Nat) (ca : Option Addr) (cc : Nat) (w : World) (hl : Lies w pa (kpCells l)) (hall : ∀ m ∈ l, KpGood w m) (hlm : l.length ≤ maxLen) (hlc : l.length ≤ pc) (hs : l.map MKp.k = P.kp) (hi : r.ints) (hd : r.d.length ≤ maxLen) (hda : Lies w da (bs r.d)) (hca : Lies w ca (bs r.c)) (hL : Laid w) :
    Calls Tryd.prog 4 #[.agg #[.int .i64 P.me, .slice pa l.length pc, .int .i64 P.tm, .int .i64 P.sq], rcV r da dc ca cc] w fun e w' => e = .returned (.bool true) ∧ Below w.heap.size w w' := by
  obtain ⟨n, hn⟩ : ∃ n, l.length = n := ⟨_, rfl⟩
  obtain ⟨W, hW⟩ : ∃ W, ((w.alloc (.cells #[.int .i64 P.me, .slice pa n pc, .int .i64 P.tm, .int .i64 P.sq] 25)).alloc (.cells #[.int .i64 r.k, .int .i64 r.p, .int .i64 r.n, .int .i64 r.y, .int .i64 r.h.F, .int .i64 r.h.Q, .int .i64 r.h.T, .int .i64 r.h.L, .int .i64 r.h.B, .int .i64 r.h.K, .int .i64 r.id, .slice da r.d.length dc, .slice ca r.c.length cc] 40)) = W := ⟨_, rfl⟩
  have hB : Below w.heap.size w W := by rw [← hW]; exact ((Below.refl _ _).alloc (Nat.le_refl _) _).alloc (by simp) _
  have hp : W.heap[w.heap.size]? = some (.cells #[.int .i64 P.me, .slice pa n pc, .int .i64 P.tm, .int .i64 P.sq] 25 (0, 0)) := by rw [← hW, heap_alloc_eq, if_neg (by simp), heap_alloc_eq, if_pos rfl]
  have hr : W.heap[w.heap.size + 1]? = some (.cells #[.int .i64 r.k, .int .i64 r.p, .int .i64 r.n, .int .i64 r.y, .int .i64 r.h.F, .int .i64 r.h.Q, .int .i64 r.h.T, .int .i64 r.h.L, .int .i64 r.h.B, .int .i64 r.h.K, .int .i64 r.id, .slice da r.d.length dc, .slice ca r.c.length cc] 40 (0, 0)) := by rw [← hW, heap_alloc_eq, if_pos (by simp)]
  have hN := placeNext_any P pa pc l r da dc ca cc W (hl.below hB (Nat.le_refl _)) (fun m hm => (hall m hm).below hB) hlm hlc hs hi hd (hda.below hB (Nat.le_refl _)) (hca.below hB (Nat.le_refl _)) (hL.below hB)
  obtain ⟨z, hz⟩ : ∃ z, P.nextCode r = z := ⟨_, rfl⟩
  obtain ⟨Q, hQ⟩ : ∃ Q, P.next r = Q := ⟨_, rfl⟩
  have hN := hN.mono (fun e w' h => NextR.eq h hz hQ)
  rw [hn] at hN
  obtain ⟨b0, b1, b2, b3⟩ := plBox hp
  obtain ⟨a0, a1, a2, a3, a4, a5, a6, a7, a8, a9, a10, a11, a12⟩ := rcBox hr
  have HW := Shut.mk hW
  have HX := Shut.mk (And.intro hn (And.intro hs (And.intro hi (And.intro hz (And.intro hQ (And.intro hlm hL))))))
  have H := Shut.mk (And.intro hB (And.intro hp (And.intro hr (hl.below hB (Nat.le_refl _)))))
  rw [hn]
  clear hW hB hp hr hn hs hi hz hQ hlm hlc hL hl hall hda hca hd
  unfold rcV
  go_enter Tryd.func4, Tryd.ntmps4
  go_upto_region 1 with fail
  rw [HW.out]
  clear HW
  simp only [rcV] at hN
  go_wp2_with fail
  refine hN.mono ?_
  rintro e W1 ⟨L1, p1, c1, rfl, H1⟩
  obtain ⟨nq, hnq⟩ : ∃ nq, Q.kp.length = nq := ⟨_, rfl⟩
  rw [hnq]
  have HQ := Shut.mk hnq
  clear hN b0 b1 b2 b3 a0 a1 a2 a3 a4 a5 a6 a7 a8 a9 a10 a11 a12 hnq
  go_upto_region 2 with fail
  obtain ⟨W2, hW2⟩ : ∃ W2, W1.alloc (.cells #[.int .i64 Q.me, .slice p1 nq c1, .int .i64 Q.tm, .int .i64 Q.sq] 25) = W2 := ⟨_, rfl⟩
  rw [hW2]
  have hb2 : Below W1.heap.size W1 W2 := by rw [← hW2]; exact (Below.refl _ _).alloc (Nat.le_refl _) _
  have hq2 : W2.heap[W1.heap.size]? = some (.cells #[.int .i64 Q.me, .slice p1 nq c1, .int .i64 Q.tm, .int .i64 Q.sq] 25 (0, 0)) := by rw [← hW2, heap_alloc_eq, if_pos rfl]
  have hB1 := H.out.1.trans (H1.out.2.mono H.out.1.size)
  have hB2 := hB1.trans (hb2.mono hB1.size)
  have hL2 := HX.out.2.2.2.2.2.2.below hB2
  have hp2 := blkB (blkB H.out.2.1 H1.out.2) hb2
  have hr2 := blkB (blkB H.out.2.2.1 H1.out.2) hb2
  have hl2 := (H.out.2.2.2.below H1.out.2 (Nat.le_refl _)).below hb2 (Nat.le_refl _)
  have hP2 := H1.out.1.below hb2
  have hH2 := held_any W2 hL2
  generalize W1.heap.size = gq at *
  have H2 := Shut.mk (And.intro hB2 (And.intro hp2 (And.intro hr2 (And.intro hl2 (And.intro hP2 (And.intro hq2 hL2))))))
  clear hW2 hb2 hq2 hB1 hB2 hL2 hp2 hr2 hl2 hP2 H1 H
  go_wp2_with fail
  refine hH2.mono ?_
  rintro e W3 ⟨rfl, hb3⟩
  have H3 := Shut.mk hb3
  have hB3 := H2.out.1.trans (hb3.mono H2.out.1.size)
  clear hH2 hb3
  rcases eqDec z 0 with ⟨y1, y2, y3, y4⟩ | ⟨y1, y2, y3, y4⟩
  case inr =>
    have hH3 := held_any W3 (H2.out.2.2.2.2.2.2.below H3.out)
    clear y1
    go_wp2_with fail
    refine hH3.mono ?_
    rintro e W4 ⟨rfl, hb4⟩
    have hB4 := hB3.trans (hb4.mono hB3.size)
    clear hH3 hb4
    go_wp2
    go_ret
    exact ⟨rfl, hB4⟩
  case inl =>
    subst y1
    obtain ⟨k1, k2, k3, k4⟩ := next_zero HX.out.2.2.2.1
    have hQe : Q = (P.does r).2 := by rw [← k4]; exact HX.out.2.2.2.2.1.symm
    have hQk : PlOk Q := by rw [hQe]; exact (does_ok k1 k2 k3).1
    have hSh := shares_true k1 k2 k3
    rw [← hQe] at hSh
    have hg := (H2.out.2.2.2.2.1.below H3.out).good hQk
    have HS : Shut (L1.length = nq ∧ L1.map MKp.k = Q.kp ∧ (∀ y ∈ Q.kp, (y.sh = P.due r y.h ∧ (r.h = y.h → r.k = 4 → y.gv = r.n)) ∧ I64 y.sh) ∧ nq ≤ maxLen ∧ nq ≤ c1) := ⟨by rw [hg.2.2.1, HQ.out], hg.2.2.2.2.2, fun y hy => ⟨hSh y hy, by
      have := (hQk.bun hy).ints
      exact this.sh⟩, by rw [← HQ.out, ← hg.2.2.1]; exact hg.2.2.2.1, by rw [← HQ.out]; exact hg.2.2.2.2.1⟩
    have S3 : Shut (ShIn w W3 P r n pa pc l da dc ca cc L1 p1) := ⟨⟨hB3, blkB H2.out.2.1 H3.out, blkB H2.out.2.2.1 H3.out, H2.out.2.2.2.1.below H3.out (Nat.le_refl _), hg.1⟩⟩
    obtain ⟨g0, g1, g2, g3⟩ := plBox (blkB H2.out.2.2.2.2.2.1 H3.out)
    have HY := Shut.mk (And.intro HX.out.1 (And.intro HX.out.2.1 (And.intro HX.out.2.2.1 HX.out.2.2.2.2.2.1)))
    have hnm := HS.out.2.2.2.1
    unfold maxLen at hnm
    clear k1 k2 k3 k4 hQe hQk hSh hg hB3 HX H2 H3 HQ
    go_upto_region 5 with fail
    clear g0 g1 g2 g3 y2 y3 y4
    go_loopw [28] (fun i wr => ∃ q : Nat, q ≤ nq ∧ i = .int .i64 q ∧ Shut (ShIn w wr P r n pa pc l da dc ca cc L1 p1)) (fun i _ => nq - (intOf i).toNat)
    case atStart => exact ⟨0, Nat.zero_le _, rfl, S3⟩
    case round =>
      obtain ⟨q, hq, rfl, HN⟩ := hrel
      clear S3
      by_cases hlt : q < nq
      · have hqN : q < L1.length := by rw [HS.out.1]; exact hlt
        have hlr := HN.out.h1
        obtain ⟨b1, o1, rfl⟩ := hlr.some (k := 16 * q) (by rw [kpCells_length]; omega)
        have h1 : Lies wr (some ⟨b1, o1, none⟩) (kpCells L1) ∧ L1[q]? = some L1[q] := ⟨hlr, List.getElem?_eq_getElem hqN⟩
        have hmem : L1[q].k ∈ Q.kp := by rw [← HS.out.2.1]; exact List.mem_map.2 ⟨_, List.getElem_mem hqN, rfl⟩
        have hD := Shut.mk (HS.out.2.2.1 _ hmem)
        generalize L1[q] = Y at *
        have t0 : wr.cell? ⟨b1, o1 + q * 16, none⟩ = some (.int .i64 Y.k.h.F) := kp_cell h1 0 rfl
        have t1 : wr.cell? ⟨b1, o1 + q * 16 + 1, none⟩ = some (.int .i64 Y.k.h.Q) := kp_cell h1 1 rfl
        have t2 : wr.cell? ⟨b1, o1 + q * 16 + 2, none⟩ = some (.int .i64 Y.k.h.T) := kp_cell h1 2 rfl
        have t3 : wr.cell? ⟨b1, o1 + q * 16 + 3, none⟩ = some (.int .i64 Y.k.h.L) := kp_cell h1 3 rfl
        have t4 : wr.cell? ⟨b1, o1 + q * 16 + 4, none⟩ = some (.int .i64 Y.k.h.B) := kp_cell h1 4 rfl
        have t5 : wr.cell? ⟨b1, o1 + q * 16 + 5, none⟩ = some (.int .i64 Y.k.h.K) := kp_cell h1 5 rfl
        have t6 : wr.cell? ⟨b1, o1 + q * 16 + 6, none⟩ = some (.bool Y.k.own) := kp_cell h1 6 rfl
        have t7 : wr.cell? ⟨b1, o1 + q * 16 + 7, none⟩ = some (.slice Y.ca Y.k.c.length Y.cc) := kp_cell h1 7 rfl
        have t8 : wr.cell? ⟨b1, o1 + q * 16 + 8, none⟩ = some (.slice Y.ya Y.ys.length Y.yc) := kp_cell h1 8 rfl
        have t9 : wr.cell? ⟨b1, o1 + q * 16 + 9, none⟩ = some (.int .i64 Y.k.sh) := kp_cell h1 9 rfl
        have t10 : wr.cell? ⟨b1, o1 + q * 16 + 10, none⟩ = some (.int .i64 Y.k.gv) := kp_cell h1 10 rfl
        have t11 : wr.cell? ⟨b1, o1 + q * 16 + 11, none⟩ = some (.int .i64 Y.k.tw) := kp_cell h1 11 rfl
        have t12 : wr.cell? ⟨b1, o1 + q * 16 + 12, none⟩ = some (.int .i64 Y.k.tr) := kp_cell h1 12 rfl
        have t13 : wr.cell? ⟨b1, o1 + q * 16 + 13, none⟩ = some (.slice Y.ta Y.k.tk.length Y.tc) := kp_cell h1 13 rfl
        have t14 : wr.cell? ⟨b1, o1 + q * 16 + 14, none⟩ = some (.bool Y.k.dl) := kp_cell h1 14 rfl
        have t15 : wr.cell? ⟨b1, o1 + q * 16 + 15, none⟩ = some (.bool Y.k.pg) := kp_cell h1 15 rfl
        clear hlr h1 hmem
        go_upto_region 7 with fail
        obtain ⟨U, hU⟩ : ∃ U, wr.alloc (.cells #[.int .i64 Y.k.h.F, .int .i64 Y.k.h.Q, .int .i64 Y.k.h.T, .int .i64 Y.k.h.L, .int .i64 Y.k.h.B, .int .i64 Y.k.h.K, .bool Y.k.own, .slice Y.ca Y.k.c.length Y.cc, .slice Y.ya Y.ys.length Y.yc, .int .i64 Y.k.sh, .int .i64 Y.k.gv, .int .i64 Y.k.tw, .int .i64 Y.k.tr, .slice Y.ta Y.k.tk.length Y.tc, .bool Y.k.dl, .bool Y.k.pg] 46) = U := ⟨_, rfl⟩
        rw [hU]
        have hbU : Below wr.heap.size wr U := by rw [← hU]; exact (Below.refl _ _).alloc (Nat.le_refl _) _
        have hyb : U.heap[wr.heap.size]? = some (.cells #[.int .i64 Y.k.h.F, .int .i64 Y.k.h.Q, .int .i64 Y.k.h.T, .int .i64 Y.k.h.L, .int .i64 Y.k.h.B, .int .i64 Y.k.h.K, .bool Y.k.own, .slice Y.ca Y.k.c.length Y.cc, .slice Y.ya Y.ys.length Y.yc, .int .i64 Y.k.sh, .int .i64 Y.k.gv, .int .i64 Y.k.tw, .int .i64 Y.k.tr, .slice Y.ta Y.k.tk.length Y.tc, .bool Y.k.dl, .bool Y.k.pg] 46 (0, 0)) := by rw [← hU, heap_alloc_eq, if_pos rfl]
        have SU := HN.out.below hbU
        generalize wr.heap.size = gy at *
        have q0 : U.cell? ⟨gy, 0, none⟩ = some (.int .i64 Y.k.h.F) := cellB hyb 0 _ rfl
        have q1 : U.cell? ⟨gy, 1, none⟩ = some (.int .i64 Y.k.h.Q) := cellB hyb 1 _ rfl
        have hF := find_any P.me P.tm P.sq pa pc l Y.k.h.F Y.k.h.Q U SU.hl HY.out.2.2.2
        rw [HY.out.1] at hF
        have hfh := find_had Y.k.h HY.out.2.1
        generalize findI (l.map MKp.k) Y.k.h.F Y.k.h.Q = fi at *
        obtain ⟨b0, b1', b2, b3⟩ := plBox SU.hp
        have HU := Shut.mk (And.intro SU hyb)
        clear hU hbU hyb SU HN t0 t1 t2 t3 t4 t5 t6 t7 t8 t9 t10 t11 t12 t13 t14 t15
        go_wp2_with fail
        refine hF.mono ?_
        rintro e V ⟨rfl, hbV⟩
        have SV := HU.out.1.below hbV
        have hyb := blkB HU.out.2 hbV
        clear hF hbV HU q0 q1 b0 b1' b2 b3
        obtain ⟨b0, b1', b2, b3⟩ := plBox SV.hp
        obtain ⟨a0, a1, a2, a3, a4, a5, a6, a7, a8, a9, a10, a11, a12⟩ := rcBox SV.hr
        have q0 : V.cell? ⟨gy, 0, none⟩ = some (.int .i64 Y.k.h.F) := cellB hyb 0 _ rfl
        have q1 : V.cell? ⟨gy, 1, none⟩ = some (.int .i64 Y.k.h.Q) := cellB hyb 1 _ rfl
        have q2 : V.cell? ⟨gy, 2, none⟩ = some (.int .i64 Y.k.h.T) := cellB hyb 2 _ rfl
        have q3 : V.cell? ⟨gy, 3, none⟩ = some (.int .i64 Y.k.h.L) := cellB hyb 3 _ rfl
        have q4 : V.cell? ⟨gy, 4, none⟩ = some (.int .i64 Y.k.h.B) := cellB hyb 4 _ rfl
        have q5 : V.cell? ⟨gy, 5, none⟩ = some (.int .i64 Y.k.h.K) := cellB hyb 5 _ rfl
        have q9 : V.cell? ⟨gy, 9, none⟩ = some (.int .i64 Y.k.sh) := cellB hyb 9 _ rfl
        have q10 : V.cell? ⟨gy, 10, none⟩ = some (.int .i64 Y.k.gv) := cellB hyb 10 _ rfl
        have hE := eqlHead r.h Y.k.h
        simp only [Hd.val] at hE
        obtain ⟨D1, D2⟩ := due_of hD.out.1
        have DI := hD.out.2
        obtain ⟨was, hwas⟩ : ∃ was, P.had Y.k.h = was := ⟨_, rfl⟩
        rw [hwas] at D1 D2 hfh
        have SS := Shut.mk SV
        clear hD hyb hwas
        obtain ⟨kk, hkk⟩ : ∃ kk, r.k = kk := ⟨_, rfl⟩
        obtain ⟨nn, hnn⟩ : ∃ nn, r.n = nn := ⟨_, rfl⟩
        obtain ⟨ys, hys⟩ : ∃ ys, Y.k.sh = ys := ⟨_, rfl⟩
        obtain ⟨yg, hyg⟩ : ∃ yg, Y.k.gv = yg := ⟨_, rfl⟩
        rw [hkk] at a0 D1 D2
        rw [hnn] at a2 D2
        rw [hys] at q9 D1 D2 DI
        rw [hyg] at q10 D2
        clear hkk hnn hys hyg
        rcases hfh with ⟨rfl, rfl⟩ | ⟨i, hil, rfl, hw⟩
        case inl =>
          clear SV
          rcases hD0 : decide (r.h = Y.k.h) with _ | _
          case false =>
            simp only [hD0] at hE
            have e := D1 (Or.inl (by simpa using hD0))
            subst e
            clear D1 D2 hD0
            go_wp2
            go_roundw
            case rel => exact ⟨q + 1, by omega, by go_num, SS⟩
            case measure => simp [intOf]; omega
          case true =>
            simp only [hD0] at hE
            have hD1 : r.h = Y.k.h := by simpa using hD0
            clear hD0
            rcases Classical.em (kk = 8) with e8 | e8
            · have e := D1 (Or.inr e8)
              subst e
              subst e8
              clear D1 D2 hD1
              go_wp2
              go_roundw
              case rel => exact ⟨q + 1, by omega, by go_num, SS⟩
              case measure => simp [intOf]; omega
            obtain ⟨D3, D4, D5, D6⟩ := D2 hD1 e8
            clear D1 D2 hD1
            rcases Classical.em (kk = 1) with e1 | e1
            · have e := D3 (by omega)
              have ew : IntKind.i64.wrap (0 + nn) = ys := by rw [IntKind.wrap_i64]; unfold I64 at DI; omega
              have ew2 : IntKind.i64.wrap (nn) = ys := by rw [IntKind.wrap_i64]; unfold I64 at DI; omega
              subst e1
              clear D3 D4 D5 D6 e DI e8
              go_wp2
              go_roundw
              case rel => exact ⟨q + 1, by omega, by go_num, SS⟩
              case measure => simp [intOf]; omega
            rcases Classical.em (kk = 6) with e6 | e6
            · have e := D3 (by omega)
              have ew : IntKind.i64.wrap (0 + nn) = ys := by rw [IntKind.wrap_i64]; unfold I64 at DI; omega
              have ew2 : IntKind.i64.wrap (nn) = ys := by rw [IntKind.wrap_i64]; unfold I64 at DI; omega
              subst e6
              clear D3 D4 D5 D6 e DI e8
              go_wp2
              go_roundw
              case rel => exact ⟨q + 1, by omega, by go_num, SS⟩
              case measure => simp [intOf]; omega
            rcases Classical.em (kk = 4) with e4 | e4
            · obtain ⟨e, eg⟩ := D4 e4
              have ew : IntKind.i64.wrap (0 - nn) = ys := by rw [IntKind.wrap_i64]; unfold I64 at DI; omega
              have ew2 : IntKind.i64.wrap (-nn) = ys := by rw [IntKind.wrap_i64]; unfold I64 at DI; omega
              subst e4
              subst eg
              clear D3 D4 D5 D6 e DI e8 e1 e6
              go_wp2
              go_roundw
              case rel => exact ⟨q + 1, by omega, by go_num, SS⟩
              case measure => simp [intOf]; omega
            rcases Classical.em (kk = 3) with e3 | e3
            · have e := D5 (by omega)
              subst e
              subst e3
              clear D3 D4 D5 D6 DI e8 e1 e6 e4
              go_wp2
              go_roundw
              case rel => exact ⟨q + 1, by omega, by go_num, SS⟩
              case measure => simp [intOf]; omega
            rcases Classical.em (kk = 7) with e7 | e7
            · have e := D5 (by omega)
              subst e
              subst e7
              clear D3 D4 D5 D6 DI e8 e1 e6 e4
              go_wp2
              go_roundw
              case rel => exact ⟨q + 1, by omega, by go_num, SS⟩
              case measure => simp [intOf]; omega
            have e := D6 e1 e6 e4 e3 e7
            subst e
            have x1 : (kk == 1) = false := by simpa using e1
            have x6 : (kk == 6) = false := by simpa using e6
            have x4 : (kk == 4) = false := by simpa using e4
            have x3 : (kk == 3) = false := by simpa using e3
            have x7 : (kk == 7) = false := by simpa using e7
            have x8 : (kk == 8) = false := by simpa using e8
            have x9 : (kk != 8) = true := by simpa using e8
            clear D3 D4 D5 D6 DI e8 e1 e6 e4 e3 e7
            go_wp2
            go_roundw
            case rel => exact ⟨q + 1, by omega, by go_num, SS⟩
            case measure => simp [intOf]; omega
        case inr =>
          have hlv := SV.hl
          obtain ⟨bp, op, hpa⟩ := hlv.some (k := 16 * i) (by rw [kpCells_length]; omega)
          rw [hpa] at hlv b1'
          have t9 : V.cell? ⟨bp, op + i * 16 + 9, none⟩ = some (.int .i64 l[i].k.sh) := kp_cell ⟨hlv, List.getElem?_eq_getElem hil⟩ 9 rfl
          rw [hw] at t9
          have hin : i < n := by rw [← HY.out.1]; exact hil
          have hnm' := HY.out.2.2.2
          rw [HY.out.1] at hnm'
          unfold maxLen at hnm'
          clear SV hw hlv hil hpa
          rcases hD0 : decide (r.h = Y.k.h) with _ | _
          case false =>
            simp only [hD0] at hE
            have e := D1 (Or.inl (by simpa using hD0))
            subst e
            clear D1 D2 hD0
            go_wp2
            go_roundw
            case rel => exact ⟨q + 1, by omega, by go_num, SS⟩
            case measure => simp [intOf]; omega
          case true =>
            simp only [hD0] at hE
            have hD1 : r.h = Y.k.h := by simpa using hD0
            clear hD0
            rcases Classical.em (kk = 8) with e8 | e8
            · have e := D1 (Or.inr e8)
              subst e
              subst e8
              clear D1 D2 hD1
              go_wp2
              go_roundw
              case rel => exact ⟨q + 1, by omega, by go_num, SS⟩
              case measure => simp [intOf]; omega
            obtain ⟨D3, D4, D5, D6⟩ := D2 hD1 e8
            clear D1 D2 hD1
            rcases Classical.em (kk = 1) with e1 | e1
            · have e := D3 (by omega)
              have ew : IntKind.i64.wrap (was + nn) = ys := by rw [IntKind.wrap_i64]; unfold I64 at DI; omega
              subst e1
              clear D3 D4 D5 D6 e DI e8
              go_wp2
              go_roundw
              case rel => exact ⟨q + 1, by omega, by go_num, SS⟩
              case measure => simp [intOf]; omega
            rcases Classical.em (kk = 6) with e6 | e6
            · have e := D3 (by omega)
              have ew : IntKind.i64.wrap (was + nn) = ys := by rw [IntKind.wrap_i64]; unfold I64 at DI; omega
              subst e6
              clear D3 D4 D5 D6 e DI e8
              go_wp2
              go_roundw
              case rel => exact ⟨q + 1, by omega, by go_num, SS⟩
              case measure => simp [intOf]; omega
            rcases Classical.em (kk = 4) with e4 | e4
            · obtain ⟨e, eg⟩ := D4 e4
              have ew : IntKind.i64.wrap (was - nn) = ys := by rw [IntKind.wrap_i64]; unfold I64 at DI; omega
              subst e4
              subst eg
              clear D3 D4 D5 D6 e DI e8 e1 e6
              go_wp2
              go_roundw
              case rel => exact ⟨q + 1, by omega, by go_num, SS⟩
              case measure => simp [intOf]; omega
            rcases Classical.em (kk = 3) with e3 | e3
            · have e := D5 (by omega)
              subst e
              subst e3
              clear D3 D4 D5 D6 DI e8 e1 e6 e4
              go_wp2
              go_roundw
              case rel => exact ⟨q + 1, by omega, by go_num, SS⟩
              case measure => simp [intOf]; omega
            rcases Classical.em (kk = 7) with e7 | e7
            · have e := D5 (by omega)
              subst e
              subst e7
              clear D3 D4 D5 D6 DI e8 e1 e6 e4
              go_wp2
              go_roundw
              case rel => exact ⟨q + 1, by omega, by go_num, SS⟩
              case measure => simp [intOf]; omega
            have e := D6 e1 e6 e4 e3 e7
            subst e
            have x1 : (kk == 1) = false := by simpa using e1
            have x6 : (kk == 6) = false := by simpa using e6
            have x4 : (kk == 4) = false := by simpa using e4
            have x3 : (kk == 3) = false := by simpa using e3
            have x7 : (kk == 7) = false := by simpa using e7
            have x8 : (kk == 8) = false := by simpa using e8
            have x9 : (kk != 8) = true := by simpa using e8
            clear D3 D4 D5 D6 DI e8 e1 e6 e4 e3 e7
            go_wp2
            go_roundw
            case rel => exact ⟨q + 1, by omega, by go_num, SS⟩
            case measure => simp [intOf]; omega
      · clear HS
        have hBr := HN.out.hB
        clear HN
        go_wp2
        go_ret
        exact ⟨rfl, hBr⟩

end Go.Proofs.YtpmgmddicbpgjaaDoor

/-
  What came in, opened: byte slices and slices of byte slices, whatever their readings are. Nothing of any program.
-/
namespace Go.Proofs.YtpmgmddicbpgjaaDoor
open Go.ChangeShapes Go.WideShapes Go.ChangeAt Go.RowKit
set_option linter.unusedVariables false
set_option linter.unusedSimpArgs false

section
variable {H : Type} {enc : TypeId × Value → H} {P : Program} {w : World} {held : Bool}

theorem u8_of_wf {n : Int} (h : (Lit.int .u8 n).wf = true) : 0 ≤ n ∧ n < 256 := by
  have : 0 ≤ n ∧ n ≤ 255 := by simpa [Lit.wf, IntKind.min, IntKind.max, IntKind.signed, IntKind.bits] using h
  omega

/-- an address of cells has no spot of its own -/
theorem lies_addr {a : Addr} {k : Nat} {u u0 : Value} (h0 : w.cell? (a.add 0) = some u0) (hk : w.cell? (a.add k) = some u) : ∃ b off, some a = some (⟨b, off, none⟩ : Addr) ∧ w.cell? ⟨b, off + k, none⟩ = some u := by
  obtain ⟨b, off, spot⟩ := a
  have hspot : spot = none := by simpa [Addr.add] using World.cell?_spot h0
  subst hspot
  exact ⟨b, off, rfl, by simpa [Addr.add_lit] using hk⟩

theorem open_bytes {t e : TypeId} {fuel : Nat} {v : Value} {x : DataW H × List MemPlace} (ht : P.underlying t = some (.slice e)) (he : P.underlying e = some (.int .u8)) (hc : P.cellsOf e = 1)
    (h : DataW.trod enc P w 0 (fun _ => true) held fuel t [v] = some x) : ∃ a cap l, v = .slice a l.length cap ∧ Lies w a (bs l) ∧ l.length ≤ maxLen := by
  rcases open_ints ht he hc h with ⟨hcs, _⟩ | ⟨a, len, cap, zs, hcs, _, hl, hm, hz, _, hcell, hwz⟩
  · simp at hcs
    subst hcs
    exact ⟨none, 0, [], rfl, Lies.nil _ _, by simp⟩
  · simp at hcs hz
    subst hcs
    refine ⟨some a, cap, (zs.take len).map fun z => UInt8.ofNat z.toNat, ?_, ?_, ?_⟩
    · simp; omega
    · intro k u hu
      have hk : k < len := by
        obtain ⟨hk, _⟩ := List.getElem?_eq_some_iff.1 hu
        simp [bs] at hk
        omega
      have hkz : k < zs.length := by omega
      have hcl := hcell k hkz
      have hwf := u8_of_wf (hwz zs[k] (by simp))
      have hu' : u = .int .u8 (zs[k]) := by
        simp [bs, hk, hkz] at hu
        rw [← hu]
        congr 1
        omega
      subst hu'
      have e2 : zs.getD k 0 = zs[k] := by simp [List.getD, hkz]
      rw [e2] at hcl
      exact lies_addr (hcell 0 (by omega)) hcl
    · simp; omega

theorem open_blocks {t e e8 : TypeId} {fuel : Nat} {v : Value} {d : DataW H} {ps : List MemPlace} (ht : P.underlying t = some (.slice e)) (hte : P.underlying e = some (.slice e8)) (he : P.underlying e8 = some (.int .u8)) (hc : P.cellsOf e = 1) (hc8 : P.cellsOf e8 = 1)
    (h : DataW.trod enc P w 0 (fun _ => true) held fuel t [v] = some (d, ps)) :
    ∃ a cap bl, v = .slice a bl.length cap ∧ Lies w a (bl.map Blk.val) ∧ AllIn w bl ∧ bl.length ≤ maxLen ∧ ((d = .nil ∧ bl = []) ∨ ∃ elems sp, d = .slice elems sp ∧ elems.length = bl.length) := by
  rcases Go.Deep.open_slice1 ht hc h with ⟨hcs, hx⟩ | ⟨a, len, cap, m, n, V, D, Pl, hcs, _, hl, hm, hmm, hx, hcell⟩
  · simp at hcs hx
    subst hcs
    exact ⟨none, 0, [], rfl, Lies.nil _ _, (fun b hb => by simp at hb), by simp, .inl ⟨hx.1, rfl⟩⟩
  · simp at hcs hx hmm
    subst hcs hmm
    have hb : ∀ i, i < m → ∃ b : Blk, V i = b.val ∧ Lies w b.a (bs b.l) ∧ b.l.length ≤ maxLen := fun i hi => by
      obtain ⟨a', cap', l, e1, e2, e3⟩ := open_bytes hte he hc8 (hcell i hi).2
      exact ⟨⟨a', cap', l⟩, e1, e2, e3⟩
    have : Inhabited Blk := ⟨⟨none, 0, []⟩⟩
    obtain ⟨B, hB⟩ := Go.Deep.choose_lt hb
    refine ⟨some a, m, (List.range len).map B, by simp, ?_, ?_, by simp; omega, .inr ⟨_, _, hx.1, by simp⟩⟩
    · intro k u hu
      have hk : k < len := by
        obtain ⟨hk, _⟩ := List.getElem?_eq_some_iff.1 hu
        simpa using hk
      have hu' : u = V k := by
        simp [hk] at hu
        rw [← hu, (hB k (by omega)).1]
      subst hu'
      exact lies_addr (hcell 0 (by omega)).1 (hcell k (by omega)).1
    · intro b hb
      obtain ⟨i, hi, rfl⟩ := List.mem_map.1 hb
      exact (hB i (by simp at hi; omega)).2
end
end Go.Proofs.YtpmgmddicbpgjaaDoor

/-
  What came in, opened, with what it has room for: byte slices, slices of byte slices, a struct of two ints, whatever their readings are. Nothing of any program.
-/
namespace Go.Proofs.YtpmgmddicbpgjaaDoor
open Go.ChangeShapes Go.WideShapes Go.ChangeAt Go.RowKit
set_option linter.unusedVariables false
set_option linter.unusedSimpArgs false

section
variable {H : Type} {enc : TypeId × Value → H} {P : Program} {w : World} {held : Bool}

/-- how many elements a reading has -/
def dlen : DataW H → Nat
  | .slice el _ => el.length
  | _ => 0

theorem i64_of_wf {n : Int} (h : (Lit.int .i64 n).wf = true) : I64 n := by
  have : -9223372036854775808 ≤ n ∧ n ≤ 9223372036854775807 := by simpa [Lit.wf, IntKind.min, IntKind.max, IntKind.signed, IntKind.bits] using h
  exact this

theorem open_bytes2 {t e : TypeId} {fuel : Nat} {v : Value} {x : DataW H × List MemPlace} (ht : P.underlying t = some (.slice e)) (he : P.underlying e = some (.int .u8)) (hc : P.cellsOf e = 1)
    (h : DataW.trod enc P w 0 (fun _ => true) held fuel t [v] = some x) : ∃ a cap l, v = .slice a l.length cap ∧ Lies w a (bs l) ∧ l.length ≤ maxLen ∧ l.length ≤ cap ∧ dlen x.1 = l.length := by
  rcases open_ints ht he hc h with ⟨hcs, rfl⟩ | ⟨a, len, cap, zs, hcs, _, hl, hm, hz, rfl, hcell, hwz⟩
  · simp at hcs
    subst hcs
    exact ⟨none, 0, [], rfl, Lies.nil _ _, by simp, by simp, rfl⟩
  · simp at hcs hz
    subst hcs
    refine ⟨some a, cap, (zs.take len).map fun z => UInt8.ofNat z.toNat, ?_, ?_, ?_, ?_, ?_⟩
    · simp; omega
    · intro k u hu
      have hk : k < len := by
        obtain ⟨hk, _⟩ := List.getElem?_eq_some_iff.1 hu
        simp [bs] at hk
        omega
      have hkz : k < zs.length := by omega
      have hcl := hcell k hkz
      have hwf := u8_of_wf (hwz zs[k] (by simp))
      have hu' : u = .int .u8 (zs[k]) := by
        simp [bs, hk, hkz] at hu
        rw [← hu]
        congr 1
        omega
      subst hu'
      have e2 : zs.getD k 0 = zs[k] := by simp [List.getD, hkz]
      rw [e2] at hcl
      exact lies_addr (hcell 0 (by omega)) hcl
    · simp; omega
    · simp; omega
    · simp [dlen, lits]

theorem open_blocks2 {t e e8 : TypeId} {fuel : Nat} {v : Value} {d : DataW H} {ps : List MemPlace} (ht : P.underlying t = some (.slice e)) (hte : P.underlying e = some (.slice e8)) (he : P.underlying e8 = some (.int .u8)) (hc : P.cellsOf e = 1) (hc8 : P.cellsOf e8 = 1)
    (h : DataW.trod enc P w 0 (fun _ => true) held fuel t [v] = some (d, ps)) :
    ∃ a cap bl, v = .slice a bl.length cap ∧ Lies w a (bl.map Blk.val) ∧ AllIn w bl ∧ bl.length ≤ maxLen ∧ Caps bl ∧ ((d = .nil ∧ bl = []) ∨ ∃ elems sp, d = .slice elems sp ∧ elems.map dlen = bl.map fun b => b.l.length) := by
  rcases Go.Deep.open_slice1 ht hc h with ⟨hcs, hx⟩ | ⟨a, len, cap, m, n, V, D, Pl, hcs, _, hl, hm, hmm, hx, hcell⟩
  · simp at hcs hx
    subst hcs
    exact ⟨none, 0, [], rfl, Lies.nil _ _, (fun b hb => by simp at hb), by simp, (fun b hb => by simp at hb), .inl ⟨hx.1, rfl⟩⟩
  · simp at hcs hx hmm
    subst hcs hmm
    have hb : ∀ i, i < m → ∃ b : Blk, V i = b.val ∧ Lies w b.a (bs b.l) ∧ b.l.length ≤ maxLen ∧ b.l.length ≤ b.cap ∧ dlen (D i) = b.l.length := fun i hi => by
      obtain ⟨a', cap', l, e1, e2, e3, e4, e5⟩ := open_bytes2 hte he hc8 (hcell i hi).2
      exact ⟨⟨a', cap', l⟩, e1, e2, e3, e4, e5⟩
    have : Inhabited Blk := ⟨⟨none, 0, []⟩⟩
    obtain ⟨B, hB⟩ := Go.Deep.choose_lt hb
    refine ⟨some a, m, (List.range len).map B, by simp, ?_, ?_, by simp; omega, ?_, .inr ⟨_, _, hx.1, ?_⟩⟩
    · intro k u hu
      have hk : k < len := by
        obtain ⟨hk, _⟩ := List.getElem?_eq_some_iff.1 hu
        simpa using hk
      have hu' : u = V k := by
        simp [hk] at hu
        rw [← hu, (hB k (by omega)).1]
      subst hu'
      exact lies_addr (hcell 0 (by omega)).1 (hcell k (by omega)).1
    · intro b hb
      obtain ⟨i, hi, rfl⟩ := List.mem_map.1 hb
      have := hB i (by simp at hi; omega)
      exact ⟨this.2.1, this.2.2.1⟩
    · intro b hb
      obtain ⟨i, hi, rfl⟩ := List.mem_map.1 hb
      exact (hB i (by simp at hi; omega)).2.2.2.1
    · rw [List.map_map, List.map_map]
      apply List.map_congr_left
      intro i hi
      exact (hB i (by simp at hi; omega)).2.2.2.2

theorem open_plan {r : Reach} {b0 : Nat} {t : TypeId} {f0 f1 : Field} {v : Value} {d : DataW H} {p : List MemPlace} (hs : P.underlying t = some (.struct #[f0, f1])) (hone : Go.Deep.oneCellFields P #[f0, f1] = true) (hC : P.cellsOf t = 2)
    (h0 : P.underlying f0.type = some (.int .i64)) (h1 : P.underlying f1.type = some (.int .i64))
    (hv : Value.okWide P w r b0 t v) (h : DataW.Trod enc P w 0 (fun _ => true) held t v d p) : ∃ B K : Int, v = .agg #[.int .i64 B, .int .i64 K] ∧ I64 B ∧ I64 K := by
  obtain ⟨c0, c1, y0, y1, m, rfl, rfl, rfl, hy0, hy1⟩ := Go.Joins.open_agg2 hs hone hC hv h
  obtain ⟨a, e0, rfl, wa⟩ := DataW.trod_int h0 hy0
  obtain ⟨b, e1, rfl, wb⟩ := DataW.trod_int h1 hy1
  simp at e0 e1
  subst e0 e1
  exact ⟨a, b, rfl, i64_of_wf wa, i64_of_wf wb⟩
end
end Go.Proofs.YtpmgmddicbpgjaaDoor

/-
  A symbol that came in, opened: an int and a byte slice. Nothing of any program.
-/
namespace Go.Proofs.YtpmgmddicbpgjaaDoor
open Go.ChangeShapes Go.WideShapes Go.ChangeAt Go.RowKit
set_option linter.unusedVariables false

section
variable {H : Type} {enc : TypeId × Value → H} {P : Program} {w : World} {held : Bool}

theorem open_symbol {r : Reach} {b0 : Nat} {t e8 : TypeId} {f0 f1 : Field} {v : Value} {d : DataW H} {p : List MemPlace} (hs : P.underlying t = some (.struct #[f0, f1])) (hone : Go.Deep.oneCellFields P #[f0, f1] = true) (hC : P.cellsOf t = 2)
    (h0 : P.underlying f0.type = some (.int .i64)) (h1 : P.underlying f1.type = some (.slice e8)) (he : P.underlying e8 = some (.int .u8)) (hc8 : P.cellsOf e8 = 1)
    (hv : Value.okWide P w r b0 t v) (h : DataW.Trod enc P w 0 (fun _ => true) held t v d p) : ∃ (id : Int) (a : Option Addr) (cap : Nat) (l : List UInt8), v = .agg #[.int .i64 id, .slice a l.length cap] ∧ I64 id ∧ Lies w a (bs l) ∧ l.length ≤ maxLen ∧ l.length ≤ cap := by
  obtain ⟨c0, c1, y0, y1, m, rfl, rfl, rfl, hy0, hy1⟩ := Go.Joins.open_agg2 hs hone hC hv h
  obtain ⟨a, e0, rfl, wa⟩ := DataW.trod_int h0 hy0
  obtain ⟨a', cap, l, rfl, h2, h3, h4, _⟩ := open_bytes2 h1 he hc8 hy1
  simp at e0
  subst e0
  exact ⟨a, a', cap, l, rfl, i64_of_wf wa, h2, h3, h4⟩
end
end Go.Proofs.YtpmgmddicbpgjaaDoor

/-
  A record that came in, opened.
-/
namespace Go.Proofs.YtpmgmddicbpgjaaDoor
open Go.ChangeShapes Go.WideShapes Go.ChangeAt Go.RowKit
set_option linter.unusedVariables false
set_option linter.unusedSimpArgs false

theorem array13 {α : Type} {cs : Array α} (h : cs.size = 13) : ∃ c0 c1 c2 c3 c4 c5 c6 c7 c8 c9 c10 c11 c12, cs = #[c0, c1, c2, c3, c4, c5, c6, c7, c8, c9, c10, c11, c12] := by
  obtain ⟨l⟩ := cs
  match l, h with
  | [c0, c1, c2, c3, c4, c5, c6, c7, c8, c9, c10, c11, c12], _ => exact ⟨c0, c1, c2, c3, c4, c5, c6, c7, c8, c9, c10, c11, c12, rfl⟩

theorem cInt1 : Tryd.prog.cellsOf 3 = 1 := by kernel_rfl
theorem cBlk1 : Tryd.prog.cellsOf 36 = 1 := by kernel_rfl
theorem cByt1 : Tryd.prog.cellsOf 35 = 1 := by kernel_rfl
theorem cU81 : Tryd.prog.cellsOf 5 = 1 := by kernel_rfl
theorem cPlan2 : Tryd.prog.cellsOf 32 = 2 := by kernel_rfl
theorem cSym2 : Tryd.prog.cellsOf 38 = 2 := by kernel_rfl
theorem cHead6 : Tryd.prog.cellsOf 34 = 6 := by kernel_rfl
theorem cRec13 : Tryd.prog.cellsOf 40 = 13 := by kernel_rfl

section
variable {H : Type} {enc : TypeId × Value → H} {w : World} {held : Bool}

theorem one_int {n : Nat} {c : Value} {y : DataW H × List MemPlace} (h : DataW.trod enc Tryd.prog w 0 (fun _ => true) held n 3 [c] = some y) : ∃ a : Int, c = .int .i64 a ∧ I64 a := by
  obtain ⟨a, e, _, wa⟩ := DataW.trod_int Tryd.underlying3 h
  simp at e
  exact ⟨a, e, i64_of_wf wa⟩

set_option maxRecDepth 8000 in
theorem open_rec {r : Reach} {b0 : Nat} {v : Value} {d : DataW H} {p : List MemPlace} (hv : Value.okWide Tryd.prog w r b0 40 v) (h : DataW.Trod enc Tryd.prog w 0 (fun _ => true) held 40 v d p) :
    ∃ (x : Rc) (da : Option Addr) (dc : Nat) (ca : Option Addr) (cc : Nat), v = rcV x da dc ca cc ∧ x.ints ∧ Lies w da (bs x.d) ∧ Lies w ca (bs x.c) ∧ x.d.length ≤ maxLen ∧ x.c.length ≤ maxLen := by
  obtain ⟨cs, rfl, hsz⟩ := okWide_struct Tryd.underlying40 hv
  obtain ⟨c0, c1, c2, c3, c4, c5, c6, c7, c8, c9, c10, c11, c12, rfl⟩ := array13 (hsz.trans cRec13)
  obtain ⟨fuel, hf⟩ := h
  obtain ⟨xs, n, _, _, _, hlen, hg⟩ := DataW.trod_struct Tryd.underlying40 hf
  match xs, hlen with
  | [y0, y1, y2, y3, y4, y5, y6], _ =>
    have g0 := hg 0 _ rfl
    have g1 := hg 1 _ rfl
    have g2 := hg 2 _ rfl
    have g3 := hg 3 _ rfl
    have g4 := hg 4 _ rfl
    have g5 := hg 5 _ rfl
    have g6 := hg 6 _ rfl
    simp [Value.cells, cInt1, cHead6, cSym2, cByt1] at g0 g1 g2 g3 g4 g5 g6
    obtain ⟨k, rfl, ik⟩ := one_int g0
    obtain ⟨pl, rfl, ip⟩ := one_int g1
    obtain ⟨nn, rfl, inn⟩ := one_int g2
    obtain ⟨ty, rfl, iy⟩ := one_int g3
    obtain ⟨hs, n4, _, _, _, hl4, hg4⟩ := DataW.trod_struct Tryd.underlying34 g4
    match hs, hl4 with
    | [z0, z1, z2, z3, z4], _ =>
      have e0 := hg4 0 _ rfl
      have e1 := hg4 1 _ rfl
      have e2 := hg4 2 _ rfl
      have e3 := hg4 3 _ rfl
      have e4 := hg4 4 _ rfl
      simp [cInt1, cPlan2] at e0 e1 e2 e3 e4
      obtain ⟨F, rfl, iF⟩ := one_int e0
      obtain ⟨Q, rfl, iQ⟩ := one_int e1
      obtain ⟨T, rfl, iT⟩ := one_int e2
      obtain ⟨L, rfl, iL⟩ := one_int e3
      obtain ⟨ps, n5, _, _, _, hl5, hg5⟩ := DataW.trod_struct Tryd.underlying32 e4
      match ps, hl5 with
      | [u0, u1], _ =>
        have a0 := hg5 0 _ rfl
        have a1 := hg5 1 _ rfl
        simp [cInt1] at a0 a1
        obtain ⟨B, rfl, iB⟩ := one_int a0
        obtain ⟨K, rfl, iK⟩ := one_int a1
        obtain ⟨ss, n6, _, _, _, hl6, hg6⟩ := DataW.trod_struct Tryd.underlying38 g5
        match ss, hl6 with
        | [s0, s1], _ =>
          have b0 := hg6 0 _ rfl
          have b1 := hg6 1 _ rfl
          simp [cInt1, cBlk1] at b0 b1
          obtain ⟨id, rfl, iid⟩ := one_int b0
          obtain ⟨da, dc, dl, rfl, h1, h2, _, _⟩ := open_bytes2 Tryd.underlying36 Tryd.underlying5 cU81 b1
          obtain ⟨ca, cc, cl, rfl, h3, h4, _, _⟩ := open_bytes2 Tryd.underlying35 Tryd.underlying5 cU81 g6
          exact ⟨⟨k, pl, nn, ty, ⟨F, Q, T, L, B, K⟩, id, dl, cl⟩, da, dc, ca, cc, rfl, ⟨ik, ip, inn, iy, ⟨iF, iQ, iT, iL, iB, iK⟩, iid⟩, h1, h3, h2, h4⟩
end
end Go.Proofs.YtpmgmddicbpgjaaDoor

/-
  Slices of ints and of symbols that came in, opened, with what they have room for. Nothing of any program.
-/
namespace Go.Proofs.YtpmgmddicbpgjaaDoor
open Go.ChangeShapes Go.WideShapes Go.ChangeAt Go.RowKit
set_option linter.unusedVariables false
set_option linter.unusedSimpArgs false

section
variable {H : Type} {enc : TypeId × Value → H} {P : Program} {w : World} {held : Bool}

theorem open_ints2 {t e : TypeId} {fuel : Nat} {v : Value} {x : DataW H × List MemPlace} (ht : P.underlying t = some (.slice e)) (he : P.underlying e = some (.int .i64)) (hc : P.cellsOf e = 1)
    (h : DataW.trod enc P w 0 (fun _ => true) held fuel t [v] = some x) : ∃ (a : Option Addr) (cap : Nat) (l : List Int), v = .slice a l.length cap ∧ Lies w a (l.map (Value.int .i64)) ∧ (∀ y ∈ l, I64 y) ∧ l.length ≤ cap ∧ cap ≤ maxLen := by
  rcases open_ints ht he hc h with ⟨hcs, _⟩ | ⟨a, len, cap, zs, hcs, _, hl, hm, hz, _, hcell, hwz⟩
  · simp at hcs
    subst hcs
    exact ⟨none, 0, [], rfl, Lies.nil _ _, (fun y hy => by cases hy), by simp, by simp [maxLen]⟩
  · simp at hcs hz
    subst hcs
    refine ⟨some a, cap, zs.take len, by simp; omega, ?_, fun y hy => i64_of_wf (hwz y (List.mem_of_mem_take hy)), by simp; omega, hm⟩
    intro k u hu
    have hk : k < len := by
      obtain ⟨hk, _⟩ := List.getElem?_eq_some_iff.1 hu
      simp at hk
      omega
    have hkz : k < zs.length := by omega
    have hcl := hcell k hkz
    have hu' : u = .int .i64 (zs[k]) := by
      simp [hk, hkz] at hu
      exact hu.symm
    subst hu'
    have e2 : zs.getD k 0 = zs[k] := by simp [List.getD, hkz]
    rw [e2] at hcl
    exact lies_addr (hcell 0 (by omega)) hcl

theorem cells_two' {base : Nat} {a : Addr} {cs : List Value} (h : w.cells? base a 2 = some cs) : ∃ c0 c1, cs = [c0, c1] ∧ w.cell? (a.add 0) = some c0 ∧ w.cell? (a.add 1) = some c1 := by
  obtain ⟨_, hlen, hc⟩ := World.cells?_some h
  match cs, hlen, hc with
  | [c0, c1], _, hc => exact ⟨c0, c1, rfl, hc 0 (by omega), hc 1 (by omega)⟩

theorem open_symbols {t e e8 : TypeId} {f0 f1 : Field} {fuel : Nat} {v : Value} {x : DataW H × List MemPlace} (ht : P.underlying t = some (.slice e)) (hC : P.cellsOf e = 2) (hs : P.underlying e = some (.struct #[f0, f1])) (hone : Go.Deep.oneCellFields P #[f0, f1] = true)
    (h0 : P.underlying f0.type = some (.int .i64)) (h1 : P.underlying f1.type = some (.slice e8)) (he : P.underlying e8 = some (.int .u8)) (hc8 : P.cellsOf e8 = 1)
    (h : DataW.trod enc P w 0 (fun _ => true) held fuel t [v] = some x) : ∃ (a : Option Addr) (cap : Nat) (l : List MSym), v = .slice a l.length cap ∧ Lies w a (symCells l) ∧ (∀ y ∈ l, SymIn w y) ∧ l.length ≤ maxLen := by
  rcases Go.Deep.open_slice ht h with ⟨hcs, hx⟩ | ⟨a, len, cap, m, n, D, Pl, hcs, _, hl, hm, hmm, hx, hcell⟩
  · simp at hcs
    subst hcs
    exact ⟨none, 0, [], rfl, Lies.nil _ _, (fun r hr => by cases hr), by simp⟩
  · simp at hcs hmm
    subst hcs hmm
    rw [hC] at hcell
    have hb' : ∀ i, i < m → ∃ y : MSym, w.cell? ((a.add (i * 2)).add 0) = some (.int .i64 y.id) ∧ w.cell? ((a.add (i * 2)).add 1) = some y.dv ∧ SymIn w y := fun i hi => by
      obtain ⟨cs', e1, e2⟩ := hcell i hi
      obtain ⟨c0, c1, rfl, k0, k1⟩ := cells_two' e1
      obtain ⟨y0, y1, n', _, _, q0, q1⟩ := trod_struct2 hs e2
      obtain ⟨o0, u0⟩ := Go.Deep.hone_of hone 0 f0 rfl
      obtain ⟨o1, u1⟩ := Go.Deep.hone_of hone 1 f1 rfl
      rw [o0, u0] at q0
      rw [o1, u1] at q1
      obtain ⟨id, e3, _, _⟩ := DataW.trod_int h0 q0
      obtain ⟨b, cb, d, g1, g2, g3, g4, _⟩ := open_bytes2 h1 he hc8 (v := c1) (by simpa using q1)
      simp at e3
      subst e3 g1
      exact ⟨⟨id, b, cb, d⟩, k0, k1, g2, g3⟩
    have : Inhabited MSym := ⟨⟨0, none, 0, []⟩⟩
    obtain ⟨B, hB⟩ := Go.Deep.choose_lt hb'
    refine ⟨some a, m, (List.range len).map B, by simp, ?_, ?_, by simp; omega⟩
    · intro k u hu
      have hk : k < 2 * len := by
        obtain ⟨hk, _⟩ := List.getElem?_eq_some_iff.1 hu
        rw [symCells_length] at hk
        simpa using hk
      obtain ⟨g0, g1⟩ := symCells_get (l := (List.range len).map B) (j := k / 2) (by simp; omega)
      simp only [List.getElem_map, List.getElem_range] at g0 g1
      obtain ⟨z0, _, _⟩ := hB 0 (by omega)
      obtain ⟨k0, k1, _⟩ := hB (k / 2) (by omega)
      rw [Go.Deep.add_add] at z0 k0 k1
      rcases Nat.mod_two_eq_zero_or_one k with e | e
      · rw [show 2 * (k / 2) = k by omega, hu] at g0
        rw [show k / 2 * 2 + 0 = k by omega, ← g0] at k0
        exact lies_addr (by simpa using z0) k0
      · rw [show 2 * (k / 2) + 1 = k by omega, hu] at g1
        rw [show k / 2 * 2 + 1 = k by omega, ← g1] at k1
        exact lies_addr (by simpa using z0) k1
    · intro r hr
      obtain ⟨i, hi, rfl⟩ := List.mem_map.1 hr
      exact (hB i (by simp at hi; omega)).2.2
end
end Go.Proofs.YtpmgmddicbpgjaaDoor
