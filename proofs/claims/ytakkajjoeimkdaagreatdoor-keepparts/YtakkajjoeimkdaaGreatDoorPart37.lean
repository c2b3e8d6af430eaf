import Derived.Test.YtakkajjoeimkdaaGreatDoorPart29
import Derived.Test.YtakkajjoeimkdaaGreatDoorPart36
import Derived.Test.YtakkajjoeimkdaaGreatDoorPart17
import Derived.Deep.RegionHeld3
import Derived.Test.YtakkajjoeimkdaaGreatDoorPart1
namespace Go.Proofs.YtakkajjoeimkdaaGreatDoor
open Go.RowKit
set_option linter.unusedVariables false
set_option linter.unusedSimpArgs false
attribute [local go_sem ↓] Go.wp_at_zero Go.wp_at_succ

def PlBox (w : World) (b : Nat) (Q : Pl) (L : List MKp) (p : Option Addr) (cp : Nat) : Prop := w.heap[b]? = some (.cells #[.int .i64 Q.me, .slice p Q.kp.length cp, .int .i64 Q.tm, .int .i64 Q.sq] 25 (0, 0)) ∧ PlNew 0 w Q.kp L p cp

theorem PlBox.below {w w' : World} {b : Nat} {Q : Pl} {L : List MKp} {p : Option Addr} {cp : Nat} (h : PlBox w b Q L p cp) (hb : Below w.heap.size w w') : PlBox w' b Q L p cp := ⟨blkB h.1 hb, h.2.below hb⟩

theorem PlBox.mk' {w w' : World} {B : Nat} {Q : Pl} {L : List MKp} {p : Option Addr} {cp : Nat} (h : PlNew B w Q.kp L p cp) (hw : w.alloc (.cells #[.int .i64 Q.me, .slice p Q.kp.length cp, .int .i64 Q.tm, .int .i64 Q.sq] 25) = w') : PlBox w' w.heap.size Q L p cp ∧ Below w.heap.size w w' := by
 have hb : Below w.heap.size w w' := by rw [← hw]; exact (Below.refl _ _).alloc (Nat.le_refl _) _
 exact ⟨⟨by rw [← hw, heap_alloc_eq, if_pos rfl], (h.low (Nat.zero_le _)).below hb⟩, hb⟩

theorem lies_blk {w : World} {b : Nat} {T : TypeId} {l : List Value} (h : w.heap[b]? = some (.cells l.toArray T (0, 0))) : Lies w (some ⟨b, 0, none⟩) l := by
 intro j u hj
 exact ⟨b, 0, rfl, by rw [Nat.zero_add]; exact cellB h j u (by simpa using hj)⟩

theorem hdBox6 {W : World} {g : Nat} {a0 a1 a2 a3 a4 a5 : Value} (h : W.heap[g]? = some (.cells #[a0, a1, a2, a3, a4, a5] 34 (0, 0))) : W.cell? ⟨g, 0, none⟩ = some a0 ∧ W.cell? ⟨g, 1, none⟩ = some a1 ∧ W.cell? ⟨g, 2, none⟩ = some a2 ∧ W.cell? ⟨g, 3, none⟩ = some a3 ∧ W.cell? ⟨g, 4, none⟩ = some a4 ∧ W.cell? ⟨g, 5, none⟩ = some a5 :=
 ⟨cellB h 0 _ rfl, cellB h 1 _ rfl, cellB h 2 _ rfl, cellB h 3 _ rfl, cellB h 4 _ rfl, cellB h 5 _ rfl⟩

theorem plH3_ok : PlOk plH3 := (next_zero held4.1).1
theorem plH4_ok : PlOk plH4 := (next_zero held6.1).1

theorem NextR.eq {w w' : World} {P Q : Pl} {r : Rc} {z : Int} {e : Ending} (h : NextR w P r e w') (h1 : P.nextCode r = z) (h2 : P.next r = Q) : RepR w Q z e w' := by
 unfold NextR at h
 rw [h1, h2] at h
 exact h

theorem boxNext {w u : World} {b : Nat} {Q : Pl} {L : List MKp} {p : Option Addr} {cp : Nat} (h : PlBox w b Q L p cp) (hOk : PlOk Q) (hu : Below w.heap.size w u) (r : Rc) (ca : Option Addr) (cc : Nat) (hi : r.ints) (hd : r.d = []) (hca : Lies u ca (bs r.c)) (hL : Laid u) :
  Calls Tryz.prog 12 #[.agg #[.int .i64 Q.me, .slice p Q.kp.length cp, .int .i64 Q.tm, .int .i64 Q.sq], rcV r none 0 ca cc] u (NextR u Q r) := by
 have g := (h.2.below hu).good hOk
 have := placeNext_any Q p cp L r none 0 ca cc u g.1 g.2.1 g.2.2.2.1 (by rw [g.2.2.1]; exact g.2.2.2.2.1) g.2.2.2.2.2 hi (by rw [hd]; exact Nat.zero_le _) (by rw [hd]; exact Lies.nil _ _) hca hL
 rw [g.2.2.1] at this
 exact this

set_option maxHeartbeats 8000000 in
set_option maxRecDepth 16000 in
theorem held_any (w : World) (hL : Laid w) :
  Calls Tryz.prog 10 #[] w fun e w' => e = .returned (.bool true) ∧ Below w.heap.size w w' := by
 have hH := lawHead_any w
 have HL := Shut.mk hL
 clear hL
 go_enter Tryz.func10, Tryz.ntmps10
 go_wp2_with fail
 refine hH.mono ?_
 rintro e W1 ⟨rfl, hb1⟩
 clear hH
 go_upto_region 3 with fail
 obtain ⟨W2, hW2⟩ : ∃ W2, (((W1.alloc (.cells #[.int .i64 1, .int .i64 0, .int .i64 2, .int .i64 50, .int .i64 2, .int .i64 1] 34)).alloc (.cells #[.int .u8 7] 5)).alloc (.cells #[.int .u8 8] 5)).alloc (.cells (recCells [⟨rcH1, some ⟨W1.heap.size + 1, 0, none⟩, 1, none, 0⟩, ⟨rcH2, some ⟨W1.heap.size + 1 + 1, 0, none⟩, 1, none, 0⟩, ⟨rcH3, none, 0, none, 0⟩]).toArray 40) = W2 := ⟨_, rfl⟩
 have hW2' := hW2
 simp only [recCells, MRec.cells, rcH1, rcH2, rcH3, hdH, List.flatMap_cons, List.flatMap_nil, List.append_nil, List.cons_append, List.nil_append, List.length_cons, List.length_nil, Nat.zero_add] at hW2'
 rw [hW2']
 have s1 : ((W1.alloc (.cells #[.int .i64 1, .int .i64 0, .int .i64 2, .int .i64 50, .int .i64 2, .int .i64 1] 34)).heap).size = W1.heap.size + 1 := by simp
 have hb2 : Below W1.heap.size W1 W2 := by rw [← hW2]; exact ((((Below.refl _ _).alloc (Nat.le_refl _) _).alloc (by simp) _).alloc (by simp; omega) _).alloc (by simp; omega) _
 have hh2 : W2.heap[W1.heap.size]? = some (.cells #[.int .i64 1, .int .i64 0, .int .i64 2, .int .i64 50, .int .i64 2, .int .i64 1] 34 (0, 0)) := by rw [← hW2, heap_alloc_eq, if_neg (by simp <;> omega), heap_alloc_eq, if_neg (by simp <;> omega), heap_alloc_eq, if_neg (by simp <;> omega), heap_alloc_eq, if_pos rfl]
 have h72 : W2.heap[W1.heap.size + 1]? = some (.cells #[.int .u8 7] 5 (0, 0)) := by rw [← hW2, heap_alloc_eq, if_neg (by simp <;> omega), heap_alloc_eq, if_neg (by simp <;> omega), heap_alloc_eq, if_pos (by simp)]
 have h82 : W2.heap[W1.heap.size + 1 + 1]? = some (.cells #[.int .u8 8] 5 (0, 0)) := by rw [← hW2, heap_alloc_eq, if_neg (by simp <;> omega), heap_alloc_eq, if_pos (by simp)]
 have hl2 : W2.heap[W1.heap.size + 1 + 1 + 1]? = some (.cells (recCells [⟨rcH1, some ⟨W1.heap.size + 1, 0, none⟩, 1, none, 0⟩, ⟨rcH2, some ⟨W1.heap.size + 1 + 1, 0, none⟩, 1, none, 0⟩, ⟨rcH3, none, 0, none, 0⟩]).toArray 40 (0, 0)) := by rw [← hW2, heap_alloc_eq, if_pos (by simp)]
 have hR := replay_any 2 (some ⟨W1.heap.size + 1 + 1 + 1, 0, none⟩) 3 [⟨rcH1, some ⟨W1.heap.size + 1, 0, none⟩, 1, none, 0⟩, ⟨rcH2, some ⟨W1.heap.size + 1 + 1, 0, none⟩, 1, none, 0⟩, ⟨rcH3, none, 0, none, 0⟩] W2 (lies_blk hl2) (by
  intro m hm
  simp only [List.mem_cons, List.not_mem_nil, or_false] at hm
  rcases hm with rfl | rfl | rfl
  ·exact ⟨⟨lies_blk (l := bs [7]) h72, Lies.nil _ _⟩, ⟨by show 1 ≤ maxLen; unfold maxLen; decide, by show 0 ≤ maxLen; exact Nat.zero_le _⟩, by unfold Rc.ints Hd.ok I64 rcH1 hdH; simp⟩
  ·exact ⟨⟨lies_blk (l := bs [8]) h82, Lies.nil _ _⟩, ⟨by show 1 ≤ maxLen; unfold maxLen; decide, by show 0 ≤ maxLen; exact Nat.zero_le _⟩, by unfold Rc.ints Hd.ok I64 rcH2 hdH; simp⟩
  ·exact ⟨⟨Lies.nil _ _, Lies.nil _ _⟩, ⟨by show 0 ≤ maxLen; exact Nat.zero_le _, by show 0 ≤ maxLen; exact Nat.zero_le _⟩, by unfold Rc.ints Hd.ok I64 rcH3 hdH; simp⟩) (by show 3 ≤ maxLen; unfold maxLen; decide) (Nat.le_refl 3) (HL.out.below (hb1.trans (hb2.mono hb1.size)))
 have hrp : replayP 2 [rcH1, rcH2, rcH3] = plH3 ∧ replayC 2 [rcH1, rcH2, rcH3] = 0 := by
  have h := held_repl
  refine ⟨?_, ?_⟩
  ·unfold replayP; rw [if_neg (by decide), if_neg (by decide), h]; rfl
  ·unfold replayC; rw [if_neg (by decide), if_neg (by decide), h]
 have hR' : Calls Tryz.prog 9 #[.int .i64 2, .slice (some ⟨W1.heap.size + 1 + 1 + 1, 0, none⟩) 3 3] W2 (RepR W2 plH3 0) := by
  have h := hR
  simp only [List.map_cons, List.map_nil] at h
  rw [hrp.1, hrp.2] at h
  exact h
 have hbw2 := hb1.trans (hb2.mono hb1.size)
 clear hR hrp hl2 h72 h82 hW2 hW2' s1 hb1 hb2
 go_wp2_with fail
 refine hR'.mono ?_
 rintro e W3 ⟨L3, p3, c3, rfl, H3⟩
 clear hR'
 have hbw3 := hbw2.trans (H3.out.2.mono hbw2.size)
 have hh3 := blkB hh2 H3.out.2
 go_upto_region 4 with fail
 obtain ⟨W4, hW4⟩ : ∃ W4, W3.alloc (.cells #[.int .i64 plH3.me, .slice p3 plH3.kp.length c3, .int .i64 plH3.tm, .int .i64 plH3.sq] 25) = W4 := ⟨_, rfl⟩
 rw [hW4]
 obtain ⟨hB3, hb4⟩ := PlBox.mk' H3.out.1 hW4
 have hh4 := blkB hh3 hb4
 have hbw4 := hbw3.trans (hb4.mono hbw3.size)
 generalize hx3 : W3.heap.size = x3 at hB3
 clear H3 hb4 hh3 hh2 hbw3 hbw2 hW4
 -- the delivery
 obtain ⟨U4, hU4⟩ : ∃ U4, W4.alloc (.cells #[.int .u8 7, .int .u8 8] 5) = U4 := ⟨_, rfl⟩
 have hu4 : Below W4.heap.size W4 U4 := by rw [← hU4]; exact (Below.refl _ _).alloc (Nat.le_refl _) _
 have hc4 : U4.heap[W4.heap.size]? = some (.cells #[.int .u8 7, .int .u8 8] 5 (0, 0)) := by rw [← hU4, heap_alloc_eq, if_pos rfl]
 have hN : Calls Tryz.prog 12 #[.agg #[.int .i64 plH3.me, .slice p3 plH3.kp.length c3, .int .i64 plH3.tm, .int .i64 plH3.sq], .agg #[.int .i64 3, .int .i64 0, .int .i64 0, .int .i64 0, .int .i64 1, .int .i64 0, .int .i64 2, .int .i64 50, .int .i64 2, .int .i64 1, .int .i64 0, .slice none 0 0, .slice (some ⟨W4.heap.size, 0, none⟩) 2 2]] U4 (RepR U4 plH4 0) := (boxNext hB3 plH3_ok hu4 (rcH4 8) (some ⟨W4.heap.size, 0, none⟩) 2 (by unfold Rc.ints Hd.ok I64 rcH4 hdH; simp) rfl (lies_blk (l := bs [7, 8]) hc4) (HL.out.below (hbw4.trans (hu4.mono hbw4.size)))).mono (fun e w' h => h.eq held4.1 held4.2)
 obtain ⟨b0, b1, b2, b3⟩ := plBox hB3.1
 obtain ⟨h0, h1, h2, h3, h4, h5⟩ := hdBox6 hh4
 have HU := Shut.mk (And.intro hu4 hU4)
 rw [← hU4] at hN
 clear hc4 hU4 hu4
 go_wp2_with fail
 refine hN.mono ?_
 rintro e W5 ⟨L5, p5, c5, rfl, H5⟩
 clear hN b0 b1 b2 b3 h0 h1 h2 h3 h4 h5
 go_upto_region 5 with fail
 obtain ⟨W6, hW6⟩ : ∃ W6, W5.alloc (.cells #[.int .i64 plH4.me, .slice p5 plH4.kp.length c5, .int .i64 plH4.tm, .int .i64 plH4.sq] 25) = W6 := ⟨_, rfl⟩
 rw [hW6]
 obtain ⟨hB5, hb6⟩ := PlBox.mk' H5.out.1 hW6
 have h46 : Below W4.heap.size W4 W6 := by
  have e1 := HU.out.1
  rw [← HU.out.2] at e1
  have e2 := e1.trans (H5.out.2.mono e1.size)
  exact e2.trans (hb6.mono e2.size)
 have hB3 := hB3.below h46
 have hh6 := blkB hh4 h46
 have hbw6 := hbw4.trans (h46.mono hbw4.size)
 generalize hx5 : W5.heap.size = x5 at hB5
 clear H5 hb6 h46 hh4 hbw4 hW6 HU
 -- another cargo is none
 obtain ⟨U6, hU6⟩ : ∃ U6, W6.alloc (.cells #[.int .u8 7, .int .u8 9] 5) = U6 := ⟨_, rfl⟩
 have hu6 : Below W6.heap.size W6 U6 := by rw [← hU6]; exact (Below.refl _ _).alloc (Nat.le_refl _) _
 have hc6 : U6.heap[W6.heap.size]? = some (.cells #[.int .u8 7, .int .u8 9] 5 (0, 0)) := by rw [← hU6, heap_alloc_eq, if_pos rfl]
 have hN : Calls Tryz.prog 12 #[.agg #[.int .i64 plH3.me, .slice p3 plH3.kp.length c3, .int .i64 plH3.tm, .int .i64 plH3.sq], .agg #[.int .i64 3, .int .i64 0, .int .i64 0, .int .i64 0, .int .i64 1, .int .i64 0, .int .i64 2, .int .i64 50, .int .i64 2, .int .i64 1, .int .i64 0, .slice none 0 0, .slice (some ⟨W6.heap.size, 0, none⟩) 2 2]] U6 (RepR U6 pl0 9) := (boxNext hB3 plH3_ok hu6 (rcH4 9) (some ⟨W6.heap.size, 0, none⟩) 2 (by unfold Rc.ints Hd.ok I64 rcH4 hdH; simp) rfl (lies_blk (l := bs [7, 9]) hc6) (HL.out.below (hbw6.trans (hu6.mono hbw6.size)))).mono (fun e w' h => h.eq held5 (next_bad (by rw [held5]; decide)))
 obtain ⟨b0, b1, b2, b3⟩ := plBox hB3.1
 obtain ⟨h0, h1, h2, h3, h4, h5⟩ := hdBox6 hh6
 have HU := Shut.mk (And.intro hu6 hU6)
 rw [← hU6] at hN
 clear hc6 hU6 hu6
 go_wp2_with fail
 refine hN.mono ?_
 rintro e W7 ⟨L7, p7, c7, rfl, H7⟩
 clear hN b0 b1 b2 b3 h0 h1 h2 h3 h4 h5
 go_upto_region 6 with fail
 obtain ⟨W8, hW8⟩ : ∃ W8, W7.alloc (.cells #[.int .i64 pl0.me, .slice p7 pl0.kp.length c7, .int .i64 pl0.tm, .int .i64 pl0.sq] 25) = W8 := ⟨_, rfl⟩
 rw [hW8]
 have hb8 : Below W7.heap.size W7 W8 := by rw [← hW8]; exact (Below.refl _ _).alloc (Nat.le_refl _) _
 have h68 : Below W6.heap.size W6 W8 := by
  have e1 := HU.out.1
  rw [← HU.out.2] at e1
  have e2 := e1.trans (H7.out.2.mono e1.size)
  exact e2.trans (hb8.mono e2.size)
 have hB3 := hB3.below h68
 have hB5 := hB5.below h68
 have hbw8 := hbw6.trans (h68.mono hbw6.size)
 clear H7 hb8 h68 hh6 hbw6 hW8 HU
 -- too late
 have hN : Calls Tryz.prog 12 #[.agg #[.int .i64 plH4.me, .slice p5 plH4.kp.length c5, .int .i64 plH4.tm, .int .i64 plH4.sq], .agg #[.int .i64 8, .int .i64 0, .int .i64 50, .int .i64 0, .int .i64 0, .int .i64 0, .int .i64 0, .int .i64 0, .int .i64 0, .int .i64 0, .int .i64 0, .slice none 0 0, .slice none 0 0]] W8 (RepR W8 plH6 0) := (boxNext hB5 plH4_ok (Below.refl _ _) rcH5 none 0 (by unfold Rc.ints Hd.ok I64 rcH5; simp) rfl (Lies.nil _ _) (HL.out.below hbw8)).mono (fun e w' h => h.eq held6.1 held6.2)
 obtain ⟨b0, b1, b2, b3⟩ := plBox hB5.1
 go_wp2_with fail
 refine hN.mono ?_
 rintro e W9 ⟨L9, p9, c9, rfl, H9⟩
 clear hN b0 b1 b2 b3
 go_upto_region 7 with fail
 obtain ⟨WA, hWA⟩ : ∃ WA, W9.alloc (.cells #[.int .i64 plH6.me, .slice p9 plH6.kp.length c9, .int .i64 plH6.tm, .int .i64 plH6.sq] 25) = WA := ⟨_, rfl⟩
 rw [hWA]
 obtain ⟨hB9, hbA⟩ := PlBox.mk' H9.out.1 hWA
 have h8A : Below W8.heap.size W8 WA := H9.out.2.trans (hbA.mono H9.out.2.size)
 have hB3 := hB3.below h8A
 have hB5 := hB5.below h8A
 have hbwA := hbw8.trans (h8A.mono hbw8.size)
 generalize hx9 : W9.heap.size = x9 at hB9
 clear H9 hbA h8A hbw8 hWA
 have hNw := placeNew_any 3 WA
 have hn3 : newCode 3 = 0 := by decide
 rw [hn3] at hNw
 go_wp2_with fail
 refine hNw.mono ?_
 rintro e WB ⟨m', rfl, HB⟩
 have hm3 : m' = 3 := HB.out.1 (by first | trivial | rfl)
 subst hm3
 have hbB := HB.out.2.2
 clear hNw HB
 go_upto_region 8 with fail
 obtain ⟨WC, hWC⟩ : ∃ WC, WB.alloc (.cells #[.int .i64 3, .slice none 0 0, .int .i64 0, .int .i64 0] 25) = WC := ⟨_, rfl⟩
 rw [hWC]
 have hbC : Below WB.heap.size WB WC := by rw [← hWC]; exact (Below.refl _ _).alloc (Nat.le_refl _) _
 have hkC : WC.heap[WB.heap.size]? = some (.cells #[.int .i64 3, .slice none 0 0, .int .i64 0, .int .i64 0] 25 (0, 0)) := by rw [← hWC, heap_alloc_eq, if_pos rfl]
 have hAC := hbB.trans (hbC.mono hbB.size)
 have hB3 := hB3.below hAC
 have hB5 := hB5.below hAC
 have hB9 := hB9.below hAC
 have hbwC := hbwA.trans (hAC.mono hbwA.size)
 clear hWC hbC hbB hAC hbwA
 have one : ∀ (Q : Pl) (k : Kp) (L : List MKp) (p : Option Addr) (c x : Nat), PlBox WC x Q L p c → Q.kp = [k] → ∃ g m, p = some ⟨g, 0, none⟩ ∧ L = [m] ∧ m.k = k ∧ 1 ≤ c := fun Q k L p c x h hk => by
  have h2 := h.2
  have hs := h2.says
  rw [hk] at hs
  obtain ⟨m, rfl, hm⟩ : ∃ m, L = [m] ∧ m.k = k := by
   cases L with
   | nil => cases hs
   | cons a t =>
    cases t with
    | nil => exact ⟨a, rfl, by simpa using hs⟩
    | cons b u => simp at hs
  rcases h2.own.2 with ⟨_, h0⟩ | ⟨g, cap, cur, h1, _, _, hc, _⟩
  ·rw [hk] at h0; cases h0
  ·simp only [Value.slice.injEq] at h1
   rw [hk] at hc
   exact ⟨g, m, h1.1, rfl, hm, by have := h1.2.2; simp at hc; omega⟩
 obtain ⟨g3, m3, rfl, rfl, hm3, hc3⟩ := one plH3 (kpH 4) L3 p3 c3 x3 hB3 rfl
 obtain ⟨g5, m5, rfl, rfl, hm5, hc5⟩ := one plH4 _ L5 p5 c5 x5 hB5 rfl
 have FC : ∀ u : World, Below WC.heap.size WC u → u.cell? ⟨x3, 0, none⟩ = some (.int .i64 2) ∧ u.cell? ⟨x3, 1, none⟩ = some (.slice (some ⟨g3, 0, none⟩) 1 c3) ∧ u.cell? ⟨x3, 2, none⟩ = some (.int .i64 0) ∧ u.cell? ⟨x3, 3, none⟩ = some (.int .i64 0) ∧ u.cell? ⟨x5, 1, none⟩ = some (.slice (some ⟨g5, 0, none⟩) 1 c5) ∧ u.cell? ⟨x9, 0, none⟩ = some (.int .i64 2) ∧ u.cell? ⟨x9, 1, none⟩ = some (.slice p9 0 c9) ∧ u.cell? ⟨x9, 2, none⟩ = some (.int .i64 50) ∧ u.cell? ⟨x9, 3, none⟩ = some (.int .i64 0) ∧ u.cell? ⟨WB.heap.size, 0, none⟩ = some (.int .i64 3) ∧ u.cell? ⟨g3, 9, none⟩ = some (.int .i64 4) ∧ u.cell? ⟨g5, 14, none⟩ = some (.bool true) ∧ u.cell? ⟨g5, 9, none⟩ = some (.int .i64 0) := fun u hu => by
  have b3 := plBox (hB3.below hu).1
  have b5 := plBox (hB5.below hu).1
  have b9 := plBox (hB9.below hu).1
  have bk := plBox (blkB hkC hu)
  have l3 := (own_some (hB3.below hu).2.own).1
  have l5 := (own_some (hB5.below hu).2.own).1
  refine ⟨b3.1, b3.2.1, b3.2.2.1, b3.2.2.2, b5.2.1, b9.1, b9.2.1, b9.2.2.1, b9.2.2.2, bk.1, ?_, ?_, ?_⟩
  ·have := kp_cell (k := 0) ⟨l3, rfl⟩ 9 rfl
   rw [hm3] at this
   have e : 0 + 0 * 16 + 9 = 9 := rfl
   rw [e] at this
   exact this
  ·have := kp_cell (k := 0) ⟨l5, rfl⟩ 14 rfl
   rw [hm5] at this
   have e : 0 + 0 * 16 + 14 = 14 := rfl
   rw [e] at this
   exact this
  ·have := kp_cell (k := 0) ⟨l5, rfl⟩ 9 rfl
   rw [hm5] at this
   have e : 0 + 0 * 16 + 9 = 9 := rfl
   rw [e] at this
   exact this
 have F1 : ∀ u : World, Below WC.heap.size WC u → Calls Tryz.prog 32 #[.agg #[.int .i64 2, .slice (some ⟨g3, 0, none⟩) 1 c3, .int .i64 0, .int .i64 0], .int .i64 1, .int .i64 0] u fun e w' => e = .returned (.int .i64 0) ∧ Below u.heap.size u w' := fun u hu =>
  (find_any 2 0 0 (some ⟨g3, 0, none⟩) c3 [m3] 1 0 u (own_some (hB3.below hu).2.own).1 (by show 1 ≤ maxLen; unfold maxLen; decide)).mono (fun e w' h => ⟨by rw [h.1]; simp only [List.map_cons, List.map_nil, hm3]; rfl, h.2⟩)
 have F2 : ∀ u : World, Below WC.heap.size WC u → Calls Tryz.prog 32 #[.agg #[.int .i64 2, .slice p9 0 c9, .int .i64 50, .int .i64 0], .int .i64 1, .int .i64 0] u fun e w' => e = .returned (.int .i64 (-1)) ∧ Below u.heap.size u w' := fun u hu =>
  (find_any 2 50 0 p9 c9 [] 1 0 u (Lies.nil _ _) (Nat.zero_le _)).mono (fun e w' h => ⟨h.1, h.2⟩)
 have HFC := Shut.mk FC
 have HF1 := Shut.mk F1
 have HF2 := Shut.mk F2
 have HBC := Shut.mk hbwC
 obtain ⟨z0, z1, z2, z3, z4, z5, z6, z7, z8, z9, z10, z11, z12⟩ := FC WC (Below.refl _ _)
 clear FC F1 F2 one hB3 hB5 hB9 hbwC hkC hm3 hm5
 go_wp2_with fail
 refine (HF1.out _ (Below.refl _ _)).mono ?_
 rintro e wj ⟨rfl, hbj⟩
 have hk1 : Below WC.heap.size WC wj := hbj
 clear hbj z0 z1 z2 z3 z4 z5 z6 z7 z8 z9 z10 z11 z12
 obtain ⟨z0, z1, z2, z3, z4, z5, z6, z7, z8, z9, z10, z11, z12⟩ := HFC.out _ hk1
 go_wp2_with fail
 refine (HF2.out _ hk1).mono ?_
 rintro e wi ⟨rfl, hbi⟩
 have hk2 := hk1.trans (hbi.mono hk1.size)
 have hF := HBC.out.trans (hk2.mono HBC.out.size)
 clear hbi z0 z1 z2 z3 z4 z5 z6 z7 z8 z9 z10 z11 z12
 go_wp2
 go_ret
 exact ⟨rfl, hF⟩

end Go.Proofs.YtakkajjoeimkdaaGreatDoor

namespace Go.Proofs.YtakkajjoeimkdaaGreatDoor
open Go.RowKit
set_option linter.unusedVariables false
set_option linter.unusedSimpArgs false

def atN (k n : Int) : Int := if k.tmod n < 0 then k.tmod n + n else k.tmod n

theorem atN_lt (k : Int) {n : Int} (h : 0 < n) : 0 ≤ atN k n ∧ atN k n < n := by
 unfold atN
 have h1 := Int.tmod_lt_of_pos k h
 have h2 := Int.lt_tmod_of_pos k h
 split <;> omega

theorem at_any (k n : Int) (w : World) (hk : -9223372036854775808 ≤ k ∧ k ≤ 9223372036854775807) (hn : 0 < n) (hn2 : n ≤ 9223372036854775807) :
  Calls Tryz.prog 11 #[.int .i64 k, .int .i64 n] w fun e w' => e = .returned (.int .i64 (atN k n)) ∧ w = w' := by
 obtain ⟨hk1, hk2⟩ := hk
 have h1 := Int.tmod_lt_of_pos k hn
 have h2 := Int.lt_tmod_of_pos k hn
 have hn0 : (n == 0) = false := by rw [beq_eq_false_iff_ne]; omega
 have HA : Hid (atN k n = if k.tmod n < 0 then k.tmod n + n else k.tmod n) := rfl
 go_enter Tryz.func11, Tryz.ntmps11
 go_wp2
 ·go_ret
  exact ⟨ret_int (by rw [HA.out, if_pos (by assumption)]), rfl⟩
 ·go_ret
  exact ⟨ret_int (by rw [HA.out, if_neg (by omega)]), rfl⟩

end Go.Proofs.YtakkajjoeimkdaaGreatDoor
