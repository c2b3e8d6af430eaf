/-
  bottlepostref.Decoded: its contract: what Decode's is.
-/
import Derived.Test.YtkiejflgphjfjacDoorPart19
import Derived.Test.YtkiejflgphjfjacDoorPart3
import Derived.Test.YtkiejflgphjfjacDoorPart24
import Derived.Test.YtkiejflgphjfjacDoorPart25
import Derived.Test.YtkiejflgphjfjacDoorPart10
import Derived.RegionTactic
namespace Go.Proofs.YtkiejflgphjfjacDoor
open Go.RowKit
set_option linter.unusedVariables false
set_option linter.unusedSimpArgs false

/-- a system in its box, as the reference has it -/
def SysBoxR (w : World) (b n k : Nat) (a : Option Addr) (m c : Nat) (rows : List MRow) (A : List LRow) : Prop :=
  w.heap[b]? = some (.cells #[.int .i64 n, .int .i64 k, .slice a m c] 53 (0, 0)) ∧ Lies w a (rowCells rows) ∧ (∀ r ∈ rows, RowIn w r) ∧ rows.map MRow.says = A

theorem SysBoxR.below {w w' : World} {b n k m c : Nat} {a : Option Addr} {rows : List MRow} {A : List LRow} (h : SysBoxR w b n k a m c rows A) (hb : Below w.heap.size w w') : SysBoxR w' b n k a m c rows A :=
  ⟨blk_below h.1 hb, h.2.1.below hb (Nat.le_refl _), fun r hr => (h.2.2.1 r hr).below hb, h.2.2.2⟩

/-- rows lie in no system's box -/
theorem rows_offbox {w : World} {b o : Nat} {rows : List MRow} {x y : Int} {a : Option Addr} {m c : Nat} {t : TypeId} {f : Nat × Nat} (h : Lies w (some ⟨b, o, none⟩) (rowCells rows)) (hr : rows ≠ []) (hb : w.heap[b]? = some (.cells #[.int .i64 x, .int .i64 y, .slice a m c] t f)) : False := by
  obtain ⟨r, l, rfl⟩ := List.exists_cons_of_ne_nil hr
  have h0 := h.at (k := 0) (u := r.hv) (by simp [rowCells])
  have h1 := h.at (k := 1) (u := r.dv) (by simp [rowCells])
  rw [cell_blk hb] at h0 h1
  match o, h0, h1 with
  | 0, h0, _ => simp [MRow.hv] at h0
  | 1, h0, _ => simp [MRow.hv] at h0
  | 2, _, h1 => simp at h1
  | o + 3, h0, _ => simp at h0

theorem SysBoxR.put {w : World} {b n k m m' c c' : Nat} {a a' : Option Addr} {rows rows' : List MRow} {A P : List LRow} (h : SysBoxR w b n k a m c rows A) (hl : Lies w a' (rowCells rows')) (hr : ∀ r ∈ rows', RowIn w r) (hs : rows'.map MRow.says = P) (hP : Right n k P) :
    SysBoxR (((w.setCell ⟨b, 0, none⟩ (.int .i64 n)).setCell ⟨b, 1, none⟩ (.int .i64 k)).setCell ⟨b, 2, none⟩ (.slice a' m' c')) b n k a' m' c' rows' P := by
  have gr := grown_trans (grown_trans (grown_setCell w b 0 (.int .i64 n)) (grown_setCell _ b 1 (.int .i64 k))) (grown_setCell _ b 2 (.slice a' m' c'))
  refine ⟨set3_blk h.1, ?_, fun r hr' => ?_, hs⟩
  · by_cases e0 : rows' = []
    · subst e0; exact Lies.nil _ _
    · exact lies_grown gr hl fun b' o e hh => by subst hh; subst e; exact rows_offbox hl e0 h.1
  · have hf := hP.fits _ (by rw [← hs]; exact List.mem_map_of_mem hr')
    have h1 := hf.1
    have h2 := hf.2
    have k1 := hP.k1
    have n1 := hP.n1
    simp only [MRow.says] at h1 h2
    exact (hr r hr').far (by omega) (by omega) h.1 (boxy3 _ _ _ _ _) gr

theorem SysBoxR.cells {w : World} {b n k m c : Nat} {a : Option Addr} {rows : List MRow} {A : List LRow} (h : SysBoxR w b n k a m c rows A) : w.cell? ⟨b, 0, none⟩ = some (.int .i64 n) ∧ w.cell? ⟨b, 1, none⟩ = some (.int .i64 k) ∧ w.cell? ⟨b, 2, none⟩ = some (.slice a m c) ∧ ∀ j, w.frozen? ⟨b, j, none⟩ = false := by
  obtain ⟨x0, x1, x2⟩ := cells3 h.1
  exact ⟨x0, x1, x2, fun j => frozen_blk h.1 j⟩

/-- the reference's AddRow, by addL -/
theorem addRow_ans (n k m : Nat) (ra : Option Addr) (rc : Nat) (rows : List MRow) (A : List LRow) (r : MRow) (p0 : LRow) (w : World) (hl : Lies w ra (rowCells rows)) (hall : ∀ x ∈ rows, RowIn w x) (hr : RowIn w r) (hmm : rows.length = m) (hAA : rows.map MRow.says = A) (hpp : r.says = p0) (hR : Right n k A) (hfr : Fits n k p0) :
    Calls Tryd.prog 39 #[.agg #[.int .i64 n, .int .i64 k, .slice ra m rc], .agg #[r.hv, r.dv]] w fun e w' =>
      ((addL A p0 = none ∧ e = .returned (.tuple #[.agg #[.int .i64 0, .int .i64 0, .slice none 0 0], .bool false, .int .i64 9])) ∨
        ∃ (P : List LRow) (a : Option Addr) (c m' : Nat) (bb : Bool) (rows' : List MRow), e = .returned (.tuple #[.agg #[.int .i64 n, .int .i64 k, .slice a m' c], .bool bb, .int .i64 0]) ∧ Shut (addL A p0 = some P ∧ Lies w' a (rowCells rows') ∧ (∀ x ∈ rows', RowIn w' x) ∧ rows'.map MRow.says = P ∧ rows'.length = m')) ∧ Below w.heap.size w w' := by
  subst hmm hAA hpp
  have hm : rows.length ≤ 24 := by have := hR.few; have := hR.n2; simp at *; omega
  refine (addRow_good n k ra rc rows r w hl hall hr hR.n1 hR.n2 hR.k1 hR.k2 hm (fun x hx => hR.fits _ (List.mem_map_of_mem hx)) hfr).mono ?_
  intro e w' h
  have h' : AddPost w w' n k ((rows.map MRow.says).length + 1) (((rows.map MRow.says) ++ [r.says]).map LRow.v) e := by
    have e1 : (((rows.map MRow.says) ++ [r.says]).map LRow.v) = ((rows ++ [r]).map fun x => LRow.v x.says) := by simp
    rw [e1, List.length_map]
    exact h
  obtain ⟨hb, hc⟩ := AddPost.ans hR hfr h'
  refine ⟨?_, hb⟩
  rcases hc with hc | ⟨P, a, c, rows', h1, rfl, h3, h4, h5⟩
  · exact .inl hc
  · exact .inr ⟨P, a, c, rows'.length, _, rows', rfl, ⟨h1, h3, h4, h5, rfl⟩⟩

/-- a row in its box, its bools in a block of their own, in the making -/
def HasSt (w6 wc : World) (hb rb nb k : Nat) (ya : Option Addr) (yc : Nat) (l : List Nat) : Prop :=
  wc.rowIs hb 4 nb (inAt l) ∧ wc.heap[rb]? = some (.cells #[.slice (some ⟨hb, 0, none⟩) nb nb, .slice ya k yc] 62 (0, 0)) ∧ w6.heap.size ≤ hb ∧ hb ≠ rb ∧ Below w6.heap.size w6 wc

theorem HasSt.start1 (w6 : World) (nb k : Nat) (ya : Option Addr) (yc : Nat) : HasSt w6 (((w6.alloc (.cells (madeCells #[Value.bool false] nb) 4)).alloc (.cells #[.slice (some ⟨w6.heap.size, 0, none⟩) nb nb, .slice ya k yc] 62)).drew) w6.heap.size (w6.heap.size + 1) nb k ya yc [] := by
  obtain ⟨c, hc, hr⟩ := (World.rowIs_made w6 (.bool false) nb 4).congr (g := inAt []) fun j hj => by simp [inAt]
  refine ⟨⟨c, ?_, hr⟩, ?_, Nat.le_refl _, by omega, ((((Below.refl _ _).alloc (Nat.le_refl _) _).alloc (by simp) _).drew)⟩
  · show ((w6.alloc _).alloc _).heap[w6.heap.size]? = _
    rw [heap_alloc_eq, if_neg (by rw [size_alloc_eq]; omega)]
    exact hc
  · show ((w6.alloc _).alloc _).heap[w6.heap.size + 1]? = _
    rw [heap_alloc_eq, if_pos (by rw [size_alloc_eq])]

theorem HasSt.start2 (w6 : World) (nb k : Nat) (ya : Option Addr) (yc : Nat) : HasSt w6 (((w6.alloc (.cells #[.slice (some ⟨w6.heap.size + 1, 0, none⟩) nb nb, .slice ya k yc] 62)).alloc (.cells (madeCells #[Value.bool false] nb) 4)).drew) (w6.heap.size + 1) w6.heap.size nb k ya yc [] := by
  obtain ⟨c, hc, hr⟩ := (World.rowIs_made (w6.alloc (.cells #[.slice (some ⟨w6.heap.size + 1, 0, none⟩) nb nb, .slice ya k yc] 62)) (.bool false) nb 4).congr (g := inAt []) fun j hj => by simp [inAt]
  rw [size_alloc_eq] at hc
  refine ⟨⟨c, hc, hr⟩, ?_, by omega, by omega, ((((Below.refl _ _).alloc (Nat.le_refl _) _).alloc (by simp) _).drew)⟩
  show ((w6.alloc _).alloc _).heap[w6.heap.size]? = _
  rw [heap_alloc_eq, if_neg (by rw [size_alloc_eq]; omega), heap_alloc_eq, if_pos rfl]

theorem HasSt.below {w6 wc w' : World} {hb rb nb k : Nat} {ya : Option Addr} {yc : Nat} {l : List Nat} (h : HasSt w6 wc hb rb nb k ya yc l) (hw : Below wc.heap.size wc w') : HasSt w6 w' hb rb nb k ya yc l := by
  obtain ⟨⟨c, hc, hr⟩, h2, h3, h4, h5⟩ := h
  exact ⟨⟨c, blk_below hc hw, hr⟩, blk_below h2 hw, h3, h4, h5.trans (hw.mono h5.size)⟩

theorem HasSt.next {w6 wc : World} {hb rb nb k x : Nat} {ya : Option Addr} {yc : Nat} {l : List Nat} (h : HasSt w6 wc hb rb nb k ya yc l) : HasSt w6 (wc.setCell ⟨hb, x, none⟩ (.bool true)) hb rb nb k ya yc (l ++ [x]) := by
  obtain ⟨h1, h2, h3, h4, h5⟩ := h
  exact ⟨row_set h1, block_set h2 (Ne.symm h4), h3, h4, h5.setCell (p := ⟨hb, x, none⟩) (by simpa using h3) _⟩

theorem HasSt.lt {w6 wc : World} {hb rb nb k : Nat} {ya : Option Addr} {yc : Nat} {l : List Nat} (h : HasSt w6 wc hb rb nb k ya yc l) : hb < wc.heap.size := by
  obtain ⟨⟨c, hc, _⟩, _⟩ := h
  exact blk_lt hc

theorem HasSt.cells {w6 wc : World} {hb rb nb k : Nat} {ya : Option Addr} {yc : Nat} {l : List Nat} (h : HasSt w6 wc hb rb nb k ya yc l) : wc.cell? ⟨rb, 0, none⟩ = some (.slice (some ⟨hb, 0, none⟩) nb nb) ∧ wc.cell? ⟨rb, 1, none⟩ = some (.slice ya k yc) ∧ (∀ x, x < nb → wc.cell? ⟨hb, x, none⟩ = some (inAt l x)) ∧ ∀ x, wc.frozen? ⟨hb, x, none⟩ = false := by
  obtain ⟨x0, x1⟩ := cells2 h.2.1
  refine ⟨x0, x1, fun x hx => h.1.cell hx, fun x => ?_⟩
  obtain ⟨⟨c, hc, _⟩, _⟩ := h
  exact frozen_blk hc x

/-- the whole row -/
theorem HasSt.row {w6 wc : World} {hb rb nb k i : Nat} {ya : Option Addr} {yc : Nat} {l : List Nat} (h : HasSt w6 wc hb rb nb k ya yc l) (hp : ∀ x, x ∈ l ↔ x ∈ chosen nb i) : Lies wc (some ⟨hb, 0, none⟩) ((maskL nb i).map Value.bool) :=
  mask_lies (h.1.congr fun j hj => by simp [inAt, hp])

theorem chosen_len {b i : Nat} (h1 : 1 ≤ b) (hb : b ≤ 24) : (chosen b i).length ≤ 24 := by
  by_cases h : i < b
  · rw [chosen_low h]; simp
  · obtain ⟨n, e1, e2⟩ := chosen_is h h1 hb
    rw [e1, e2]
    have := many_le (b := b) (x := nx i) h1
    omega

/-- the reference's Picked, its numbers as naturals -/
theorem picked_nats (i b : Nat) (w : World) (hi : i ≤ 9999) (h1 : 1 ≤ b) (hb : b ≤ 24) :
    Calls Tryd.prog 38 #[.int .i64 i, .int .i64 b] w fun e w' => ∃ (a : Option Addr) (cap z : Nat) (N : List Nat), e = .returned (.tuple #[.slice a z cap, .int .i64 0]) ∧ Shut (N.length = z ∧ z ≤ 24 ∧ 0 < z ∧ Lies w' a ((ints N).map (Value.int .i64)) ∧ N.Perm (chosen b i)) ∧ Below w.heap.size w w' := by
  refine (refPicked_any i b w hi h1 hb).mono ?_
  rintro e w' ⟨a, cap, L, rfl, hl, hp, hb'⟩
  have hL : ints (L.map Int.toNat) = L := by
    unfold ints
    rw [List.map_map]
    conv => rhs; rw [← List.map_id L]
    refine List.map_congr_left fun x hx => ?_
    obtain ⟨y, _, rfl⟩ := List.mem_map.1 (hp.mem_iff.1 hx)
    simp
  have hP : (L.map Int.toNat).Perm (chosen b i) := by
    have h := hp.map Int.toNat
    have e : (ints (chosen b i)).map Int.toNat = chosen b i := by
      unfold ints
      rw [List.map_map]
      conv => rhs; rw [← List.map_id (chosen b i)]
      exact List.map_congr_left fun x hx => by simp
    rwa [e] at h
  refine ⟨a, cap, L.length, L.map Int.toNat, rfl, ⟨by simp, ?_, ?_, by rw [hL]; exact hl, hP⟩, hb'⟩
  · have := hP.length_eq
    have := chosen_len (b := b) (i := i) h1 hb
    simp at *
    omega
  · have := hP.length_eq
    have := chosen_pos (b := b) (i := i) h1 hb
    simp at *
    omega

/-- numbers lie in no row of bools -/
theorem ints_off {w : World} {g n b o : Nat} {L : List Int} {f : Nat → Bool} {a : Option Addr} (hr : w.rowIs g 4 n (fun j => .bool (f j))) (h : Lies w a (L.map (Value.int .i64))) (h0 : 0 < L.length) (e : a = some ⟨b, o, none⟩) : b ≠ g := by
  intro e2
  subst e2 e
  obtain ⟨c, hc, hs, hf⟩ := hr
  have h1 := h.at (k := 0) (u := .int .i64 L[0]) (by simp [h0])
  rw [cell_blk hc] at h1
  by_cases hn : o + 0 < n
  · rw [hf _ hn] at h1; cases h1
  · rw [Array.getElem?_eq_none (by omega)] at h1; cases h1

/-- the state of Decoded's loop -/
def DedInv (w wr : World) (B K : Int) (pb tb nb k : Nat) (ls : List LSym) (q : Nat) : Prop :=
  ∃ (a : Option Addr) (m c : Nat) (rows : List MRow) (A : List LRow), SysBoxR wr tb nb k a m c rows A ∧ rows.length = m ∧ Right nb k A ∧ allL B K nb [] ls = allL B K nb A (ls.drop q) ∧ wr.heap[pb]? = some (.cells #[.int .i64 B, .int .i64 K] 23 (0, 0)) ∧ Below w.heap.size w wr ∧ w.heap.size ≤ tb

theorem DedInv.start {w w9 : World} {B K : Int} {n k nb pb tb : Nat} {ls : List LSym} (g : Good B K n k nb) (hs : w9.heap[tb]? = some (.cells #[.int .i64 nb, .int .i64 K, .slice none 0 0] 53 (0, 0))) (hp : w9.heap[pb]? = some (.cells #[.int .i64 B, .int .i64 K] 23 (0, 0))) (hb : Below w.heap.size w w9) (ht : w.heap.size ≤ tb) : DedInv w w9 B K pb tb nb k ls 0 := by
  have hR0 : Right nb k [] := ⟨g.b1, g.b2, g.k1, g.k2, (fun r hr => by cases hr), Sys.nil⟩
  refine ⟨none, 0, 0, [], [], ⟨?_, Lies.nil _ _, (fun r hr => by cases hr), rfl⟩, rfl, hR0, by simp, hp, hb, ht⟩
  rw [hs, g.eK]

theorem decoded_plan (B K : Int) (la : Option Addr) (m lc : Nat) (ls : List LSym) (w : World) (hB : I64 B) (hK : I64 K) (h : chkP B K ≠ 0) :
    Calls Tryd.prog 10 #[.agg #[.int .i64 B, .int .i64 K], .slice la m lc] w fun e w' => e = .returned (.tuple #[.slice none 0 0, .int .i64 (decCode B K ls)]) ∧ Below w.heap.size w w' := by
  have hBl : Below w.heap.size w (w.alloc (.cells #[.int .i64 B, .int .i64 K] 23)) := (Below.refl _ _).alloc (Nat.le_refl _) _
  obtain ⟨x0, x1⟩ := Box2.mk w (.int .i64 B) (.int .i64 K) 23
  have hC := checkPlan_any B K (w.alloc (.cells #[.int .i64 B, .int .i64 K] 23)) hB hK
  have e : decCode B K ls = chkP B K := by rw [decCode, if_pos h]
  rw [e]
  obtain ⟨q, hq⟩ : ∃ q, chkP B K = q := ⟨_, rfl⟩
  rw [hq] at hC h ⊢
  have h' : (q != 0) = true := by simpa using h
  clear e hq
  go_enter Tryd.func10, Tryd.ntmps10
  go_wp2_with fail
  refine hC.mono ?_
  rintro e w1 ⟨rfl, hb⟩
  have hb1 := hBl.trans (hb.mono hBl.size)
  clear hC hb x0 x1 hBl
  go_wp2
  go_ret2
  exact ⟨rfl, hb1⟩

theorem decoded_many (B K : Int) (n k nb : Nat) (la : Option Addr) (m lc : Nat) (ls : List LSym) (w : World) (g : Good B K n k nb) (hB : I64 B) (hK : I64 K) (hm : m ≤ maxLen) (hml : ls.length = m) (h : 60 < m) :
    Calls Tryd.prog 10 #[.agg #[.int .i64 B, .int .i64 K], .slice la m lc] w fun e w' => e = .returned (.tuple #[.slice none 0 0, .int .i64 (decCode B K ls)]) ∧ Below w.heap.size w w' := by
  have hBl : Below w.heap.size w (w.alloc (.cells #[.int .i64 B, .int .i64 K] 23)) := (Below.refl _ _).alloc (Nat.le_refl _) _
  obtain ⟨x0, x1⟩ := Box2.mk w (.int .i64 B) (.int .i64 K) 23
  have hC := checkPlan_any B K (w.alloc (.cells #[.int .i64 B, .int .i64 K] 23)) hB hK
  have e : decCode B K ls = 2 := by rw [decCode, if_neg (by rw [chkP_good g]; simp), if_pos (by omega)]
  rw [chkP_good g] at hC
  rw [e]
  unfold maxLen at hm
  clear e hml
  go_enter Tryd.func10, Tryd.ntmps10
  go_wp2_with fail
  refine hC.mono ?_
  rintro e w1 ⟨rfl, hb⟩
  have hb1 := hBl.trans (hb.mono hBl.size)
  clear hC hb x0 x1 hBl
  go_wp2
  go_ret2
  exact ⟨rfl, hb1⟩

set_option maxHeartbeats 4000000 in
set_option maxRecDepth 8000 in
theorem decoded_good (B K : Int) (n k nb m : Nat) (la : Option Addr) (lc : Nat) (l : List MSym) (ls : List LSym) (L : List UInt8) (code : Int) (w : World) (g : Good B K n k nb) (hB : I64 B) (hK : I64 K) (hl : Lies w la (symCells l)) (hall : ∀ y ∈ l, SymIn w y) (hm : l.length = m) (h60 : m ≤ 60) (hls : l.map MSym.says = ls) (hdc : decCode B K ls = code) (hdr : decRes B K ls = L) :
    Calls Tryd.prog 10 #[.agg #[.int .i64 B, .int .i64 K], .slice la m lc] w fun e w' => ∃ (a' : Option Addr) (c' : Nat), e = .returned (.tuple #[.slice a' L.length c', .int .i64 code]) ∧ Lies w' a' (bs L) ∧ Below w.heap.size w w' := by
  have b1 := g.b1
  have b2 := g.b2
  have k1 := g.k1
  have k2 := g.k2
  have hBl : Below w.heap.size w (w.alloc (.cells #[.int .i64 B, .int .i64 K] 23)) := (Below.refl _ _).alloc (Nat.le_refl _) _
  obtain ⟨x0, x1⟩ := Box2.mk w (.int .i64 B) (.int .i64 K) 23
  have HPB : Shut ((w.alloc (.cells #[.int .i64 B, .int .i64 K] 23)).heap[w.heap.size]? = some (.cells #[.int .i64 B, .int .i64 K] 23 (0, 0))) := ⟨by rw [heap_alloc_eq, if_pos rfl]⟩
  have hC := checkPlan_any B K (w.alloc (.cells #[.int .i64 B, .int .i64 K] 23)) hB hK
  rw [chkP_good g] at hC
  have hBk : ∀ W, Calls Tryd.prog 36 #[.agg #[.int .i64 B, .int .i64 K]] W fun e w' => e = .returned (.int .i64 nb) ∧ Below W.heap.size W w' := fun W => by
    have h := refBlocks_any B K W hB hK
    rw [g.eN] at h
    exact h
  have h60n : ¬ 60 < m := by omega
  have HLS : Shut (ls.length ≤ 60 ∧ ls.length = m) := ⟨by rw [← hls]; simp; omega, by rw [← hls]; simpa using hm⟩
  have HG := Shut.mk g
  have HX := Shut.mk (And.intro hl (And.intro hall (And.intro hm (And.intro hls (And.intro hdc hdr)))))
  clear hl hall hm hls hdc hdr g
  go_enter Tryd.func10, Tryd.ntmps10
  go_wp2_with fail
  refine hC.mono ?_
  rintro e w1 ⟨rfl, hb⟩
  replace HPB := Shut.mk (blk_below HPB.out hb)
  have hb1 := hBl.trans (hb.mono hBl.size)
  clear hC hb x0 x1 hBl
  go_upto_region 6 with fail
  have x0 : w1.drew.cell? ⟨w.heap.size, 0, none⟩ = some (.int .i64 B) := by have := cell_blk HPB.out 0; simp at this; exact this
  have x1 : w1.drew.cell? ⟨w.heap.size, 1, none⟩ = some (.int .i64 K) := by have := cell_blk HPB.out 1; simp at this; exact this
  have HP1 : Shut (w1.drew.cell? ⟨w.heap.size, 0, none⟩ = some (.int .i64 B) ∧ w1.drew.cell? ⟨w.heap.size, 1, none⟩ = some (.int .i64 K)) := ⟨x0, x1⟩
  go_cut [7] from 27 (fun s7 wc => ∃ tb, s7 = .pointer (some ⟨tb, 0, none⟩) ∧ Shut (DedInv w wc B K w.heap.size tb nb k ls 0))
  case first =>
    have lt1 : w.heap.size < w1.heap.size := blk_lt HPB.out
    go_region_held3 (fun w' => w'.cell? ⟨w.heap.size, 0, none⟩ = some (.int .i64 B) ∧ w'.cell? ⟨w.heap.size, 1, none⟩ = some (.int .i64 K)) (first | exact ⟨by assumption, by assumption⟩ | exact ⟨cellA' (by assumption) _, cellA' (by assumption) _⟩ | (refine ⟨?_, ?_⟩ <;> (rw [World.cell?_setCell_other _ _ _ _ (by intro e; injection e; omega), World.cell?_setCell_other _ _ _ _ (by intro e; injection e; omega), World.cell?_setCell_other _ _ _ _ (by intro e; injection e; omega)]; assumption))) (first | (go_at_call 36; refine (hBk _).mono ?_; rintro e w4 ⟨rfl, hb4⟩; have v0 := cellC (b := w.heap.size) (o := 0) (v := .int .i64 B) (by first | assumption | exact cellA' (by assumption) _) hb4; have v1 := cellC (b := w.heap.size) (o := 1) (v := .int .i64 K) (by first | assumption | exact cellA' (by assumption) _) hb4; have lt4 := World.block_lt_of_cell? w4 _ v0; simp at lt4; first | (have tk : w4.heap[w1.heap.size]? = some (.cells #[.int .i64 0, .int .i64 0, .slice none 0 0] 53 (0, 0)) := (by first | exact (below_new3 (Y := w1.drew) hb4).1 | exact below_new3d (Y := w1) hb4); have t0 : w4.cell? ⟨w1.heap.size, 0, none⟩ = some (.int .i64 0) := (cells3 tk).1; have t1 : w4.cell? ⟨w1.heap.size, 1, none⟩ = some (.int .i64 0) := (cells3 tk).2.1; have t2 : w4.cell? ⟨w1.heap.size, 2, none⟩ = some (.slice none 0 0) := (cells3 tk).2.2; have t3 := frozen_blk tk 0; have t4 := frozen_blk tk 1; have t5 := frozen_blk tk 2) | skip))
    · have d4 : Below w1.heap.size w1 w4 := ((Below.refl w1.heap.size w1).drew).trans hb4
      have d6 : Below w1.heap.size w1 (w4.alloc (.cells #[.int .i64 nb, .int .i64 K, .slice none 0 0] 53)) := d4.alloc d4.size _
      have R0 : Shut (DedInv w (w4.alloc (.cells #[.int .i64 nb, .int .i64 K, .slice none 0 0] 53)) B K w.heap.size w4.heap.size nb k ls 0) := ⟨DedInv.start HG.out (by rw [heap_alloc_eq, if_pos rfl]) (blk_below HPB.out d6) (hb1.trans (d6.mono hb1.size)) (Nat.le_trans hb1.size d4.size)⟩
      clear hb4 d4 d6
      go_wp2
      go_meet
      exact ⟨_, rfl, R0⟩
    · have d4' : Below w1.heap.size w1 ((w1.alloc (.cells #[.int .i64 0, .int .i64 0, .slice none 0 0] 53)).drew) := ((Below.refl _ _).alloc (Nat.le_refl _) _).drew
      have d4 : Below w1.heap.size w1 w4 := by first | exact d4'.trans (hb4.mono d4'.size) | exact (((Below.refl _ _).drew).alloc (Nat.le_refl _) _).trans (hb4.mono (by simp))
      have hle : w.heap.size ≤ w1.heap.size := hb1.size
      have d6 := (((hb1.trans (d4.mono hb1.size)).setCell (p := ⟨w1.heap.size, 0, none⟩) (by simpa using hle) (.int .i64 nb)).setCell (p := ⟨w1.heap.size, 1, none⟩) (by simpa using hle) (.int .i64 K)).setCell (p := ⟨w1.heap.size, 2, none⟩) (by simpa using hle) (.slice none 0 0)
      have hne : w.heap.size ≠ w1.heap.size := by omega
      have R0 := Shut.mk (DedInv.start (ls := ls) HG.out (set3_blk tk) (block_set (block_set (block_set (blk_below HPB.out d4) hne) hne) hne) d6 hle)
      clear hb4 d4 d4' d6
      go_wp2
      go_meet
      exact ⟨_, rfl, R0⟩
  case rest =>
    obtain ⟨tb, rfl, H0⟩ := hcut
    clear x0 x1 HP1 hBk HPB hb1
    go_wp2
    go_loopw [34] (fun v wr => ∃ q : Nat, q ≤ m ∧ v = .int .i64 q ∧ Shut (DedInv w wr B K w.heap.size tb nb k ls q)) (fun v _ => m - (intOf v).toNat)
    case atStart => exact ⟨0, Nat.zero_le _, rfl, H0⟩
    case round =>
      clear H0
      obtain ⟨q, hq, rfl, HI⟩ := hrel
      by_cases hlt : q < m
      · obtain ⟨a, am, ac, rows, A, hS, hm, hR, hal, hpb, hbw, htb⟩ := HI.out
        have hql : q < l.length := by rw [HX.out.2.2.1]; exact hlt
        have hlw := HX.out.1.below hbw (Nat.le_refl _)
        obtain ⟨ab, ao, haa⟩ := hlw.some (k := 2 * q) (by rw [symCells_length]; omega)
        rw [haa] at hlw
        obtain ⟨a0, a1⟩ := sym_at hlw hql
        have hY := (HX.out.2.1 _ (List.getElem_mem hql)).below hbw
        have HDR : Shut (ls.drop q = l[q].says :: ls.drop (q + 1)) := ⟨by
          have e : ls[q]? = some l[q].says := by rw [← HX.out.2.2.2.1]; simp [hql]
          have hlt2 : q < ls.length := (List.getElem?_eq_some_iff.1 e).1
          rw [List.drop_eq_getElem_cons hlt2]
          rw [List.getElem?_eq_getElem hlt2] at e
          rw [Option.some.inj e]⟩
        generalize l[q]'hql = Y at *
        have hYB : (wr.alloc (.cells #[.int .i64 Y.id, Y.dv] 39)).heap[wr.heap.size]? = some (.cells #[.int .i64 Y.id, Y.dv] 39 (0, 0)) := by rw [heap_alloc_eq, if_pos rfl]
        obtain ⟨v0, v1⟩ := cells2 hYB
        have bd : Below wr.heap.size wr (wr.alloc (.cells #[.int .i64 Y.id, Y.dv] 39)) := (Below.refl _ _).alloc (Nat.le_refl _) _
        have hS2 := hS.below bd
        have hp2 := blk_below hpb bd
        have hb2 := hbw.trans (bd.mono hbw.size)
        have hY2 := hY.below bd
        obtain ⟨s0, s1, s2, sf⟩ := hS2.cells
        obtain ⟨p0, p1⟩ := cells2 hp2
        have HST := Shut.mk (And.intro hS2 (And.intro hm (And.intro hR (And.intro hal (And.intro hp2 (And.intro hb2 (And.intro htb (And.intro hYB hY2))))))))
        obtain ⟨W5, hW5⟩ : ∃ W5, wr.alloc (.cells #[.int .i64 Y.id, Y.dv] 39) = W5 := ⟨_, rfl⟩
        obtain ⟨sb, hsb⟩ : ∃ sb, wr.heap.size = sb := ⟨_, rfl⟩
        rw [hW5, hsb] at HST
        have HW5 := Shut.mk (And.intro hW5 hsb)
        clear hS hm hR hal hpb hbw htb HI hS2 hp2 hb2 bd hY hlw hW5 hsb hY2 sf hYB
        obtain ⟨yid, ya, yc, yd⟩ := Y
        simp only [MSym.dv] at *
        subst haa
        have hyl : yd.length ≤ maxLen := HST.out.2.2.2.2.2.2.2.2.2
        have hCS := checkSymbol_any B K yid ya yd.length yc W5 hB hK hyl
        by_cases hck : chkS B K yid yd.length = 0
        · obtain ⟨i, hi, hi9, hdk⟩ := chkS_zero HG.out hck
          subst hi
          have HDK := Shut.mk hdk
          have HCK := Shut.mk hck
          rw [hck] at hCS
          have HRO : Shut (rowOf nb ((i : Int), yd) = (maskL nb i, yd)) := ⟨by simp [rowOf]⟩
          clear hck hdk hyl
          go_wp2_with fail
          rw [HW5.out.1]
          refine hCS.mono ?_
          rintro e w6 ⟨rfl, hb6⟩
          replace HST := Shut.mk (And.intro (HST.out.1.below hb6) (And.intro HST.out.2.1 (And.intro HST.out.2.2.1 (And.intro HST.out.2.2.2.1 (And.intro (blk_below HST.out.2.2.2.2.1 hb6) (And.intro (HST.out.2.2.2.2.2.1.trans (hb6.mono HST.out.2.2.2.2.2.1.size)) (And.intro HST.out.2.2.2.2.2.2.1 (And.intro (blk_below HST.out.2.2.2.2.2.2.2.1 hb6) (HST.out.2.2.2.2.2.2.2.2.below hb6)))))))))
          clear hCS hb6 v0 v1 s0 s1 s2 p0 p1 a0 a1
          go_upto_region 13 with fail
          rw [HW5.out.2, HDK.out]
          have hmk := run_make_row' (P := Tryd.prog) 56 4 (.bool false) 1 Tryd.underlying56 infoBool rfl .i64 .i64 nb (by omega) (by omega)
          obtain ⟨s0, s1, s2, _⟩ := HST.out.1.cells
          obtain ⟨y0, y1⟩ := cells2 HST.out.2.2.2.2.2.2.2.1
          simp only [HDK.out] at y1
          go_cut [11] from 44 to 80 (fun s11 wc => ∃ hb rb, s11 = .pointer (some ⟨rb, 0, none⟩) ∧ Shut (HasSt w6 wc hb rb nb k ya yc []))
          case first =>
            have ht6 : tb < w6.heap.size := blk_lt HST.out.1.1
            have hs6 : sb < w6.heap.size := blk_lt HST.out.2.2.2.2.2.2.2.1
            have r0 : w6.drew.cell? ⟨tb, 0, none⟩ = some (.int .i64 nb) := s0
            have r1 : w6.drew.cell? ⟨sb, 1, none⟩ = some (.slice ya k yc) := y1
            go_region_held3 (fun w' => w'.cell? ⟨tb, 0, none⟩ = some (.int .i64 nb) ∧ w'.cell? ⟨sb, 1, none⟩ = some (.slice ya k yc)) (first | exact ⟨by assumption, by assumption⟩ | exact ⟨cellA' (by assumption) _, cellA' (by assumption) _⟩ | exact ⟨cellA' (cellA' (by assumption) _) _, cellA' (cellA' (by assumption) _) _⟩ | (refine ⟨?_, ?_⟩ <;> (rw [World.cell?_setCell_other _ _ _ _ (by intro e; injection e; omega), World.cell?_setCell_other _ _ _ _ (by intro e; injection e; omega)]; first | assumption | exact cellA' (by assumption) _ | exact cellA' (cellA' (by assumption) _) _))) (fail)
            · have R := Shut.mk (HasSt.start1 w6 nb k ya yc)
              go_wp2
              go_meet
              exact ⟨_, _, rfl, R⟩
            · have R := Shut.mk (HasSt.start2 w6 nb k ya yc)
              go_wp2
              go_meet
              exact ⟨_, _, rfl, R⟩
          case rest =>
            obtain ⟨hb, rb, rfl, HH⟩ := hcut
            clear s0 s1 s2 y0 y1 hmk
            obtain ⟨W7, hW7⟩ : ∃ W7, W7 = wc := ⟨wc, rfl⟩
            have hb67 := HH.out.2.2.2.2
            obtain ⟨s0, s1, s2, _⟩ := (HST.out.1.below hb67).cells
            obtain ⟨y0, y1⟩ := cells2 (blk_below HST.out.2.2.2.2.2.2.2.1 hb67)
            simp only [HDK.out] at y1
            have hPk := picked_nats i nb wc hi9 b1 b2
            clear hW7
            go_wp2_with fail
            refine hPk.mono ?_
            rintro e w8 ⟨pa, pc, z, N, rfl, HN, hb8⟩
            replace HH := Shut.mk (HH.out.below hb8)
            clear hPk hb8 hb67 s0 s1 s2 y0 y1
            have hz24 : z ≤ 24 := HN.out.2.1
            obtain ⟨pb2, po2, hpa⟩ := HN.out.2.2.2.1.some (k := 0) (by simp [ints, HN.out.1, HN.out.2.2.1])
            subst hpa
            have HPO : Shut (pb2 ≠ hb) := ⟨ints_off (f := fun j => decide (j ∈ ([] : List Nat))) HH.out.1 HN.out.2.2.2.1 (by simp [ints, HN.out.1, HN.out.2.2.1]) rfl⟩
            go_wp2
            obtain ⟨WR, rfl⟩ : ∃ WR, WR = wr := ⟨wr, rfl⟩
            go_loopw [60] (fun v wr => ∃ j : Nat, j ≤ z ∧ v = .int .i64 j ∧ Shut (HasSt w6 wr hb rb nb k ya yc (N.take j) ∧ w8.grownBy wr (some hb))) (fun v _ => z - (intOf v).toNat)
            case atStart => exact ⟨0, Nat.zero_le _, rfl, ⟨HH.out, grown_refl _ _⟩⟩
            case round =>
              obtain ⟨j, hj, rfl, HJ⟩ := hrel
              by_cases hlj : j < z
              · have hjN : j < N.length := by rw [HN.out.1]; exact hlj
                have c1 := (lies_grown HJ.out.2 HN.out.2.2.2.1 fun b o e => by cases e; exact HPO.out).at (k := j) (u := .int .i64 (N[j] : Int)) (by simp [ints, hjN])
                have hxn : N[j] < nb := chosen_lt b1 b2 _ (HN.out.2.2.2.2.mem_iff.1 (List.getElem_mem hjN))
                have htk : N.take (j + 1) = N.take j ++ [N[j]] := by rw [List.take_add_one, List.getElem?_eq_getElem hjN]; rfl
                obtain ⟨r0, r1, r2, r3⟩ := HJ.out.1.cells
                have r2' := r2 N[j] hxn
                have r3' := r3 N[j]
                have hnx := HJ.out.1.next (x := N[j])
                have hgx := grown_trans HJ.out.2 (grown_setCell wr hb N[j] (.bool true))
                rw [← htk] at hnx
                have RJ := Shut.mk (And.intro hnx hgx)
                generalize N[j]'hjN = x at *
                unfold inAt at r2'
                generalize decide (x ∈ N.take j) = dx at r2'
                have hx1 : (0 : Int) ≤ (x : Int) := by omega
                have hx2 : (x : Int) < (nb : Int) := by omega
                clear r2 r3 hnx hgx htk HJ
                go_wp2
                go_roundw
                case rel => exact ⟨j + 1, by omega, by go_num, RJ⟩
                case measure => simp [intOf]; omega
              · obtain rfl : j = z := by omega
                have htk : N.take j = N := List.take_of_length_le (by rw [HN.out.1]; exact Nat.le_refl _)
                have hJ := HJ.out.1
                rw [htk] at hJ
                have hlm := hJ.row (i := i) fun x => HN.out.2.2.2.2.mem_iff
                have hb7 := hJ.2.2.2.2
                have HST7 := Shut.mk (And.intro (HST.out.1.below hb7) (And.intro HST.out.2.1 (And.intro HST.out.2.2.1 (And.intro HST.out.2.2.2.1 (And.intro (blk_below HST.out.2.2.2.2.1 hb7) (And.intro (HST.out.2.2.2.2.2.1.trans (hb7.mono HST.out.2.2.2.2.2.1.size)) (And.intro HST.out.2.2.2.2.2.2.1 (HST.out.2.2.2.2.2.2.2.2.below hb7))))))))
                obtain ⟨r0, r1, _, _⟩ := hJ.cells
                obtain ⟨s0, s1, s2, _⟩ := HST7.out.1.cells
                have hA := addRow_ans nb k am a ac rows A ⟨some ⟨hb, 0, none⟩, nb, maskL nb i, ya, yc, yd⟩ (maskL nb i, yd) wr HST7.out.1.2.1 HST7.out.1.2.2.1 ⟨hlm, HST7.out.2.2.2.2.2.2.2.1, by simp only [maskL_length]; unfold maxLen; omega, HST7.out.2.2.2.2.2.2.2.2⟩ HST7.out.2.1 HST7.out.1.2.2.2 rfl HST7.out.2.2.1 ⟨maskL_length nb i, HDK.out⟩
                simp only [MRow.hv, MRow.dv, maskL_length, HDK.out] at hA
                clear HST HJ hJ hb7 hlm HH htk HPO
                go_wp2_with fail
                refine hA.mono ?_
                rintro e w9 ⟨hcase, hb9⟩
                have hbw9 := HST7.out.2.2.2.2.2.1.trans (hb9.mono HST7.out.2.2.2.2.2.1.size)
                clear hA r0 r1 s0 s1 s2
                rcases hcase with ⟨hno, rfl⟩ | ⟨P, a', c', m', bb, rows', rfl, HP⟩
                · have hst : stepL B K nb A ((i : Int), yd) = (9, []) := stepL_torn HCK.out (by rw [HRO.out]; exact hno)
                  have hdd := dec_code_err HG.out HLS.out.1 (q := 9) (by rw [HST7.out.2.2.2.1, HDR.out]; show allL B K nb A (((i : Int), yd) :: _) = _; rw [allL_bad (by rw [hst]; decide), hst]) (by decide)
                  have HDD : Shut (code = 9 ∧ L = []) := ⟨by rw [← HX.out.2.2.2.2.1]; exact hdd.1, by rw [← HX.out.2.2.2.2.2]; exact hdd.2⟩
                  have hF : Below w.heap.size w (w9.alloc (.cells #[.int .i64 0, .int .i64 0, .slice none 0 0] 53)) := hbw9.alloc hbw9.size _
                  clear hno hst hdd hb9
                  go_wp2
                  go_ret2
                  exact ⟨none, 0, by rw [HDD.out.1, HDD.out.2]; rfl, by rw [HDD.out.2]; exact Lies.nil _ _, hF⟩
                · have hst : stepL B K nb A ((i : Int), yd) = (0, P) := stepL_ok HCK.out (by rw [HRO.out]; exact HP.out.1)
                  have hRP := (addL_right HST7.out.2.2.1 ⟨maskL_length nb i, HDK.out⟩ HP.out.1).1
                  have bd : Below w9.heap.size w9 (w9.alloc (.cells #[.int .i64 nb, .int .i64 k, .slice a' m' c'] 53)) := (Below.refl _ _).alloc (Nat.le_refl _) _
                  have hZ : (w9.alloc (.cells #[.int .i64 nb, .int .i64 k, .slice a' m' c'] 53)).heap[w9.heap.size]? = some (.cells #[.int .i64 nb, .int .i64 k, .slice a' m' c'] 53 (0, 0)) := by rw [heap_alloc_eq, if_pos rfl]
                  go_upto_region 23 with fail
                  obtain ⟨W8, hW8⟩ : ∃ W8, w9.alloc (.cells #[.int .i64 nb, .int .i64 k, .slice a' m' c'] 53) = W8 := ⟨_, rfl⟩
                  obtain ⟨zb, hzb⟩ : ∃ zb, w9.heap.size = zb := ⟨_, rfl⟩
                  rw [hW8] at bd hZ ⊢
                  rw [hzb] at hZ ⊢
                  have hb8 := hb9.trans (bd.mono hb9.size)
                  have hbw8 := hbw9.trans (bd.mono hbw9.size)
                  have hSB8 := HST7.out.1.below hb8
                  have hput := hSB8.put (m' := m') (c' := c') (HP.out.2.1.below bd (Nat.le_refl _)) (fun r hr => (HP.out.2.2.1 r hr).below bd) HP.out.2.2.2.1 hRP
                  have htw := HST7.out.2.2.2.2.2.2.1
                  have hpl := blk_below HST7.out.2.2.2.2.1 hb8
                  have hpt : w.heap.size ≠ tb := by
                    intro hpt
                    have h1 := hSB8.1
                    rw [← hpt, hpl] at h1
                    simp at h1
                  have hbp := ((hbw8.setCell (p := ⟨tb, 0, none⟩) (by simpa using htw) (.int .i64 nb)).setCell (p := ⟨tb, 1, none⟩) (by simpa using htw) (.int .i64 k)).setCell (p := ⟨tb, 2, none⟩) (by simpa using htw) (.slice a' m' c')
                  obtain ⟨t0, t1, t2, tf⟩ := hSB8.cells
                  have f0 := tf 0
                  have f1 := tf 1
                  have f2 := tf 2
                  obtain ⟨z0, z1, z2⟩ := cells3 hZ
                  have R1 : Shut (DedInv w (((W8.setCell ⟨tb, 0, none⟩ (.int .i64 nb)).setCell ⟨tb, 1, none⟩ (.int .i64 k)).setCell ⟨tb, 2, none⟩ (.slice a' m' c')) B K w.heap.size tb nb k ls (q + 1)) := ⟨a', m', c', rows', P, hput, HP.out.2.2.2.2, hRP, by rw [HST7.out.2.2.2.1, HDR.out]; show allL B K nb A (((i : Int), yd) :: _) = _; rw [allL_go (by rw [hst]), hst], block_set (block_set (block_set hpl hpt) hpt) hpt, hbp, htw⟩
                  clear hst hRP bd hb8 hbw8 hSB8 hput hpl hpt hbp tf hZ hW8 hzb hb9 hbw9 HP HST7
                  go_wp2
                  go_roundw
                  case rel => exact ⟨q + 1, by omega, by go_num, R1⟩
                  case measure => simp [intOf]; omega
        · obtain ⟨qc, hqc⟩ : ∃ qc, chkS B K yid yd.length = qc := ⟨_, rfl⟩
          have HCK := Shut.mk hck
          have HQC := Shut.mk hqc
          rw [hqc] at hCS hck
          have hq1 : (qc != 0) = true := by simpa using hck
          clear hqc hck
          go_wp2_with fail
          rw [HW5.out.1]
          refine hCS.mono ?_
          rintro e w6 ⟨rfl, hb6⟩
          have hbw6 := HST.out.2.2.2.2.2.1.trans (hb6.mono HST.out.2.2.2.2.2.1.size)
          have hst : stepL B K nb A (yid, yd) = (qc, []) := by rw [← HQC.out]; exact stepL_chk HCK.out
          have hqn : qc ≠ 0 := by rw [← HQC.out]; exact HCK.out
          have hdd := dec_code_err HG.out HLS.out.1 (q := qc) (by rw [HST.out.2.2.2.1, HDR.out]; show allL B K nb A ((yid, yd) :: _) = _; rw [allL_bad (by rw [hst]; exact hqn), hst]) hqn
          have HDD : Shut (code = qc ∧ L = []) := ⟨by rw [← HX.out.2.2.2.2.1]; exact hdd.1, by rw [← HX.out.2.2.2.2.2]; exact hdd.2⟩
          clear hst hdd hCS v0 v1 s0 s1 s2 p0 p1 a0 a1 hb6 hqn
          go_wp2
          go_ret2
          exact ⟨none, 0, by rw [HDD.out.1, HDD.out.2]; rfl, by rw [HDD.out.2]; exact Lies.nil _ _, hbw6⟩
      · obtain ⟨a, am, ac, rows, A, hS, hm, hR, hal, hpb, hbw, htb⟩ := HI.out
        have hls : ls.length ≤ 60 := HLS.out.1
        have hdr : ls.drop q = [] := List.drop_of_length_le (by rw [HLS.out.2]; omega)
        rw [hdr] at hal
        obtain ⟨hsh, hlo⟩ := dec_code_end HG.out hls (A := A) hal
        rw [HX.out.2.2.2.2.1, HX.out.2.2.2.2.2] at hsh hlo
        have hAl : A.length = am := by rw [← hm, ← hS.2.2.2]; simp
        rw [hAl] at hsh hlo
        obtain ⟨s0, s1, s2, sf⟩ := hS.cells
        have ham : am ≤ 24 := by have := hR.few; omega
        have HSH := Shut.mk (And.intro hsh hlo)
        have HST := Shut.mk (And.intro hS (And.intro hm (And.intro hR hpb)))
        clear hsh hlo hal hdr hls hS hm hR hpb sf HI hAl
        by_cases hle : am < nb
        · have hdd := HSH.out.1 hle
          have HDD := Shut.mk hdd
          have hlei : (am : Int) < nb := by omega
          clear hdd HSH
          go_wp2
          go_ret2
          exact ⟨none, 0, by rw [HDD.out.1, HDD.out.2]; rfl, by rw [HDD.out.2]; exact Lies.nil _ _, hbw⟩
        · have HDD := Shut.mk (HSH.out.2 hle)
          clear HSH
          have b8 : nb ≤ am := by omega
          have hKo : ∀ W, Below wr.heap.size wr W → Calls Tryd.prog 41 #[.agg #[.int .i64 nb, .int .i64 k, .slice a am ac]] W fun e w' => ∃ (g : Nat) (bl : List Blk), e = .returned (.slice (some ⟨g, 0, none⟩) nb nb) ∧ Shut (Lies w' (some ⟨g, 0, none⟩) (bl.map Blk.val) ∧ AllIn w' bl ∧ bl.map Blk.l = knownL nb A) ∧ Below W.heap.size W w' := fun W hW => by
            have h := knownOf_any ⟨nb, k, a, ac, rows⟩ nb k W ⟨HST.out.1.2.1.below hW (Nat.le_refl _), fun r hr => (HST.out.1.2.2.1 r hr).below hW, by show rows.length ≤ _; rw [HST.out.2.1]; unfold maxLen; omega⟩ rfl rfl b1 b2 (by show rows.length ≤ _; rw [HST.out.2.1]; exact ham) (fun r hr => (HST.out.2.2.1.fits r.says (by rw [← HST.out.1.2.2.2]; exact List.mem_map_of_mem hr)).1)
            simp only [HST.out.2.1, HST.out.1.2.2.2] at h
            refine h.mono ?_
            rintro e w' ⟨g, bl, rfl, h1, h2, h3, _, h5⟩
            exact ⟨g, bl, rfl, ⟨h1, h2, h3⟩, h5⟩
          have hJo : ∀ (g : Nat) (bl : List Blk) (W : World), Shut (Lies W (some ⟨g, 0, none⟩) (bl.map Blk.val) ∧ AllIn W bl ∧ bl.map Blk.l = knownL nb A) → Calls Tryd.prog 40 #[.agg #[.int .i64 B, .int .i64 K], .slice (some ⟨g, 0, none⟩) nb nb] W fun e w' => ∃ (a' : Option Addr) (c' : Nat), e = .returned (.tuple #[.slice a' L.length c', .int .i64 code]) ∧ Shut (Lies w' a' (bs L)) ∧ Below W.heap.size W w' := fun g bl W hh => by
            have hbl : bl.length = nb := by have := congrArg List.length hh.out.2.2; rw [knownL_length] at this; simpa using this
            have htot : ((bl.map Blk.l).flatten).length ≤ 1048576 := by
              rw [hh.out.2.2, full_known HST.out.2.2.1 (by have := HST.out.2.2.1.few; rw [← HST.out.1.2.2.2] at *; simp [HST.out.2.1] at *; omega)]
              rw [List.length_flatten]
              have hs : ∀ (R : List LRow), (∀ r ∈ R, r.2.length = k) → ((R.map Prod.snd).map List.length).sum = R.length * k := by
                intro R
                induction R with
                | nil => simp
                | cons r R ih => intro h; simp only [List.map_cons, List.sum_cons, List.length_cons]; rw [ih fun x hx => h x (List.mem_cons_of_mem _ hx), h r List.mem_cons_self]; rw [Nat.add_mul]; omega
              rw [hs A fun r hr => (HST.out.2.2.1.fits r hr).2]
              have h1 : A.length ≤ 24 := by have := HST.out.2.2.1.few; omega
              have := Nat.mul_le_mul h1 k2
              omega
            have h := joined_any B K (some ⟨g, 0, none⟩) nb bl W hB hK (by unfold maxLen; omega) htot hh.out.1 hh.out.2.1
            rw [hh.out.2.2, ← HDD.out.1, ← HDD.out.2, hbl] at h
            refine h.mono ?_
            rintro e w' ⟨a', c', rfl, h1, h2⟩
            exact ⟨a', c', rfl, ⟨h1⟩, h2⟩
          obtain ⟨p0, p1⟩ := cells2 HST.out.2.2.2
          have D1 : Shut (Below wr.heap.size wr wr.drew) := ⟨(Below.refl _ _).drew⟩
          have D0 : Shut (Below wr.heap.size wr wr) := ⟨Below.refl _ _⟩
          go_upto_region 27 with fail
          have q0 : wr.drew.cell? ⟨w.heap.size, 0, none⟩ = some (.int .i64 B) := p0
          have q1 : wr.drew.cell? ⟨w.heap.size, 1, none⟩ = some (.int .i64 K) := p1
          have q2 : wr.drew.cell? ⟨tb, 0, none⟩ = some (.int .i64 nb) := s0
          have q3 : wr.drew.cell? ⟨tb, 1, none⟩ = some (.int .i64 k) := s1
          have q4 : wr.drew.cell? ⟨tb, 2, none⟩ = some (.slice a am ac) := s2
          go_region_held3 (fun w' => w'.cell? ⟨w.heap.size, 0, none⟩ = some (.int .i64 B) ∧ w'.cell? ⟨w.heap.size, 1, none⟩ = some (.int .i64 K) ∧ w'.cell? ⟨tb, 0, none⟩ = some (.int .i64 nb) ∧ w'.cell? ⟨tb, 1, none⟩ = some (.int .i64 k) ∧ w'.cell? ⟨tb, 2, none⟩ = some (.slice a am ac)) (exact ⟨by assumption, by assumption, by assumption, by assumption, by assumption⟩) (first | (go_at_call 41; (first | refine (hKo wr D0.out).mono ?_ | refine (hKo wr.drew D1.out).mono ?_); rintro e w5 ⟨g5, bl5, rfl, hs5, hb5⟩; have h5 : Below wr.heap.size wr w5 := (by first | exact hb5 | exact D1.out.trans (hb5.mono D1.out.size)); have v0 := cellC p0 h5; have v1 := cellC p1 h5; have v2 := cellC s0 h5; have v3 := cellC s1 h5; have v4 := cellC s2 h5) | (go_at_call 40; refine (hJo g5 bl5 w5 hs5).mono ?_; rintro e w6 ⟨a6, c6, rfl, hl6, hb6⟩; have h6 := h5.trans (hb6.mono h5.size); have u0 := cellC v0 hb6; have u1 := cellC v1 hb6; have u2 := cellC v2 hb6; have u3 := cellC v3 hb6; have u4 := cellC v4 hb6))
          all_goals
            have hF := hbw.trans (h6.mono hbw.size)
            go_wp2
            go_ret2
            exact ⟨a6, c6, rfl, hl6.out, hF⟩

/-- bottlepostref.Decoded of any plan and symbols -/
theorem decoded_any (B K : Int) (la : Option Addr) (lc : Nat) (l : List MSym) (w : World) (hB : I64 B) (hK : I64 K) (hl : Lies w la (symCells l)) (hall : ∀ y ∈ l, SymIn w y) (hm : l.length ≤ maxLen) :
    Calls Tryd.prog 10 #[.agg #[.int .i64 B, .int .i64 K], .slice la l.length lc] w fun e w' => ∃ (a' : Option Addr) (c' : Nat), e = .returned (.tuple #[.slice a' (decRes B K (l.map MSym.says)).length c', .int .i64 (decCode B K (l.map MSym.says))]) ∧ Lies w' a' (bs (decRes B K (l.map MSym.says))) ∧ Below w.heap.size w w' := by
  by_cases hc : chkP B K = 0
  · obtain ⟨n, k, nb, g⟩ := good_of hc
    by_cases h60 : l.length ≤ 60
    · exact decoded_good B K n k nb l.length la lc l _ _ _ w g hB hK hl hall rfl h60 rfl rfl rfl
    · refine (decoded_many B K n k nb la l.length lc (l.map MSym.says) w g hB hK hm (by simp) (by omega)).mono ?_
      rintro e w' ⟨rfl, hb⟩
      have e1 : decRes B K (l.map MSym.says) = [] := by rw [decRes, if_neg (by rw [chkP_good g]; simp), if_pos (by simp; omega)]
      exact ⟨none, 0, by rw [e1]; rfl, by rw [e1]; exact Lies.nil _ _, hb⟩
  · refine (decoded_plan B K la l.length lc (l.map MSym.says) w hB hK hc).mono ?_
    rintro e w' ⟨rfl, hb⟩
    have e1 : decRes B K (l.map MSym.says) = [] := by rw [decRes, if_pos hc]
    exact ⟨none, 0, by rw [e1]; rfl, by rw [e1]; exact Lies.nil _ _, hb⟩

end Go.Proofs.YtkiejflgphjfjacDoor
