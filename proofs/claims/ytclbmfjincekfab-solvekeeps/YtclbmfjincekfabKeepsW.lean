/-
  SolveKeeps: the walk.
-/
import Derived.Test.YtclbmfjincekfabSlvE
namespace Go.Proofs.Ytclbmfjincekfab
open Go.RowKit
set_option linter.unusedVariables false
set_option linter.unusedSimpArgs false

/-- where Add says no -/
theorem keeps_bad (sv rv : Value) (B K : Int) (ra : Option Addr) (m rc : Nat) (h0 d0 : Value) (q : Int) (w : World) (hq : q ≠ 0) (hsv : sv = .agg #[.int .i64 B, .int .i64 K, .slice ra m rc]) (hrv : rv = .agg #[h0, d0])
    (hA : ∀ W, Below w.heap.size w W → Calls Try.prog 6 #[.agg #[.int .i64 B, .int .i64 K, .slice ra m rc], .agg #[h0, d0]] W fun e w' => e = .returned (.tuple #[.agg #[.int .i64 0, .int .i64 0, .slice none 0 0], .bool false, .int .i64 q]) ∧ Below W.heap.size W w') :
    Calls Try.prog 4 #[sv, rv] w fun e w' => e = .returned (.bool true) ∧ Below w.heap.size w w' := by
  subst hsv hrv
  have hq' : (q != 0) = true := by simpa using hq
  obtain ⟨blk0, blk1⟩ := alloc2 w (.cells #[.int .i64 B, .int .i64 K, .slice ra m rc] 24) (.cells #[h0, d0] 29)
  have hB : Below w.heap.size w ((w.alloc (.cells #[.int .i64 B, .int .i64 K, .slice ra m rc] 24)).alloc (.cells #[h0, d0] 29)) := ((Below.refl _ _).alloc (Nat.le_refl _) _).alloc (by simp) _
  have x0 := cell_blk blk0 0
  have x1 := cell_blk blk0 1
  have x2 := cell_blk blk0 2
  have y0 := cell_blk blk1 0
  have y1 := cell_blk blk1 1
  simp at x0 x1 x2 y0 y1
  replace hA := hA _ hB
  clear hq blk0 blk1
  go_enter Try.func4, Try.ntmps4
  go_wp2_with fail
  refine hA.mono ?_
  rintro e w1 ⟨rfl, hb1⟩
  have hb2 : Below w.heap.size w (w1.alloc (.cells #[.int .i64 0, .int .i64 0, .slice none 0 0] 24)) := (hB.trans (hb1.mono hB.size)).alloc (hB.trans (hb1.mono hB.size)).size _
  clear hA hb1 hB x0 x1 x2 y0 y1
  go_wp2_with fail
  refine (solved_any _).mono ?_
  rintro e w3 ⟨rfl, hb3⟩
  replace hb2 := hb2.trans (hb3.mono hb2.size)
  clear hb3
  go_wp2_with fail
  refine (solved_any _).mono ?_
  rintro e w4 ⟨rfl, hb3⟩
  replace hb2 := hb2.trans (hb3.mono hb2.size)
  clear hb3
  go_wp2
  go_ret
  exact ⟨rfl, hb2⟩

/-- what is told of a row that is added: the same each time -/
theorem addS_some (n k m m' : Nat) (a : Option Addr) (c : Nat) (rows : List MRow) (A P : List LRow) (r : MRow) (bb : Bool) (w : World) (hl : Lies w a (rowCells rows)) (hall : ∀ x ∈ rows, RowIn w x) (hr : RowIn w r) (hmm : rows.length = m) (hAA : rows.map MRow.says = A) (hR : Right n k A) (hfr : Fits n k r.says) (hP : addL A r.says = some P) (hm' : P.length = m') (hbb : decide (P.length = A.length + 1) = bb) :
    Calls Try.prog 6 #[.agg #[.int .i64 n, .int .i64 k, .slice a m c], .agg #[r.hv, r.dv]] w fun e w' =>
      ∃ (a' : Option Addr) (c' : Nat) (rows' : List MRow), e = .returned (.tuple #[.agg #[.int .i64 n, .int .i64 k, .slice a' m' c'], .bool bb, .int .i64 0]) ∧ Lies w' a' (rowCells rows') ∧ (∀ r ∈ rows', RowIn w' r ∧ r.h.length ≤ r.hc) ∧ rows'.map MRow.says = P ∧ rows'.length = m' ∧ Below w.heap.size w w' := by
  refine (addS_right n k m a c rows A r _ w hl hall hr hmm hAA rfl hR hfr).mono ?_
  rintro e w' ⟨hb1, ⟨h0, _⟩ | ⟨P', a', c', rows', h1, rfl, h3, h4, h5, h6⟩⟩
  · rw [hP] at h0; cases h0
  · rw [hP] at h1
    cases h1
    have hlen : rows'.length = m' := by rw [← hm', ← h5]; simp
    exact ⟨a', c', rows', by rw [hlen, hbb], h3, h4, h5, hlen, hb1⟩

set_option maxHeartbeats 2000000 in
set_option maxRecDepth 8000 in
theorem keeps_good (n k m m' : Nat) (ra : Option Addr) (rc : Nat) (rows : List MRow) (A P : List LRow) (r : MRow) (w : World) (hl : Lies w ra (rowCells rows)) (hall : ∀ x ∈ rows, RowIn w x) (hcap : ∀ x ∈ rows, x.h.length ≤ x.hc) (hr : RowIn w r) (hmm : rows.length = m) (hAA : rows.map MRow.says = A) (hR : Right n k A) (hfr : Fits n k r.says) (hP : addL A r.says = some P) (hm' : P.length = m') :
    Calls Try.prog 4 #[.agg #[.int .i64 n, .int .i64 k, .slice ra m rc], .agg #[r.hv, r.dv]] w fun e w' => e = .returned (.bool true) ∧ Below w.heap.size w w' := by
  obtain ⟨blk0, blk1⟩ := alloc2 w (.cells #[.int .i64 n, .int .i64 k, .slice ra m rc] 24) (.cells #[r.hv, r.dv] 29)
  obtain ⟨W, hW⟩ : ∃ W, (w.alloc (.cells #[.int .i64 n, .int .i64 k, .slice ra m rc] 24)).alloc (.cells #[r.hv, r.dv] 29) = W := ⟨_, rfl⟩
  have hB : Below w.heap.size w W := by rw [← hW]; exact ((Below.refl _ _).alloc (Nat.le_refl _) _).alloc (by simp) _
  rw [hW] at blk0 blk1
  have x0 := cell_blk blk0 0
  have x1 := cell_blk blk0 1
  have x2 := cell_blk blk0 2
  have y0 := cell_blk blk1 0
  have y1 := cell_blk blk1 1
  simp at x0 x1 x2 y0 y1
  obtain ⟨p1', p2'⟩ := addL_right hR hfr hP
  have hAl : A.length = m := by rw [← hAA]; simpa using hmm
  have hmn : m ≤ 24 := by have := hR.few; have := hR.n2; omega
  have hmn' : m' ≤ 24 := by have := p1'.few; have := p1'.n2; omega
  obtain ⟨bb, hbb⟩ : ∃ bb, decide (P.length = A.length + 1) = bb := ⟨_, rfl⟩
  have hA1 := addS_some n k m m' ra rc rows A P r bb W (hl.below hB (Nat.le_refl _)) (fun x hx => (hall x hx).below hB) (hr.below hB) hmm hAA hR hfr hP hm' hbb
  have HX := Shut.mk (And.intro hl (And.intro hall (And.intro hcap (And.intro hr (And.intro hmm hAA)))))
  have HR := Shut.mk (And.intro hR (And.intro hfr (And.intro hP (And.intro hm' (And.intro hbb (And.intro p1' hAl))))))
  have HBX := Shut.mk (And.intro blk0 blk1)
  have HB := Shut.mk hB
  have HW := Shut.mk hW
  rw [← hW] at x0 x1 x2 y0 y1
  clear hl hall hcap hr hmm hAA hR hfr hP hm' hbb p1' p2' hAl blk0 blk1 hB hW
  go_enter Try.func4, Try.ntmps4
  obtain ⟨rha, rhc, rh, rda, rdc, rd⟩ := r
  simp only [MRow.hv, MRow.dv] at *
  go_wp2_with fail
  rw [HW.out]
  refine hA1.mono ?_
  rintro e w1 ⟨a1, c1, rows1, rfl, l1, h1, s1, e1, d1⟩
  have HS : Shut (SysBox (w1.alloc (.cells #[.int .i64 n, .int .i64 k, .slice a1 m' c1] 24)) w1.heap.size n k a1 m' c1 rows1 P) := ⟨by
    have bd : Below w1.heap.size w1 (w1.alloc (.cells #[.int .i64 n, .int .i64 k, .slice a1 m' c1] 24)) := (Below.refl _ _).alloc (Nat.le_refl _) _
    exact ⟨by rw [heap_alloc_eq, if_pos rfl], l1.below bd (Nat.le_refl _), fun r hr => ⟨(h1 r hr).1.below bd, (h1 r hr).2⟩, s1⟩⟩
  have hb2 : Below W.heap.size W (w1.alloc (.cells #[.int .i64 n, .int .i64 k, .slice a1 m' c1] 24)) := d1.alloc d1.size _
  have E1 := Shut.mk e1
  clear hA1 l1 h1 s1 d1 x0 x1 x2 y0 y1 HW e1
  go_upto_region 2 with fail
  generalize w1.alloc (.cells #[.int .i64 n, .int .i64 k, .slice a1 m' c1] 24) = w2 at *
  generalize w1.heap.size = b1 at *
  go_wp2_with fail
  refine (solved_any _).mono ?_
  rintro e w3 ⟨rfl, hb3⟩
  replace HS := Shut.mk (HS.out.below hb3)
  replace hb2 := hb2.trans (hb3.mono hb2.size)
  clear hb3
  obtain ⟨x0, x1, x2, _⟩ := HS.out.cells
  have bR := blk_below HBX.out.2 hb2
  have y0 := cell_blk bR 0
  have y1 := cell_blk bR 1
  simp at y0 y1
  have hbw := HB.out.trans (hb2.mono HB.out.size)
  have hA2 := addS_some n k m' m' a1 c1 rows1 P P ⟨rha, rhc, rh, rda, rdc, rd⟩ false w3 HS.out.2.1 (fun r hr => (HS.out.2.2.1 r hr).1) (HX.out.2.2.2.1.below hbw) E1.out HS.out.2.2.2 HR.out.2.2.2.2.2.1 HR.out.2.1 (addL_again HR.out.1 HR.out.2.1 HR.out.2.2.1) HR.out.2.2.2.1 (decide_eq_false (by omega))
  simp only [MRow.hv, MRow.dv] at hA2
  clear bR hbw
  go_wp2_with fail
  refine hA2.mono ?_
  rintro e w4 ⟨a2, c2, rows2, rfl, l2, h2, s2, e2, d2⟩
  have HS2 : Shut (SysBox (w4.alloc (.cells #[.int .i64 n, .int .i64 k, .slice a2 m' c2] 24)) w4.heap.size n k a2 m' c2 rows2 P) := ⟨by
    have bd : Below w4.heap.size w4 (w4.alloc (.cells #[.int .i64 n, .int .i64 k, .slice a2 m' c2] 24)) := (Below.refl _ _).alloc (Nat.le_refl _) _
    exact ⟨by rw [heap_alloc_eq, if_pos rfl], l2.below bd (Nat.le_refl _), fun r hr => ⟨(h2 r hr).1.below bd, (h2 r hr).2⟩, s2⟩⟩
  have d3 : Below w3.heap.size w3 (w4.alloc (.cells #[.int .i64 n, .int .i64 k, .slice a2 m' c2] 24)) := d2.alloc d2.size _
  replace HS := Shut.mk (HS.out.below d3)
  replace hb2 := hb2.trans (d3.mono hb2.size)
  have E2 := Shut.mk e2
  clear hA2 l2 h2 s2 d2 d3 x0 x1 x2 y0 y1 e2
  go_upto_region 5 with fail
  generalize w4.alloc (.cells #[.int .i64 n, .int .i64 k, .slice a2 m' c2] 24) = w5 at *
  generalize w4.heap.size = b2 at *
  have hlen := addL_len HR.out.2.2.1
  rw [HR.out.2.2.2.1, HR.out.2.2.2.2.2.2] at hlen
  have ebb : decide (m' = m + 1) = bb := by have := HR.out.2.2.2.2.1; rwa [HR.out.2.2.2.1, HR.out.2.2.2.2.2.2] at this
  have e3 : ((m' : Int) == (m : Int) + 1) = bb := by
    rw [← ebb, Bool.eq_iff_iff]
    simp
    omega
  have HPA : Shut (bb = false → P = A) := ⟨fun e => by
    rw [e] at ebb
    have := of_decide_eq_false ebb
    rcases hlen with h | h
    · exact h.2.2
    · omega⟩
  clear hlen ebb
  obtain ⟨x0, x1, x2, _⟩ := HS.out.cells
  obtain ⟨z0, z1, z2, _⟩ := HS2.out.cells
  have sIn1 : SysIn w5 ⟨n, k, a1, c1, rows1⟩ := ⟨HS.out.2.1, fun r hr => (HS.out.2.2.1 r hr).1, by rw [E1.out]; unfold maxLen; omega⟩
  have sIn2 : SysIn w5 ⟨n, k, a2, c2, rows2⟩ := ⟨HS2.out.2.1, fun r hr => (HS2.out.2.2.1 r hr).1, by rw [E2.out]; unfold maxLen; omega⟩
  have hSm := sysSame_any ⟨n, k, a1, c1, rows1⟩ ⟨n, k, a2, c2, rows2⟩ w5 sIn1 sIn2
  simp only [E1.out, E2.out, HS.out.2.2.2, HS2.out.2.2.2, and_self, decide_true] at hSm
  clear sIn1 sIn2
  go_wp2_with fail
  refine hSm.mono ?_
  rintro e w6 ⟨rfl, d6⟩
  replace HS := Shut.mk (HS.out.below d6)
  replace hb2 := hb2.trans (d6.mono hb2.size)
  clear hSm d6 x0 x1 x2 z0 z1 z2 HS2
  obtain ⟨x0, x1, x2, _⟩ := HS.out.cells
  have sIn1 : SysIn w6 ⟨n, k, a1, c1, rows1⟩ := ⟨HS.out.2.1, fun r hr => (HS.out.2.2.1 r hr).1, by rw [E1.out]; unfold maxLen; omega⟩
  have hCk := checkS_any ⟨n, k, a1, c1, rows1⟩ w6 sIn1
  simp only [E1.out, HS.out.2.2.2] at hCk
  rw [chk_of_right HR.out.2.2.2.2.2.1] at hCk
  clear sIn1
  go_wp2_with fail
  refine hCk.mono ?_
  rintro e w7 ⟨rfl, d7⟩
  replace HS := Shut.mk (HS.out.below d7)
  replace hb2 := hb2.trans (d7.mono hb2.size)
  clear hCk d7 x0 x1 x2
  obtain ⟨x0, x1, x2, _⟩ := HS.out.cells
  have bS := blk_below HBX.out.1 hb2
  have s0 := cell_blk bS 0
  have s1 := cell_blk bS 1
  have s2 := cell_blk bS 2
  simp at s0 s1 s2
  have hbw := HB.out.trans (hb2.mono HB.out.size)
  have hKn : ∀ W, Below w.heap.size w W → Calls Try.prog 7 #[.agg #[.int .i64 n, .int .i64 k, .slice ra m rc]] W fun e w' => KnAns W w' n A e := fun W hW => knownS_right n k m ra rc rows A W (HX.out.1.below hW (Nat.le_refl _)) (fun x hx => (HX.out.2.1 x hx).below hW) HX.out.2.2.1 HX.out.2.2.2.2.1 HX.out.2.2.2.2.2 HR.out.1
  have HS0 : Shut (SysIn w7 ⟨n, k, ra, rc, rows⟩) := ⟨⟨HX.out.1.below hbw (Nat.le_refl _), fun x hx => (HX.out.2.1 x hx).below hbw, by rw [HX.out.2.2.2.2.1]; unfold maxLen; omega⟩⟩
  cases bb
  case' true =>
    have hK1 := hKn w7 hbw
    clear hKn HS0
    go_wp2_with fail
  case' false =>
    have hPA := HPA.out rfl
    have sIn1 : SysIn w7 ⟨n, k, a1, c1, rows1⟩ := ⟨HS.out.2.1, fun r hr => (HS.out.2.2.1 r hr).1, by rw [E1.out]; unfold maxLen; omega⟩
    have hSm := sysSame_any ⟨n, k, a1, c1, rows1⟩ ⟨n, k, ra, rc, rows⟩ w7 sIn1 HS0.out
    simp only [E1.out, HS.out.2.2.2, HX.out.2.2.2.2.1, HX.out.2.2.2.2.2, hPA, and_self, decide_true] at hSm
    clear sIn1 hPA HS0
    go_wp2_with fail
    refine hSm.mono ?_
    rintro e w8 ⟨rfl, d8⟩
    replace HS := Shut.mk (HS.out.below d8)
    replace hb2 := hb2.trans (d8.mono hb2.size)
    replace hbw := HB.out.trans (hb2.mono HB.out.size)
    replace s0 := cellC s0 d8
    replace s1 := cellC s1 d8
    replace s2 := cellC s2 d8
    have hK1 := hKn w8 hbw
    clear hSm d8 x0 x1 x2 hKn bS
    obtain ⟨w7, rfl⟩ : ∃ w7, w8 = w7 := ⟨_, rfl⟩
    go_wp2_with fail
  all_goals
    refine hK1.mono ?_
    rintro e w9 ⟨g, bl, rfl, hl9, hin9, hnil9, hkn9, d9⟩
    replace HS := Shut.mk (HS.out.below d9)
    replace hbw := hbw.trans (d9.mono hbw.size)
    have hK2 := knownS_right n k m' a1 c1 rows1 P w9 HS.out.2.1 (fun r hr => (HS.out.2.2.1 r hr).1) (fun r hr => (HS.out.2.2.1 r hr).2) E1.out HS.out.2.2.2 HR.out.2.2.2.2.2.1
    clear hK1 s0 s1 s2 d9
    obtain ⟨x0, x1, x2, _⟩ := HS.out.cells
    have HK9 := Shut.mk (And.intro hl9 (And.intro hin9 (And.intro hnil9 hkn9)))
    clear hl9 hin9 hnil9 hkn9 hb2
    go_wp2_with fail
    refine hK2.mono ?_
    rintro e w10 ⟨g', bl', rfl, hl10, hin10, hnil10, hkn10, d10⟩
    replace hbw := hbw.trans (d10.mono hbw.size)
    have HK10 : Shut (bl.length = n ∧ bl'.length = n ∧ Lies w10 (some ⟨g, 0, none⟩) (bl.map Blk.val) ∧ Lies w10 (some ⟨g', 0, none⟩) (bl'.map Blk.val) ∧ AllIn w10 bl ∧ AllIn w10 bl' ∧ (∀ b ∈ bl, b.l = [] → b = nilB) ∧ ∀ j (hj : j < bl.length) (hj' : j < bl'.length), bl[j].l = [] ∨ bl[j].l = bl'[j].l) := ⟨by
      have e1 : bl.length = n := by have := congrArg List.length HK9.out.2.2.2; rw [knownL_length] at this; simpa using this
      have e2 : bl'.length = n := by have := congrArg List.length hkn10; rw [knownL_length] at this; simpa using this
      refine ⟨e1, e2, HK9.out.1.below d10 (Nat.le_refl _), hl10, HK9.out.2.1.below d10, hin10, fun b hb => (HK9.out.2.2.1 b hb).2, ?_⟩
      intro j hj hj'
      have hk := known_keeps HR.out.1 HR.out.2.1 HR.out.2.2.1 (j := j) (by omega)
      rw [← HK9.out.2.2.2, ← hkn10] at hk
      simp only [List.getElem?_map, List.getElem?_eq_getElem hj, List.getElem?_eq_getElem hj', Option.map_some, Option.some.injEq] at hk
      rcases hk with h | h
      · exact .inl h
      · exact .inr h.symm⟩
    have hn24 : n ≤ 24 := HR.out.1.n2
    clear hK2 x0 x1 x2 HS HK9 hl10 hin10 hnil10 hkn10 d10
    go_wp2
    go_loopw [92] (fun v wr => ∃ q : Nat, q ≤ n ∧ v = .int .i64 q ∧ Below w10.heap.size w10 wr) (fun v _ => n - (intOf v).toNat)
    case atStart => exact ⟨0, Nat.zero_le _, rfl, Below.refl _ _⟩
    case round =>
      obtain ⟨q, hq, rfl, hbr⟩ := hrel
      by_cases hlt : q < n
      · obtain ⟨e1, e2, l1, l2, i1, i2, hn, hv⟩ := HK10.out
        have hq1 : q < bl.length := by omega
        have hq2 : q < bl'.length := by omega
        have c1 := (l1.below hbr (Nat.le_refl _)).at (k := q) (u := bl[q].val) (by simp [hq1])
        have c2 := (l2.below hbr (Nat.le_refl _)).at (k := q) (u := bl'[q].val) (by simp [hq2])
        simp only [Nat.zero_add] at c1 c2
        have v1 := i1.below hbr bl[q] (List.getElem_mem hq1)
        have v2 := i2.below hbr bl'[q] (List.getElem_mem hq2)
        have hx := hv q hq1 hq2
        have hnq := hn bl[q] (List.getElem_mem hq1)
        clear e1 e2 l1 l2 i1 i2 hn hv
        generalize bl[q]'hq1 = X at *
        generalize bl'[q]'hq2 = Y at *
        by_cases hX : X.l = []
        · have hXn := hnq hX
          subst hXn
          simp only [Blk.val, nilB, List.length_nil] at c1
          clear hX hnq hx v1 v2 c2 hq1 hq2
          have hne := run_neq_slice_nil_any (P := Try.prog) wr 27 5 none 0 0 0 0 Try.underlying27
          go_wp2
          go_roundw
          case rel => exact ⟨q + 1, by omega, by go_num, hbr⟩
          case measure => simp [intOf]; omega
        · have hXY : X.l = Y.l := by
            rcases hx with h | h
            · exact absurd h hX
            · exact h
          have hXp : 0 < X.l.length := List.length_pos_iff.2 hX
          obtain ⟨xb, xo, hxa⟩ := v1.1.some (k := 0) (by simpa [bs] using hXp)
          have hE := equalBlock (w := wr) X.a Y.a X.cap Y.cap X.l Y.l v1.2 v2.2 v1.1 v2.1
          rw [decide_eq_true hXY] at hE
          simp only [Blk.val] at c1 c2
          obtain ⟨Xa, Xc, Xl⟩ := X
          obtain ⟨Ya, Yc, Yl⟩ := Y
          simp only at *
          subst hxa
          clear hX hnq hx hXY v1 v2 hq1 hq2 hXp
          have hne := run_neq_slice_nil_any (P := Try.prog) wr 27 5 (some ⟨xb, xo, none⟩) Xl.length Xc 0 0 Try.underlying27
          go_wp2_with fail
          refine hE.mono ?_
          rintro e w11 ⟨rfl, n11, rfl⟩
          replace hbr := hbr.trans ((bdn wr n11 _).mono hbr.size)
          clear hE c1 c2 hne
          generalize wr.drewN n11 = w12 at *
          go_wp2
          go_roundw
          case rel => exact ⟨q + 1, by omega, by go_num, hbr⟩
          case measure => simp [intOf]; omega
      · clear HK10
        go_wp2
        go_ret
        exact ⟨rfl, hbw.trans (hbr.mono hbw.size)⟩

/-- SolveKeeps: true of all systems and rows -/
theorem solveKeeps_walk (s : MSys) (r : MRow) (w : World) (hs : SysIn w s) (hcap : ∀ x ∈ s.rows, x.h.length ≤ x.hc) (hr : RowIn w r) :
    Calls Try.prog 4 #[.agg #[.int .i64 s.B, .int .i64 s.K, .slice s.ra s.rows.length s.rc], .agg #[r.hv, r.dv]] w fun e w' => e = .returned (.bool true) ∧ Below w.heap.size w w' := by
  by_cases hc : chkSys s.B s.K (s.rows.map MRow.says) = 0
  · by_cases hf : (r.h.length : Int) = s.B ∧ (r.d.length : Int) = s.K
    · obtain ⟨n, k, hn, hk, hR⟩ := right_of_chk hc
      obtain ⟨B, K, ra, rc, rows⟩ := s
      simp only at *
      subst hn hk
      have hfit : Fits n k r.says := ⟨by show r.h.length = n; omega, by show r.d.length = k; omega⟩
      cases hP : addL (rows.map MRow.says) r.says with
      | none =>
        refine keeps_bad _ _ n k ra rows.length rc r.hv r.dv 9 w (by decide) rfl rfl fun W hW => ?_
        refine (addS_good n k ra rc rows r W (hs.1.below hW (Nat.le_refl _)) (fun x hx => (hs.2.1 x hx).below hW) (hr.below hW) hR hfit).mono ?_
        rintro e w' ⟨hb, ⟨_, rfl⟩ | ⟨P', a', c', rows', h1, _⟩⟩
        · exact ⟨rfl, hb⟩
        · rw [hP] at h1; cases h1
      | some P => exact keeps_good n k rows.length P.length ra rc rows _ P r w hs.1 hs.2.1 hcap hr rfl rfl hR hfit hP rfl
    · exact keeps_bad _ _ s.B s.K s.ra s.rows.length s.rc r.hv r.dv 4 w (by decide) rfl rfl fun W hW => addS_form s r W (hs.below hW) (hr.below hW) hc hf
  · exact keeps_bad _ _ s.B s.K s.ra s.rows.length s.rc r.hv r.dv _ w hc rfl rfl fun W hW => addS_chk s r W (hs.below hW) (hr.below hW) hc

end Go.Proofs.Ytclbmfjincekfab
