/-
  bottlepostref.Peeled of a right plan and few enough symbols.
-/
import Derived.Test.YtkiejflgphjfjacDoorPart27
namespace Go.Proofs.YtkiejflgphjfjacDoor
open Go.RowKit
set_option linter.unusedVariables false
set_option linter.unusedSimpArgs false

/-- the state ahead of a round -/
def PoSt (w wr : World) (vb kb ub nb k : Nat) (A : List LRow) (more : Bool) (F : Kn) : Prop :=
  ∃ (bl : List Blk) (K : Kn) (U : List Bool), PdSt w wr vb kb ub nb k bl K U ∧ U.length = A.length ∧ (if more = true then peelL nb k (leftU A U) K else K) = F

/-- the state within it -/
def PiSt (w wr : World) (vb kb ub nb k : Nat) (A : List LRow) (U0 : List Bool) (K0 : Kn) (q : Nat) (more : Bool) : Prop :=
  ∃ (bl : List Blk) (U : List Bool) (s : PSt), PdSt w wr vb kb ub nb k bl s.2.1 U ∧ RU nb k A U0 K0 U q s ∧ more = s.2.2

theorem PdSt.start {w w3 : World} (nb k m : Nat) (hb : Below w.heap.size w w3) : PdSt w (((w3.alloc (.cells (madeCells #[Value.slice none 0 0] nb) 36)).alloc (.cells #[.slice (some ⟨w3.heap.size, 0, none⟩) nb nb] 48)).alloc (.cells (madeCells #[Value.bool false] m) 4)) (w3.heap.size + 1) w3.heap.size (w3.heap.size + 2) nb k (List.replicate nb nilB) (noneK nb) (List.replicate m false) := by
  have bd1 : Below (w3.alloc (.cells (madeCells #[Value.slice none 0 0] nb) 36)).heap.size (w3.alloc (.cells (madeCells #[Value.slice none 0 0] nb) 36)) (((w3.alloc (.cells (madeCells #[Value.slice none 0 0] nb) 36)).alloc (.cells #[.slice (some ⟨w3.heap.size, 0, none⟩) nb nb] 48)).alloc (.cells (madeCells #[Value.bool false] m) 4)) := ((Below.refl _ _).alloc (Nat.le_refl _) _).alloc (by simp) _
  have hs := hb.size
  refine ⟨(KnAt.start w3 nb k).below bd1, ?_, ?_, ((hb.alloc hs _).alloc (by simp; omega) _).alloc (by simp; omega) _, hs, by omega, by omega⟩
  · simp only [heap_alloc_eq, size_alloc_eq]
    rw [if_neg (by omega), if_pos (by first | omega | trivial)]
  · obtain ⟨c, hc, hsz, hv⟩ := World.rowIs_made ((w3.alloc (.cells (madeCells #[Value.slice none 0 0] nb) 36)).alloc (.cells #[.slice (some ⟨w3.heap.size, 0, none⟩) nb nb] 48)) (.bool false) m 4
    simp only [size_alloc_eq] at hc
    rw [hc]
    congr 2
    apply Array.ext
    · simp [hsz]
    · intro i h1 h2
      have := hv i (by omega)
      rw [Array.getElem?_eq_getElem h1] at this
      simp [Option.some.inj this]

theorem ints_offB {w : World} {b o ub : Nat} {N : List Nat} {U : List Bool} {t : TypeId} {f : Nat × Nat} (h : Lies w (some ⟨b, o, none⟩) (is (nats N))) (h0 : 0 < N.length) (hu : w.heap[ub]? = some (.cells (U.map Value.bool).toArray t f)) : b ≠ ub := by
  intro e
  subst e
  have h1 := h.at (k := 0) (u := .int .i64 (N[0] : Int)) (by simp [is, nats, h0])
  rw [cell_blk hu] at h1
  simp at h1

/-- the blocks of a sum: those but one -/
def sB (N : List Nat) (x : Nat) (bl : List Blk) (t : Nat) : List Blk := ((N.take t).filter fun y => decide (y ≠ x)).map fun j => bl.getD j nilB

theorem sB_succ {N : List Nat} {x t : Nat} {bl : List Blk} (ht : t < N.length) : sB N x bl (t + 1) = if N[t] = x then sB N x bl t else sB N x bl t ++ [bl.getD N[t] nilB] := by
  unfold sB
  rw [take_snoc ht, List.filter_append, List.map_append]
  by_cases e : N[t] = x
  · rw [if_pos e]; simp [e]
  · rw [if_neg e]; simp [e]

theorem sB_len (N : List Nat) (x : Nat) (bl : List Blk) (t : Nat) : (sB N x bl t).length ≤ t := by
  unfold sB
  rw [List.length_map]
  have := List.length_filter_le (fun y => decide (y ≠ x)) (N.take t)
  have h2 : (N.take t).length ≤ t := by rw [List.length_take]; omega
  omega

set_option maxRecDepth 8000 in
set_option maxHeartbeats 8000000 in
theorem peeledR_good (B K : Int) (n k nb m : Nat) (la : Option Addr) (lc : Nat) (l : List MSym) (ls : List LSym) (w : World) (g : Good B K n k nb) (hB : I64 B) (hK : I64 K) (hl : Lies w la (symCells l)) (hall : ∀ y ∈ l, SymIn w y) (hm : l.length = m) (h60 : m ≤ 60) (hls : l.map MSym.says = ls) :
    Calls Tryd.prog 29 #[.agg #[.int .i64 B, .int .i64 K], .slice la m lc] w fun e w' =>
      ((chkAll B K ls ≠ 0 ∧ e = .returned (.tuple #[.slice none 0 0, .int .i64 (chkAll B K ls)])) ∨
        ∃ (kb : Nat) (bl : List Blk), e = .returned (.tuple #[.slice (some ⟨kb, 0, none⟩) nb nb, .int .i64 0]) ∧ Shut (chkAll B K ls = 0 ∧ KnAt w' kb nb k bl (peeRes nb k ls))) ∧ Below w.heap.size w w' := by
  have b1 := g.b1
  have b2 := g.b2
  have k1 := g.k1
  have k2 := g.k2
  have hBl : Below w.heap.size w (w.alloc (.cells #[.int .i64 B, .int .i64 K] 23)) := (Below.refl _ _).alloc (Nat.le_refl _) _
  have HPB : Shut ((w.alloc (.cells #[.int .i64 B, .int .i64 K] 23)).heap[w.heap.size]? = some (.cells #[.int .i64 B, .int .i64 K] 23 (0, 0))) := ⟨by rw [heap_alloc_eq, if_pos rfl]⟩
  obtain ⟨x0, x1⟩ := cells2 HPB.out
  have hC := checkPlan_any B K (w.alloc (.cells #[.int .i64 B, .int .i64 K] 23)) hB hK
  rw [chkP_good g] at hC
  have hBk : ∀ W, Calls Tryd.prog 36 #[.agg #[.int .i64 B, .int .i64 K]] W fun e w' => e = .returned (.int .i64 nb) ∧ Below W.heap.size W w' := fun W => by
    have h := refBlocks_any B K W hB hK
    rw [g.eN] at h
    exact h
  have hmk := run_make_row' (P := Tryd.prog) 48 36 (.slice none 0 0) 24 Tryd.underlying48 infoBlk rfl .i64 .i64 nb (by omega) (by omega)
  have hmk2 := run_make_row' (P := Tryd.prog) 56 4 (.bool false) 1 Tryd.underlying56 infoBool rfl .i64 .i64 m (by omega) (by omega)
  have h60n : ¬ 60 < m := by omega
  have HLS : Shut (ls.length = m) := ⟨by rw [← hls]; simpa using hm⟩
  have HG := Shut.mk g
  have HX := Shut.mk (And.intro hl (And.intro hall (And.intro hm hls)))
  clear hl hall hm hls g
  go_enter Tryd.func29, Tryd.ntmps29
  go_wp2_with fail
  refine hC.mono ?_
  rintro e w1 ⟨rfl, hb⟩
  replace HPB := Shut.mk (blk_below HPB.out hb)
  have hb1 := hBl.trans (hb.mono hBl.size)
  clear hC hb x0 x1 hBl
  go_wp2
  go_loopw [31] (fun i wr => ∃ q : Nat, q ≤ m ∧ i = .int .i64 q ∧ Shut (Below w1.heap.size w1 wr ∧ chkAll B K (ls.drop q) = chkAll B K ls ∧ ∀ y ∈ ls.take q, chkS B K y.1 y.2.length = 0)) (fun i _ => m - (intOf i).toNat)
  case atStart => exact ⟨0, Nat.zero_le _, rfl, ⟨Below.refl _ _, rfl, fun y hy => by simp at hy⟩⟩
  case round =>
    obtain ⟨q, hq, rfl, HI⟩ := hrel
    have hbr := HI.out.1
    have hbw := hb1.trans (hbr.mono hb1.size)
    by_cases hlt : q < m
    · have hql : q < l.length := by rw [HX.out.2.2.1]; exact hlt
      have hlw := HX.out.1.below hbw (Nat.le_refl _)
      obtain ⟨ab, ao, haa⟩ := hlw.some (k := 2 * q) (by rw [symCells_length]; omega)
      rw [haa] at hlw
      obtain ⟨a0, a1⟩ := sym_at hlw hql
      have hY0 := HX.out.2.1 _ (List.getElem_mem hql)
      have HDR : Shut (ls.drop q = l[q].says :: ls.drop (q + 1) ∧ ls.take (q + 1) = ls.take q ++ [l[q].says]) := ⟨by
        have e : ls[q]? = some l[q].says := by rw [← HX.out.2.2.2]; simp [hql]
        have hlt2 : q < ls.length := (List.getElem?_eq_some_iff.1 e).1
        refine ⟨?_, by rw [List.take_add_one, e]; rfl⟩
        rw [List.drop_eq_getElem_cons hlt2]
        rw [List.getElem?_eq_getElem hlt2] at e
        rw [Option.some.inj e]⟩
      generalize l[q]'hql = Y at *
      have bd : Below wr.heap.size wr (wr.alloc (.cells #[.int .i64 Y.id, Y.dv] 39)) := (Below.refl _ _).alloc (Nat.le_refl _) _
      obtain ⟨v0, v1⟩ := Box2.mk wr (.int .i64 Y.id) Y.dv 39
      have hb15 := hbr.trans (bd.mono hbr.size)
      obtain ⟨p0, p1⟩ := cells2 (blk_below HPB.out hb15)
      have HB5 := Shut.mk hb15
      obtain ⟨W5, hW5⟩ : ∃ W5, wr.alloc (.cells #[.int .i64 Y.id, Y.dv] 39) = W5 := ⟨_, rfl⟩
      rw [hW5] at HB5
      have HW5 := Shut.mk hW5
      clear hlw hW5 bd hb15 hbr
      obtain ⟨yid, ya, yc, yd⟩ := Y
      simp only [MSym.dv] at *
      subst haa
      have hyl : yd.length ≤ maxLen := hY0.2
      have hCS := checkSymbol_any B K yid ya yd.length yc W5 hB hK hyl
      obtain ⟨qc, hqc⟩ : ∃ qc, chkS B K yid yd.length = qc := ⟨_, rfl⟩
      have HQC := Shut.mk hqc
      rw [hqc] at hCS
      by_cases hck : qc = 0
      · subst hck
        clear hqc hyl hY0
        go_wp2_with fail
        rw [HW5.out]
        refine hCS.mono ?_
        rintro e w6 ⟨rfl, hb6⟩
        have R : Shut (Below w1.heap.size w1 w6 ∧ chkAll B K (ls.drop (q + 1)) = chkAll B K ls ∧ ∀ y ∈ ls.take (q + 1), chkS B K y.1 y.2.length = 0) := ⟨HB5.out.trans (hb6.mono HB5.out.size), by rw [chkAll_drop HDR.out.1 HQC.out]; exact HI.out.2.1, fun y hy => by
          rw [HDR.out.2] at hy
          rcases List.mem_append.1 hy with h | h
          · exact HI.out.2.2 y h
          · simp at h; subst h; exact HQC.out⟩
        clear hCS v0 v1 p0 p1 a0 a1 hb6 hbw HI
        go_wp2
        go_roundw
        case rel => exact ⟨q + 1, by omega, by go_num, R⟩
        case measure => simp [intOf]; omega
      · have hq1 : (qc != 0) = true := by simpa using hck
        have HCK : Shut (chkAll B K ls = qc ∧ qc ≠ 0) := ⟨by rw [← HI.out.2.1, HDR.out.1]; show chkAll B K ((yid, yd) :: _) = qc; rw [chkAll, if_pos (by rw [HQC.out]; exact hck)]; exact HQC.out, hck⟩
        clear hqc hyl hY0 hck
        go_wp2_with fail
        rw [HW5.out]
        refine hCS.mono ?_
        rintro e w6 ⟨rfl, hb6⟩
        have hF : Below w.heap.size w w6 := hb1.trans ((HB5.out.trans (hb6.mono HB5.out.size)).mono hb1.size)
        clear hCS v0 v1 p0 p1 a0 a1 hb6 hbw HI
        go_wp2
        go_ret2
        exact ⟨.inl ⟨by rw [HCK.out.1]; exact HCK.out.2, by rw [HCK.out.1]; rfl⟩, hF⟩
    · obtain rfl : q = m := by omega
      have HC0 : Shut (chkAll B K ls = 0 ∧ ∀ y ∈ ls, chkS B K y.1 y.2.length = 0) := ⟨by
        have h1 := HI.out.2.1
        have h2 := HI.out.2.2
        rw [List.drop_of_length_le (by rw [HLS.out]; exact Nat.le_refl _)] at h1
        rw [List.take_of_length_le (by rw [HLS.out]; exact Nat.le_refl _)] at h2
        exact ⟨h1.symm, h2⟩⟩
      obtain ⟨x0, x1⟩ := cells2 (blk_below HPB.out hbr)
      clear HI hbr HPB hb1
      go_wp2_with fail
      refine (hBk _).mono ?_
      rintro e w3 ⟨rfl, hb3⟩
      clear hBk x0 x1
      have hb13 := hbw.trans (hb3.mono hbw.size)
      clear hb3 hbw
      have hst := PdSt.start nb k q hb13
      have HP0 : Shut (PoSt w (((w3.alloc (.cells (madeCells #[Value.slice none 0 0] nb) 36)).alloc (.cells #[.slice (some ⟨w3.heap.size, 0, none⟩) nb nb] 48)).alloc (.cells (madeCells #[Value.bool false] q) 4)) (w3.heap.size + 1) w3.heap.size (w3.heap.size + 2) nb k (ls.map (rowOf nb)) true (peeRes nb k ls)) := ⟨_, _, _, hst, by simp [HLS.out], by
        rw [if_pos rfl]
        have e : leftU (ls.map (rowOf nb)) (List.replicate q false) = ls.map (rowOf nb) := by
          have := leftU_none (ls.map (rowOf nb))
          rwa [List.length_map, HLS.out] at this
        rw [e]
        rfl⟩
      clear hst
      go_wp2
      obtain ⟨kb, hkb⟩ : ∃ kb, w3.heap.size = kb := ⟨_, rfl⟩
      obtain ⟨W4, hW4⟩ : ∃ W4, ((w3.alloc (.cells (madeCells #[Value.slice none 0 0] nb) 36)).alloc (.cells #[.slice (some ⟨w3.heap.size, 0, none⟩) nb nb] 48)).alloc (.cells (madeCells #[Value.bool false] q) 4) = W4 := ⟨_, rfl⟩
      rw [hW4] at HP0 ⊢
      rw [hkb] at HP0 ⊢
      rw [show kb + 1 + 1 = kb + 2 from rfl]
      obtain ⟨vb, hvb⟩ : ∃ vb, kb + 1 = vb := ⟨_, rfl⟩
      obtain ⟨ub, hub⟩ : ∃ ub, kb + 2 = ub := ⟨_, rfl⟩
      rw [hvb, hub] at HP0 ⊢
      obtain ⟨A, hA⟩ : ∃ A, ls.map (rowOf nb) = A := ⟨_, rfl⟩
      have HA := Shut.mk hA
      have HAL : Shut (A.length = q) := ⟨by rw [← hA, List.length_map, HLS.out]⟩
      rw [hA] at HP0
      clear hW4 hkb hvb hub hb13 hmk hmk2 hA
      go_loopw [12] (fun b wr => ∃ more : Bool, b = .bool more ∧ Shut (PoSt w wr vb kb ub nb k A more (peeRes nb k ls))) (fun b wr => if isT b = true then unkW wr kb + 1 else 0)
      case atStart => exact ⟨true, rfl, HP0⟩
      case round =>
        clear HP0
        obtain ⟨more, rfl, HO⟩ := hrel
        obtain ⟨bl0, K0, U0, hP0, hU0, hF0⟩ := HO.out
        cases more
        · obtain ⟨v0, _, _⟩ := hP0.cells
          have R : Shut (KnAt wr kb nb k bl0 (peeRes nb k ls)) := ⟨by rw [← hF0, if_neg (by simp)]; exact hP0.1⟩
          have hF := hP0.2.2.2.1
          clear hP0 hU0 hF0 HO
          go_wp2
          go_ret2
          exact ⟨.inr ⟨kb, bl0, rfl, ⟨HC0.out.1, R.out⟩⟩, hF⟩
        · rw [if_pos rfl] at hF0
          have HQ0 : Shut (PiSt w wr vb kb ub nb k A U0 K0 0 false) := ⟨bl0, U0, ([], K0, false), hP0, RU.start hU0, rfl⟩
          have HUN : Shut (unkW wr kb = cntU K0 ∧ KOk nb k K0 ∧ peelL nb k (leftU A U0) K0 = peeRes nb k ls) := ⟨hP0.1.unk, hP0.1.2.2.2.2.2.1, hF0⟩
          obtain ⟨WO, rfl⟩ : ∃ WO, WO = wr := ⟨wr, rfl⟩
          clear hP0 hU0 hF0 HO
          go_wp2
          go_loopw [12, 51] (fun b i wr => ∃ (j : Nat) (more : Bool), j ≤ q ∧ i = .int .i64 j ∧ b = .bool more ∧ Shut (PiSt w wr vb kb ub nb k A U0 K0 j more)) (fun _ i _ => q - (intOf i).toNat)
          case atStart => exact ⟨0, false, Nat.zero_le _, rfl, rfl, HQ0⟩
          case round =>
            clear HQ0
            obtain ⟨j, more, hj, rfl, rfl, HI⟩ := hrel
            obtain ⟨bl, U, s, hP, hR, rfl⟩ := HI.out
            by_cases hlt : j < q
            · have hjA : j < A.length := by rw [HAL.out]; exact hlt
              have hjU : j < U.length := by rw [hR.len]; exact hjA
              have hbw := hP.2.2.2.1
              have hjl : j < l.length := by rw [HX.out.2.2.1]; exact hlt
              have hlw := HX.out.1.below hbw (Nat.le_refl _)
              obtain ⟨ab, ao, haa⟩ := hlw.some (k := 2 * j) (by rw [symCells_length]; omega)
              rw [haa] at hlw
              obtain ⟨a0, a1⟩ := sym_at hlw hjl
              have hY0 := HX.out.2.1 _ (List.getElem_mem hjl)
              have hlsj : ls[j]? = some l[j].says := by rw [← HX.out.2.2.2]; simp [hjl]
              have hAj : A[j] = rowOf nb l[j].says := by
                have e : A[j]? = some (rowOf nb l[j].says) := by rw [← HA.out, List.getElem?_map, hlsj]; rfl
                rw [List.getElem?_eq_getElem hjA] at e
                exact Option.some.inj e
              have hckj := HC0.out.2 _ (List.mem_of_getElem? hlsj)
              have bd : Below wr.heap.size wr (wr.alloc (.cells #[.int .i64 l[j].id, l[j].dv] 39)) := (Below.refl _ _).alloc (Nat.le_refl _) _
              have hYB : (wr.alloc (.cells #[.int .i64 l[j].id, l[j].dv] 39)).heap[wr.heap.size]? = some (.cells #[.int .i64 l[j].id, l[j].dv] 39 (0, 0)) := by rw [heap_alloc_eq, if_pos rfl]
              have hP5 := hP.below bd
              generalize l[j]'hjl = Y at *
              obtain ⟨yid, ya, yc, yd⟩ := Y
              simp only [MSym.says] at hckj hAj
              obtain ⟨i, hi, hi9, hdk⟩ := chkS_zero HG.out hckj
              subst hi
              have hAj2 : A[j] = (maskL nb i, yd) := by rw [hAj]; simp [rowOf]
              simp only [MSym.dv, hdk] at a0 a1 bd hYB hP5
              subst haa
              obtain ⟨u, hu⟩ : ∃ u, U[j] = u := ⟨_, rfl⟩
              have cU := hP5.cells.2.1 j hjU
              rw [hu] at cU
              go_upto_region 21 with fail
              obtain ⟨W5, hW5⟩ : ∃ W5, wr.alloc (.cells #[.int .i64 i, .slice ya k yc] 39) = W5 := ⟨_, rfl⟩
              obtain ⟨sb, hsb⟩ : ∃ sb, wr.heap.size = sb := ⟨_, rfl⟩
              rw [hW5] at hP5 hYB cU ⊢
              rw [hsb] at hYB ⊢
              have HSB : Shut (w.heap.size ≤ sb) := ⟨by rw [← hsb]; exact hbw.size⟩
              have HY := Shut.mk (And.intro hYB (And.intro hY0.1 hdk))
              have HP5 := Shut.mk hP5
              have HR := Shut.mk (And.intro hR (And.intro hjA (And.intro hu hAj2)))
              clear hP hP5 hYB hY0 hdk hR hu hAj hAj2 hckj hlsj hlw a0 a1 bd hW5 hsb hjl hbw HI
              cases u
              · obtain ⟨v0, _, _⟩ := HP5.out.cells
                obtain ⟨y0, y1⟩ := cells2 HY.out.1
                have hPk := picked_nats i nb W5 hi9 b1 b2
                go_wp2_with fail
                refine hPk.mono ?_
                rintro e w6 ⟨pa, pc, z, N, rfl, HN, hb6⟩
                have hz24 : z ≤ 24 := HN.out.2.1
                have hz0 : 0 < z := HN.out.2.2.1
                have hln : Lies w6 pa (is (nats N)) := HN.out.2.2.2.1
                obtain ⟨pb, po, hpa⟩ := hln.some (k := 0) (by simp [is, nats, HN.out.1, hz0])
                subst hpa
                have HP6 := Shut.mk (HP5.out.below hb6)
                replace HY := Shut.mk (And.intro (blk_below HY.out.1 hb6) HY.out.2)
                have hCl := cloneI_own pb po pc z N w6 HN.out.1 hz0 hz24 hln
                have HLN := Shut.mk (And.intro hln (And.intro HN.out.1 HN.out.2.2.2.2))
                clear hPk v0 y0 y1 hln hb6 HN HP5
                go_wp2_with fail
                refine hCl.mono ?_
                rintro e w7 ⟨g, cq, rfl, HCl⟩
                clear hCl
                have h67 := HCl.out.2.2.2.2.2
                have HP7 := Shut.mk (HP6.out.below h67)
                replace HY := Shut.mk (And.intro (blk_below HY.out.1 h67) HY.out.2)
                have hgw : w.heap.size ≤ g := Nat.le_trans HP6.out.2.2.2.1.size HCl.out.2.2.1
                have hDl := deleteKn vb g z cq N (knw s.2.1) w7 HLN.out.2.1 hz24 HCl.out.1 HCl.out.2.1 HCl.out.2.2.2.1 HCl.out.2.2.2.2.1 (fun W hW x hx => by
                  obtain ⟨cur, hcur⟩ := HCl.out.2.2.2.1
                  have hPW := HP7.out.ints hW hcur hgw
                  exact peeled1_any vb kb nb k x bl s.2.1 W hPW.cells.1 hPW.1 (chosen_lt b1 b2 x (HLN.out.2.2.mem_iff.1 hx)) b2)
                have HGW := Shut.mk hgw
                clear h67 hgw HP6
                go_wp2_with fail
                refine hDl.mono ?_
                rintro e w8 ⟨r, rfl, HD⟩
                clear hDl
                have hH : Shut (PdSt w w8 vb kb ub nb k bl s.2.1 U ∧ w8.heap[sb]? = some (.cells #[.int .i64 i, .slice ya k yc] 39 (0, 0)) ∧ Lies w8 (some ⟨pb, po, none⟩) (is (nats N)) ∧ (∃ cur, w8.heap[g]? = some (.cells cur 3 (0, 0))) ∧ (N.filter fun x => !knw s.2.1 x).Perm (missL nb (maskL nb i) s.2.1)) := ⟨by
                  obtain ⟨cur, hcur⟩ := HCl.out.2.2.2.1
                  have hgr := HD.out.2.2.1
                  have hne : sb ≠ g := blk_ne HY.out.1 hcur (by decide)
                  have hpg : pb ≠ g := by
                    have := lies_lt HLN.out.1 (by simp [is, nats, HLN.out.2.1, hz0]) pb po rfl
                    have := HCl.out.2.2.1
                    omega
                  refine ⟨HP7.out.ints hgr hcur HGW.out, ?_, ?_, ?_, miss_perm b1 b2 HLN.out.2.2⟩
                  · have e := (hgr.block sb (blk_lt' HY.out.1) fun e => hne (Option.some.inj e)).trans HY.out.1
                    rw [e]
                  · exact lies_grown hgr (HLN.out.1.below HCl.out.2.2.2.2.2 (Nat.le_refl _)) fun b o e => by cases e; exact hpg
                  · exact HD.out.2.2.2⟩
                have hml := miss_len nb (maskL nb i) s.2.1
                have hrl : r = (missL nb (maskL nb i) s.2.1).length := by rw [← HD.out.1]; exact hH.out.2.2.2.2.length_eq
                have HRL := Shut.mk hrl
                have hr24 : r ≤ 24 := by omega
                clear hrl hml HCl HP7 HGW
                by_cases hr2 : 2 ≤ r
                · have hst : stepR nb k s A[j] = (s.1 ++ [A[j]], s.2.1, s.2.2) := by
                    refine stepR_more ?_
                    rw [HR.out.2.2.2]
                    show 2 ≤ (missL nb (maskL nb i) s.2.1).length
                    rw [← HRL.out]
                    exact hr2
                  have R : Shut (PiSt w w8 vb kb ub nb k A U0 K0 (j + 1) s.2.2) := ⟨bl, U, stepR nb k s A[j], by rw [hst]; exact hH.out.1, HR.out.1.keep HR.out.2.1 HR.out.2.2.1 (by rw [hst]), by rw [hst]⟩
                  have hr3 : (1 : Int) < (r : Int) := by omega
                  clear hH HD HLN HY HR hst
                  go_wp2
                  go_roundw
                  case rel => exact ⟨j + 1, s.2.2, by omega, by go_num, rfl, R⟩
                  case measure => simp [intOf]; omega
                · have hr3 : ¬ (1 : Int) < (r : Int) := by omega
                  have hPu := hH.out.1.used (q := j)
                  obtain ⟨_, cu, fu⟩ := hH.out.1.cells
                  have cu0 := cu j hjU
                  rw [HR.out.2.2.1] at cu0
                  have fu0 := fu j
                  have hj1 : (j : Int) < (q : Int) := by omega
                  have hub1 : sb ≠ ub := blk_ne hH.out.2.1 hH.out.1.2.2.1 (by decide)
                  have hub2 : g ≠ ub := by obtain ⟨cur, hcur⟩ := hH.out.2.2.2.1; exact blk_ne hcur hH.out.1.2.2.1 (by decide)
                  have hub3 : pb ≠ ub := ints_offB hH.out.2.2.1 (by rw [HLN.out.2.1]; exact hz0) hH.out.1.2.2.1
                  have gr := grown_setCell w8 ub j (.bool true)
                  have HU : Shut (PdSt w (w8.setCell ⟨ub, j, none⟩ (.bool true)) vb kb ub nb k bl s.2.1 (U.set j true) ∧ (w8.setCell ⟨ub, j, none⟩ (.bool true)).heap[sb]? = some (.cells #[.int .i64 i, .slice ya k yc] 39 (0, 0)) ∧ Lies (w8.setCell ⟨ub, j, none⟩ (.bool true)) (some ⟨pb, po, none⟩) (is (nats N)) ∧ (∃ cur, (w8.setCell ⟨ub, j, none⟩ (.bool true)).heap[g]? = some (.cells cur 3 (0, 0))) ∧ Lies (w8.setCell ⟨ub, j, none⟩ (.bool true)) (some ⟨g, 0, none⟩) (is (nats (N.filter fun x => !knw s.2.1 x))) ∧ (N.filter fun x => !knw s.2.1 x).Perm (missL nb (maskL nb i) s.2.1)) := ⟨hPu, block_set hH.out.2.1 hub1, lies_grown gr hH.out.2.2.1 (fun b o e => by cases e; exact hub3), (by obtain ⟨cur, hcur⟩ := hH.out.2.2.2.1; exact ⟨cur, block_set hcur hub2⟩), lies_grown gr HD.out.2.1 (fun b o e => by cases e; exact hub2), hH.out.2.2.2.2⟩
                  clear hPu cu fu hub1 hub2 hub3 gr hH HD
                  go_upto_region 26 with fail
                  obtain ⟨W9, hW9⟩ : ∃ W9, w8.setCell ⟨ub, j, none⟩ (.bool true) = W9 := ⟨_, rfl⟩
                  rw [hW9] at HU ⊢
                  clear hW9 cu0 fu0
                  by_cases hr1 : r = 1
                  · subst hr1
                    rw [show ((1 : Nat) : Int) = (1 : Int) from rfl, show decide ((1 : Int) < 1) = false from rfl]
                    clear hr3 hr2 hr24
                    have hfx : ∃ x, (N.filter fun y => !knw s.2.1 y) = [x] := by
                      have h1 := HU.out.2.2.2.2.2.length_eq
                      rw [← HRL.out] at h1
                      match hm : (N.filter fun y => !knw s.2.1 y), h1 with
                      | [x], _ => exact ⟨x, rfl⟩
                    obtain ⟨x, hx⟩ := hfx
                    have hmx : missL nb (maskL nb i) s.2.1 = [x] := by
                      have := HU.out.2.2.2.2.2
                      rw [hx] at this
                      exact List.perm_singleton.1 this.symm
                    have hxm : x ∈ missL nb (maskL nb i) s.2.1 := by rw [hmx]; simp
                    have hxn := (mem_miss.1 hxm).1
                    have hlg := HU.out.2.2.2.2.1
                    rw [hx] at hlg
                    have HXX := Shut.mk (And.intro hx (And.intro hmx hlg))
                    clear hx hmx hxm hlg
                    obtain ⟨y0, y1⟩ := cells2 HU.out.2.1
                    obtain ⟨ti, hti, hz0', hz1', hz2'⟩ := info_parts infoBlk
                    have H0 : Shut (RestInv W9 (W9.alloc (.cells #[.slice ya k yc] 36)) (.slice (some ⟨W9.heap.size, 0, none⟩) 1 1) (⟨ya, yc, yd⟩ :: sB N x bl 0)) := ⟨⟨rfl, .inr ⟨W9.heap.size, 1, #[.slice ya k yc], rfl, Nat.le_refl _, by rw [heap_alloc_eq, if_pos rfl], by simp [sB], by unfold maxLen; omega, rfl, by simp [sB, Blk.val, HY.out.2.2]⟩⟩, (Below.refl _ _).alloc (Nat.le_refl _) _⟩
                    obtain ⟨WI, rfl⟩ : ∃ WI, WI = wr := ⟨wr, rfl⟩
                    go_wp2
                    go_loopw [18, 86] (fun v i wr => ∃ t : Nat, t ≤ z ∧ i = .int .i64 t ∧ Shut (RestInv W9 wr v (⟨ya, yc, yd⟩ :: sB N x bl t))) (fun _ i _ => z - (intOf i).toNat)
                    case atStart => exact ⟨0, Nat.zero_le _, rfl, H0⟩
                    case round =>
                      clear H0 y0 y1
                      obtain ⟨t, ht, rfl, HT⟩ := hrel
                      have hbt := HT.out.2
                      have hPt := HU.out.1.below hbt
                      have cg := (HXX.out.2.2.below hbt (Nat.le_refl _)).at (k := 0) (u := .int .i64 (x : Int)) rfl
                      simp only [Nat.add_zero] at cg
                      obtain ⟨cv, _, _⟩ := hPt.cells
                      by_cases hlt2 : t < z
                      · have htN : t < N.length := by rw [HLN.out.2.1]; exact hlt2
                        have cp := (HU.out.2.2.1.below hbt (Nat.le_refl _)).at (k := t) (u := .int .i64 (N[t] : Int)) (by simp [is, nats, htN])
                        have hnt : N[t] < nb := chosen_lt b1 b2 _ (HLN.out.2.2.mem_iff.1 (List.getElem_mem htN))
                        have hsb := sB_succ (x := x) (bl := bl) htN
                        have hsl := sB_len N x bl t
                        have hyb : N[t] < bl.length := by rw [hPt.1.2.1]; exact hnt
                        have ck := hPt.1.cell hyb
                        have hgb : bl.getD N[t] nilB = bl[N[t]] := by simp [List.getD_eq_getElem?_getD, hyb]
                        rw [hgb] at hsb
                        generalize bl[N[t]]'hyb = X at *
                        generalize N[t]'htN = y at *
                        by_cases hyx : y = x
                        · subst hyx
                          rw [if_pos rfl] at hsb
                          have R : Shut (RestInv W9 wr _ (⟨ya, yc, yd⟩ :: sB N y bl (t + 1))) := ⟨by rw [hsb]; exact HT.out⟩
                          have hne : ((y : Int) != (y : Int)) = false := by simp
                          clear hsb hsl hgb HT hPt hbt
                          go_wp2
                          go_roundw
                          case rel => exact ⟨t + 1, by omega, by go_num, R⟩
                          case measure => simp [intOf]; omega
                        · rw [if_neg hyx] at hsb
                          have hne : ((y : Int) != (x : Int)) = true := by simp; omega
                          have hown := HT.out.1
                          have hsz := HT.out.2.size
                          obtain ⟨Xa, Xc, Xl⟩ := X
                          simp only at ck
                          have hy1 : (y : Int) < (nb : Int) := by omega
                          clear hgb hPt
                          go_wp2_with (first | (at_builtin; refine wpList_append_own _ rfl _ _ 48 rfl W9.heap.size 36 ti (.slice none 0 0) 1 24 Tryd.underlying48 hti hz0' hz1' hz2' rfl (by decide) _ _ _ rfl (hown.alloc _) ⟨wr.heap.size, 0, none⟩ 1 1 [.slice Xa Xl.length Xc] rfl rfl ?c1 ?c2 ?c3 ?c4 ?c5 ?_) | go_in)
                          case c1 =>
                            intro j u hj
                            match j, hj with
                            | 0, hj => simp at hj; subst hj; simp [Addr.add]
                          case c2 => intro u hu; simp at hu; subst hu; rfl
                          case c3 => unfold maxLen; simp; omega
                          case c4 => simp; omega
                          case c5 => simp; omega
                          intro v' w4 hown' hgrow _
                          have R : Shut (RestInv W9 w4 v' (⟨ya, yc, yd⟩ :: sB N x bl (t + 1))) := ⟨by rw [hsb]; exact HT.out.next (b := ⟨Xa, Xc, Xl⟩) hown' hgrow⟩
                          clear hown' hgrow hown hsz HT hsb hsl hbt
                          go_wp2
                          go_roundw
                          case rel => exact ⟨t + 1, by omega, by go_num, R⟩
                          case measure => simp [intOf]; omega
                      · obtain rfl : t = z := by omega
                        obtain ⟨fa, fc, hfv, hfc⟩ := own_slice HT.out.1
                        subst hfv
                        obtain ⟨fa', fc', hv', hfl, hfn⟩ := own_lies HT.out.1
                        cases hv'
                        clear hfn
                        have hsl := sB_len N x bl t
                        obtain ⟨sl, hsl2⟩ : ∃ sl, (⟨ya, yc, yd⟩ :: sB N x bl t : List Blk).length = sl := ⟨_, rfl⟩
                        have hsl3 : sl ≤ 25 := by rw [← hsl2, List.length_cons]; omega
                        have HSB2 : Shut (Lies wr fa ((⟨ya, yc, yd⟩ :: sB N x bl t).map Blk.val) ∧ (⟨ya, yc, yd⟩ :: sB N x bl t : List Blk).length = sl ∧ AllIn wr (⟨ya, yc, yd⟩ :: sB N x bl t) ∧ (∀ b ∈ (⟨ya, yc, yd⟩ :: sB N x bl t : List Blk), b.l.length = k) ∧ sumBl (⟨ya, yc, yd⟩ :: sB N x bl t) = restL nb k (maskL nb i, yd) s.2.1) := ⟨by
                          have hmem : ∀ y ∈ N.filter (fun y => decide (y ≠ x)), y < nb ∧ knw s.2.1 y = true := fun y hy => by
                            rw [but_one HXX.out.1] at hy
                            have h1 := List.mem_filter.1 hy
                            exact ⟨chosen_lt b1 b2 y (HLN.out.2.2.mem_iff.1 h1.1), h1.2⟩
                          have eS : sB N x bl t = (N.filter (fun y => decide (y ≠ x))).map fun j => bl.getD j nilB := by unfold sB; rw [List.take_of_length_le (by rw [HLN.out.2.1]; exact Nat.le_refl _)]
                          have hUse : ∀ b ∈ sB N x bl t, b ∈ bl ∧ b.l.length = k := fun b hb => by
                            rw [eS] at hb
                            obtain ⟨y, hy, rfl⟩ := List.mem_map.1 hb
                            obtain ⟨h1, h2⟩ := hmem y hy
                            have hyb : y < bl.length := by rw [hPt.1.2.1]; exact h1
                            have e : bl.getD y nilB = bl[y] := by simp [List.getD_eq_getElem?_getD, hyb]
                            rw [e]
                            refine ⟨List.getElem_mem hyb, ?_⟩
                            rw [← hPt.1.l hyb]
                            exact hPt.1.2.2.2.2.2.1.knw_len h2
                          refine ⟨hfl, hsl2, fun b hb => ?_, fun b hb => ?_, ?_⟩
                          · rcases List.mem_cons.1 hb with rfl | hb
                            · exact ⟨HY.out.2.1.below hPt.2.2.2.1 (Nat.le_refl _), by show yd.length ≤ _; rw [HY.out.2.2]; unfold maxLen; omega⟩
                            · exact hPt.1.2.2.1 b (hUse b hb).1
                          · rcases List.mem_cons.1 hb with rfl | hb
                            · exact HY.out.2.2
                            · exact (hUse b hb).2
                          · unfold sumBl
                            rw [List.map_cons, ← rest_sum HY.out.2.2 hPt.1.2.2.2.2.2.1 (l := N.filter (fun y => decide (y ≠ x))) (by rw [but_one HXX.out.1]; exact use_perm b1 b2 HLN.out.2.2)]
                            congr 2
                            rw [eS, List.map_map]
                            refine List.map_congr_left fun y hy => ?_
                            obtain ⟨h1, h2⟩ := hmem y hy
                            have hyb : y < bl.length := by rw [hPt.1.2.1]; exact h1
                            have e : bl.getD y nilB = bl[y] := by simp [List.getD_eq_getElem?_getD, hyb]
                            rw [hPt.1.l hyb]
                            show (bl.getD y nilB).l = _
                            rw [e]⟩
                        have hSm : ∀ W, Below wr.heap.size wr W → Calls Tryd.prog 60 #[.slice fa sl fc] W fun e w' => ∃ (p : Option Addr) (cq : Nat), e = .returned (.slice p k cq) ∧ Shut (Lies w' p (bs (restL nb k (maskL nb i, yd) s.2.1)) ∧ TyU w' p ∧ Below wr.heap.size wr w') ∧ Below W.heap.size W w' := fun W hW => by
                          have h := refSum_any fa fc k (⟨ya, yc, yd⟩ :: sB N x bl t) W (by rw [HSB2.out.2.1]; omega) (HSB2.out.1.below hW (Nat.le_refl _)) (HSB2.out.2.2.1.below hW) (by simp) (fun i hi => HSB2.out.2.2.2.1 _ (List.getElem_mem hi)) k2
                          rw [HSB2.out.2.1, HSB2.out.2.2.2.2] at h
                          refine h.mono ?_
                          rintro e w' ⟨v, rfl, ho, hb⟩
                          obtain ⟨p, cq, rfl, _⟩ := own_slice ho
                          obtain ⟨p', cq', hv', hpl, _⟩ := own_lies ho
                          cases hv'
                          refine ⟨p, cq, rfl, ⟨hpl, fun g o e => ?_, hW.trans (hb.mono hW.size)⟩, hb⟩
                          rcases ho.2 with ⟨e1, _⟩ | ⟨g', cap, cur, e1, _, hg', _⟩
                          · cases e1; cases e
                          · cases e1; cases e; exact ⟨cur, _, hg'⟩
                        rw [hsl2]
                        have hvk : vb ≠ kb := blk_ne hPt.2.1 hPt.1.1 (by decide)
                        have hgk : g ≠ kb := by
                          obtain ⟨cur, hcur⟩ := HU.out.2.2.2.1
                          exact blk_ne (blk_below hcur hbt) hPt.1.1 (by decide)
                        have hkc : ∀ W, Below wr.heap.size wr W → ∃ u, W.cell? ⟨kb, x, none⟩ = some u ∧ W.frozen? ⟨kb, x, none⟩ = false := fun W hW => by
                          have h := hPt.1.below hW
                          exact ⟨_, h.cell (j := x) (by rw [h.2.1]; exact hxn), frozen_blk h.1 x⟩
                        have HPt := Shut.mk hPt
                        have D1 : Shut (Below wr.heap.size wr wr.drew) := ⟨(Below.refl _ _).drew⟩
                        have D0 : Shut (Below wr.heap.size wr wr) := ⟨Below.refl _ _⟩
                        have cvd : wr.drew.cell? ⟨vb, 0, none⟩ = some (.slice (some ⟨kb, 0, none⟩) nb nb) := cv
                        have cgd : wr.drew.cell? ⟨g, 0, none⟩ = some (.int .i64 (x : Int)) := cg
                        have hx2 : (x : Int) < (nb : Int) := by omega
                        clear hfl hsl hsl2 hPt HT HSB2
                        go_upto_region 34 with fail
                        go_region_held3 (fun w' => w'.cell? ⟨vb, 0, none⟩ = some (.slice (some ⟨kb, 0, none⟩) nb nb) ∧ w'.cell? ⟨g, 0, none⟩ = some (.int .i64 (x : Int))) (first | exact ⟨by assumption, by assumption⟩ | (refine ⟨?_, ?_⟩ <;> (rw [World.cell?_setCell_other _ _ _ _ (by intro e; injection e; omega)]; assumption))) (first | (go_at_call 60; (first | refine (hSm wr D0.out).mono ?_ | refine (hSm wr.drew D1.out).mono ?_); rintro e w7 ⟨p7, q7, rfl, HR7, hb7⟩; have h67 := HR7.out.2.2; have z0 := cellC cv h67; have z1 := cellC cg h67; obtain ⟨kv, kv1, kv2⟩ := hkc w7 h67))
                        all_goals
                          have hst : stepR nb k s A[j] = (s.1, s.2.1.set x (restL nb k (maskL nb i, yd) s.2.1), true) := by
                            rw [HR.out.2.2.2]
                            exact stepR_one HXX.out.2.1
                          have R : Shut (PiSt w (w7.setCell ⟨kb, x, none⟩ (.slice p7 k q7)) vb kb ub nb k A U0 K0 (j + 1) true) := ⟨_, U.set j true, stepR nb k s A[j], by rw [hst]; exact (HPt.out.below h67).known hxn (restL_length nb k (maskL nb i, yd) s.2.1) k1 k2 HR7.out.1 HR7.out.2.1, HR.out.1.use HR.out.2.1 HR.out.2.2.1 (by rw [hst]), by rw [hst]⟩
                          clear HPt HR7 HR HU HXX HLN HY hst hSm hkc z0 z1 kv1 kv2 h67 hb7 cv cg cvd cgd hvk hgk D0 D1 hbt
                          go_wp2
                          refine ⟨⟨j + 1, true, by omega, by go_num, rfl, R⟩, by simp [intOf]; omega⟩

                  · obtain rfl : r = 0 := by omega
                    have hst : stepR nb k s A[j] = s := stepR_none (by rw [HR.out.2.2.2]; exact HRL.out.symm)
                    have R : Shut (PiSt w W9 vb kb ub nb k A U0 K0 (j + 1) s.2.2) := ⟨bl, U.set j true, stepR nb k s A[j], by rw [hst]; exact HU.out.1, HR.out.1.use HR.out.2.1 HR.out.2.2.1 (by rw [hst]), by rw [hst]⟩
                    clear HU HLN HY HR hst
                    go_wp2
                    go_roundw
                    case rel => exact ⟨j + 1, s.2.2, by omega, by go_num, rfl, R⟩
                    case measure => simp [intOf]; omega
              · have R : Shut (PiSt w W5 vb kb ub nb k A U0 K0 (j + 1) s.2.2) := ⟨bl, U, s, HP5.out, HR.out.1.skip HR.out.2.1 HR.out.2.2.1, rfl⟩
                clear HP5 HR HY
                go_wp2
                go_roundw
                case rel => exact ⟨j + 1, s.2.2, by omega, by go_num, rfl, R⟩
                case measure => simp [intOf]; omega
            · obtain rfl : j = q := by omega
              have hR2 := hR
              rw [← HAL.out] at hR2
              obtain ⟨e1, e2⟩ := hR2.last
              have R : Shut (PoSt w wr vb kb ub nb k A s.2.2 (peeRes nb k ls)) := ⟨bl, _, U, hP, hR.len, by rw [← HUN.out.2.2, peelL_step k1 _ _ HUN.out.2.1, e1, e2]⟩
              have HM : Shut (s.2.2 = true → unkW wr kb < unkW WO kb) := ⟨fun e => by
                rw [hP.1.unk, HUN.out.1]
                have h := (round_keeps k1 (rows := leftU A U0) HUN.out.2.1).2.2.1
                rw [e1] at h
                exact h e⟩
              generalize s.2.2 = mb at *
              clear hP hR hR2 e1 e2 HI HUN
              go_wp2
              refine ⟨⟨mb, rfl, R⟩, ?_⟩
              simp only [isT, if_true]
              cases mb
              · simp
              · have := HM.out rfl
                simp
                omega

theorem peeledR_any (B K : Int) (la : Option Addr) (lc : Nat) (l : List MSym) (w : World) (hB : I64 B) (hK : I64 K) (hl : Lies w la (symCells l)) (hall : ∀ y ∈ l, SymIn w y) (hm : l.length ≤ maxLen) :
    Calls Tryd.prog 29 #[.agg #[.int .i64 B, .int .i64 K], .slice la l.length lc] w fun e w' =>
      ((peeCode B K (l.map MSym.says) ≠ 0 ∧ e = .returned (.tuple #[.slice none 0 0, .int .i64 (peeCode B K (l.map MSym.says))])) ∨
        ∃ (n k nb : Nat), Good B K n k nb ∧ ∃ (kb : Nat) (bl : List Blk), e = .returned (.tuple #[.slice (some ⟨kb, 0, none⟩) nb nb, .int .i64 0]) ∧ Shut (peeCode B K (l.map MSym.says) = 0 ∧ KnAt w' kb nb k bl (peeRes nb k (l.map MSym.says)))) ∧ Below w.heap.size w w' := by
  by_cases hc : chkP B K = 0
  · obtain ⟨n, k, nb, g⟩ := good_of hc
    by_cases h60 : l.length ≤ 60
    · have e : peeCode B K (l.map MSym.says) = chkAll B K (l.map MSym.says) := by rw [peeCode, if_neg (by simp [hc]), if_neg (by simp; omega)]
      rw [e]
      refine (peeledR_good B K n k nb l.length la lc l _ w g hB hK hl hall rfl h60 rfl).mono ?_
      rintro e w' ⟨h | ⟨kb, bl, h1, h2⟩, hb⟩
      · exact ⟨.inl h, hb⟩
      · exact ⟨.inr ⟨n, k, nb, g, kb, bl, h1, h2⟩, hb⟩
    · have e : peeCode B K (l.map MSym.says) = 2 := by rw [peeCode, if_neg (by simp [hc]), if_pos (by simp; omega)]
      rw [e]
      refine (peeledR_many B K n k nb la l.length lc w g hB hK hm (by omega)).mono ?_
      rintro e w' ⟨rfl, hb⟩
      exact ⟨.inl ⟨by decide, rfl⟩, hb⟩
  · have e : peeCode B K (l.map MSym.says) = chkP B K := by rw [peeCode, if_pos hc]
    rw [e]
    refine (peeledR_plan B K la l.length lc w hB hK hc).mono ?_
    rintro e w' ⟨rfl, hb⟩
    exact ⟨.inl ⟨hc, rfl⟩, hb⟩

theorem peelK_any (B K : Int) (la : Option Addr) (lc : Nat) (l : List MSym) (w : World) (hB : I64 B) (hK : I64 K) (hl : Lies w la (symCells l)) (hall : ∀ y ∈ l, SymIn w y) (hm : l.length ≤ maxLen) (hL : Laid w) :
    Calls Tryd.prog 28 #[.agg #[.int .i64 B, .int .i64 K], .slice la l.length lc] w fun e w' =>
      ((peeCode B K (l.map MSym.says) ≠ 0 ∧ e = .returned (.tuple #[.slice none 0 0, .int .i64 (peeCode B K (l.map MSym.says))])) ∨
        ∃ (n k nb : Nat), Good B K n k nb ∧ ∃ (kb : Nat) (bl : List Blk), e = .returned (.tuple #[.slice (some ⟨kb, 0, none⟩) nb nb, .int .i64 0]) ∧ Shut (peeCode B K (l.map MSym.says) = 0 ∧ KnAt w' kb nb k bl (peeRes nb k (l.map MSym.says)))) ∧ Below w.heap.size w w' := by
  by_cases hc : chkP B K = 0
  · obtain ⟨n, k, nb, g⟩ := good_of hc
    by_cases h60 : l.length ≤ 60
    · have e : peeCode B K (l.map MSym.says) = chkAll B K (l.map MSym.says) := by rw [peeCode, if_neg (by simp [hc]), if_neg (by simp; omega)]
      rw [e]
      refine (peelK_good B K n k nb l.length la lc l _ w g hB hK hl hall rfl h60 rfl hL).mono ?_
      rintro e w' ⟨h | ⟨kb, bl, h1, h2⟩, hb⟩
      · exact ⟨.inl h, hb⟩
      · exact ⟨.inr ⟨n, k, nb, g, kb, bl, h1, h2⟩, hb⟩
    · have e : peeCode B K (l.map MSym.says) = 2 := by rw [peeCode, if_neg (by simp [hc]), if_pos (by simp; omega)]
      rw [e]
      refine (peelK_many B K n k nb la l.length lc w g hB hK hm (by omega)).mono ?_
      rintro e w' ⟨rfl, hb⟩
      exact ⟨.inl ⟨by decide, rfl⟩, hb⟩
  · have e : peeCode B K (l.map MSym.says) = chkP B K := by rw [peeCode, if_pos hc]
    rw [e]
    refine (peelK_plan B K la l.length lc w hB hK hc).mono ?_
    rintro e w' ⟨rfl, hb⟩
    exact ⟨.inl ⟨hc, rfl⟩, hb⟩

end Go.Proofs.YtkiejflgphjfjacDoor
