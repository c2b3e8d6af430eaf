/-
  The reference's CheckSystem: its contract.
-/
import Derived.Test.YtclbmfjincekfabRow3
import Derived.Test.YtclbmfjincekfabSol1
import Derived.Test.YtclbmfjincekfabAbove
import Derived.Test.YtclbmfjincekfabIn
namespace Go.Proofs.Ytclbmfjincekfab
open Go.RowKit
set_option linter.unusedVariables false
set_option linter.unusedSimpArgs false

/-- a system's box -/
def Box3 (w : World) (g : Nat) (x y z : Value) : Prop := w.cell? ⟨g, 0, none⟩ = some x ∧ w.cell? ⟨g, 1, none⟩ = some y ∧ w.cell? ⟨g, 2, none⟩ = some z

theorem Box3.mk (w : World) (x y z : Value) (t : TypeId) : Box3 (w.alloc (.cells #[x, y, z] t)) w.heap.size x y z := by
  have h := Lies.alloc_new w #[x, y, z] t
  exact ⟨h.at (k := 0) rfl, h.at (k := 1) rfl, h.at (k := 2) rfl⟩

theorem Box3.below {w w1 : World} {g : Nat} {x y z : Value} (h : Box3 w g x y z) (hb : Below w.heap.size w w1) : Box3 w1 g x y z := ⟨cellC h.1 hb, cellC h.2.1 hb, cellC h.2.2 hb⟩

theorem Box2.mk (w : World) (x y : Value) (t : TypeId) : (w.alloc (.cells #[x, y] t)).cell? ⟨w.heap.size, 0, none⟩ = some x ∧ (w.alloc (.cells #[x, y] t)).cell? ⟨w.heap.size, 1, none⟩ = some y := by
  have h := Lies.alloc_new w #[x, y] t
  exact ⟨h.at (k := 0) rfl, h.at (k := 1) rfl⟩

theorem checkSystem_range1 (B K : Int) (ra : Option Addr) (n rc : Nat) (w : World) (h : ¬ (1 ≤ B ∧ B ≤ 24)) :
    Calls Try.prog 8 #[.agg #[.int .i64 B, .int .i64 K, .slice ra n rc]] w fun e w' => e = .returned (.int .i64 3) ∧ Below w.heap.size w w' := by
  have hb : Below w.heap.size w (w.alloc (.cells #[.int .i64 B, .int .i64 K, .slice ra n rc] 24)) := (Below.refl _ _).alloc (Nat.le_refl _) _
  obtain ⟨x0, x1, x2⟩ := Box3.mk w (.int .i64 B) (.int .i64 K) (.slice ra n rc) 24
  have H := Shut.mk (decide_eq_false h)
  clear h
  go_enter Try.func8, Try.ntmps8
  go_wp2_with fail
  refine (in_any B 1 24 _).mono ?_
  rintro e w2 ⟨rfl, rfl⟩
  rw [H.out]
  go_wp2
  go_ret
  exact ⟨rfl, hb⟩

theorem checkSystem_range2 (B K : Int) (ra : Option Addr) (n rc : Nat) (w : World) (h1 : 1 ≤ B ∧ B ≤ 24) (h : ¬ (1 ≤ K ∧ K ≤ 16)) :
    Calls Try.prog 8 #[.agg #[.int .i64 B, .int .i64 K, .slice ra n rc]] w fun e w' => e = .returned (.int .i64 3) ∧ Below w.heap.size w w' := by
  have hb : Below w.heap.size w (w.alloc (.cells #[.int .i64 B, .int .i64 K, .slice ra n rc] 24)) := (Below.refl _ _).alloc (Nat.le_refl _) _
  obtain ⟨x0, x1, x2⟩ := Box3.mk w (.int .i64 B) (.int .i64 K) (.slice ra n rc) 24
  have H1 := Shut.mk (decide_eq_true h1)
  have H := Shut.mk (decide_eq_false h)
  clear h h1
  go_enter Try.func8, Try.ntmps8
  go_wp2_with fail
  refine (in_any B 1 24 _).mono ?_
  rintro e w2 ⟨rfl, rfl⟩
  rw [H1.out]
  go_wp2_with fail
  refine (in_any K 1 16 _).mono ?_
  rintro e w2 ⟨rfl, rfl⟩
  rw [H.out]
  go_wp2
  go_ret
  exact ⟨rfl, hb⟩

theorem checkSystem_many (B K : Int) (ra : Option Addr) (n rc : Nat) (w : World) (h1 : 1 ≤ B ∧ B ≤ 24) (h : 1 ≤ K ∧ K ≤ 16) (hn : n ≤ maxLen) (h2 : B < n) :
    Calls Try.prog 8 #[.agg #[.int .i64 B, .int .i64 K, .slice ra n rc]] w fun e w' => e = .returned (.int .i64 2) ∧ Below w.heap.size w w' := by
  unfold maxLen at hn
  have hb : Below w.heap.size w (w.alloc (.cells #[.int .i64 B, .int .i64 K, .slice ra n rc] 24)) := (Below.refl _ _).alloc (Nat.le_refl _) _
  obtain ⟨x0, x1, x2⟩ := Box3.mk w (.int .i64 B) (.int .i64 K) (.slice ra n rc) 24
  have H1 := Shut.mk (decide_eq_true h1)
  have H := Shut.mk (decide_eq_true h)
  clear h h1
  go_enter Try.func8, Try.ntmps8
  go_wp2_with fail
  refine (in_any B 1 24 _).mono ?_
  rintro e w2 ⟨rfl, rfl⟩
  rw [H1.out]
  go_wp2_with fail
  refine (in_any K 1 16 _).mono ?_
  rintro e w2 ⟨rfl, rfl⟩
  rw [H.out]
  go_wp2
  go_ret
  exact ⟨rfl, hb⟩

/-- all but the other rows -/
def RowPre (n k : Nat) (A : List LRow) (q F : Nat) : Prop :=
  (A[q]?.getD ([], [])).1.length = n ∧ (A[q]?.getD ([], [])).2.length = k ∧ firstI (A[q]?.getD ([], [])).1 = F ∧ (0 < q → firstI (A[q - 1]?.getD ([], [])).1 < firstI (A[q]?.getD ([], [])).1)

theorem RowPre.ok {n k q F : Nat} {A : List LRow} (h : RowPre n k A q F) (ho : ∀ j, j < A.length → j ≠ q → (A[j]?.getD ([], [])).1.getD F false = false) : RowOk n k A q := by
  obtain ⟨a, b, c, d⟩ := h
  refine ⟨by rw [a], by rw [b], by omega, d, ?_⟩
  intro j hj hne
  rw [c]
  exact ho j hj hne

theorem RowPre.not {n k q F j : Nat} {A : List LRow} (h : RowPre n k A q F) (hj : j < A.length) (hne : j ≠ q) (ht : (A[j]?.getD ([], [])).1.getD F false = true) : ¬ RowOk n k A q := by
  obtain ⟨a, b, c, d⟩ := h
  intro ho
  have := ho.2.2.2.2 j hj hne
  rw [c] at this
  simp only [Int.toNat_natCast] at this
  rw [ht] at this
  simp at this

set_option maxRecDepth 4000 in
set_option maxHeartbeats 2000000 in
theorem checkSystem_rows (n k : Nat) (ra : Option Addr) (rc : Nat) (rows : List MRow) (w : World) (h1 : 1 ≤ n ∧ n ≤ 24) (h2 : 1 ≤ k ∧ k ≤ 16) (hm : rows.length ≤ n) (hl : Lies w ra (rowCells rows)) (hr : ∀ r ∈ rows, RowIn w r) :
    Calls Try.prog 8 #[.agg #[.int .i64 n, .int .i64 k, .slice ra rows.length rc]] w fun e w' => e = .returned (.int .i64 (chkSys n k (rows.map MRow.says))) ∧ Below w.heap.size w w' := by
  have hb : Below w.heap.size w (w.alloc (.cells #[.int .i64 n, .int .i64 k, .slice ra rows.length rc] 24)) := (Below.refl _ _).alloc (Nat.le_refl _) _
  have hbox := Box3.mk w (.int .i64 n) (.int .i64 k) (.slice ra rows.length rc) 24
  have H1 : Shut (decide (1 ≤ (n : Int) ∧ (n : Int) ≤ 24) = true) := ⟨decide_eq_true (by omega)⟩
  have H2 : Shut (decide (1 ≤ (k : Int) ∧ (k : Int) ≤ 16) = true) := ⟨decide_eq_true (by omega)⟩
  have HR : Shut (1 ≤ (n : Int) ∧ (n : Int) ≤ 24 ∧ 1 ≤ (k : Int) ∧ (k : Int) ≤ 16) := ⟨by omega⟩
  have hm' : ¬ (n : Int) < rows.length := by omega
  have hmN : ¬ n < rows.length := by omega
  obtain ⟨x0, x1, x2⟩ := hbox
  go_enter Try.func8, Try.ntmps8
  go_wp2_with fail
  refine (in_any n 1 24 _).mono ?_
  rintro e w2 ⟨rfl, rfl⟩
  rw [H1.out]
  go_wp2_with fail
  refine (in_any k 1 16 _).mono ?_
  rintro e w2 ⟨rfl, rfl⟩
  rw [H2.out]
  go_wp2_with fail
  replace hl := hl.below hb (Nat.le_refl _)
  replace hr : ∀ r ∈ rows, RowIn _ r := fun r hr' => (hr r hr').below hb
  obtain ⟨W0, hW0⟩ : ∃ W0, w.alloc (.cells #[.int .i64 n, .int .i64 k, .slice ra rows.length rc] 24) = W0 := ⟨_, rfl⟩
  rw [hW0] at hb hl x0 x1 x2 ⊢
  rw [hW0] at hr
  clear hW0 H1 H2
  go_loopw [26] (fun m wr => ∃ q : Nat, q ≤ rows.length ∧ m = .int .i64 q ∧ Shut (∀ i, i < q → RowOk n k (rows.map MRow.says) i) ∧ Below W0.heap.size W0 wr) (fun m _ => rows.length - (intOf m).toNat)
  case atStart => exact ⟨0, Nat.zero_le _, rfl, ⟨fun i hi => by omega⟩, Below.refl _ _⟩
  case round =>
    obtain ⟨q, hq, rfl, HE, hbr⟩ := hrel
    by_cases hlt : q < rows.length
    · obtain ⟨ab, ao, rfl⟩ := hl.some (k := 2 * q) (by rw [rowCells_length]; omega)
      obtain ⟨a0, a1⟩ := row_at (hl.below hbr (Nat.le_refl _)) hlt
      have rA := (hr _ (List.getElem_mem hlt)).below hbr
      have HS : Shut ((rows.map MRow.says)[q]?.getD ([], []) = (rows[q].h, rows[q].d)) := ⟨by simp [hlt, MRow.says]⟩
      generalize rows[q]'hlt = R at *
      obtain ⟨ha, hc, rh, da, dc, rd⟩ := R
      simp only [MRow.hv, MRow.dv] at a0 a1 HS
      go_upto_region 8 with fail
      have bd : Below wr.heap.size wr (wr.alloc (.cells #[.slice ha rh.length hc, .slice da rd.length dc] 29)) := (Below.refl _ _).alloc (Nat.le_refl _) _
      obtain ⟨v0, v1⟩ := Box2.mk wr (.slice ha rh.length hc) (.slice da rd.length dc) 29
      obtain ⟨w2, hw2⟩ : ∃ w2, wr.alloc (.cells #[.slice ha rh.length hc, .slice da rd.length dc] 29) = w2 := ⟨_, rfl⟩
      obtain ⟨gr, hgr⟩ : ∃ gr, wr.heap.size = gr := ⟨_, rfl⟩
      rw [hw2, hgr] at v0 v1 ⊢
      rw [hw2] at bd
      have hb2 : Below W0.heap.size W0 w2 := hbr.trans (bd.mono hbr.size)
      replace rA := rA.below bd
      have hbF := hb.trans (hb2.mono hb.size)
      have s0 : ∀ u : Above w2, u.w.cell? ⟨w.heap.size, 0, none⟩ = some (.int .i64 n) := fun u => u.cell (cellC x0 hb2)
      have s1 : ∀ u : Above w2, u.w.cell? ⟨w.heap.size, 1, none⟩ = some (.int .i64 k) := fun u => u.cell (cellC x1 hb2)
      have s2 : ∀ u : Above w2, u.w.cell? ⟨w.heap.size, 2, none⟩ = some (.slice (some ⟨ab, ao, none⟩) rows.length rc) := fun u => u.cell (cellC x2 hb2)
      have t0 : ∀ u : Above w2, u.w.cell? ⟨gr, 0, none⟩ = some (.slice ha rh.length hc) := fun u => u.cell v0
      have t1 : ∀ u : Above w2, u.w.cell? ⟨gr, 1, none⟩ = some (.slice da rd.length dc) := fun u => u.cell v1
      have hF : ∀ u : Above w2, Calls Try.prog 27 #[.agg #[.slice ha rh.length hc, .slice da rd.length dc]] u.w fun e w' => e = .returned (.int .i64 (firstI rh)) ∧ Below u.w.heap.size u.w w' := fun u => firstOf_any ⟨ha, hc, rh, da, dc, rd⟩ u.w (rA.below u.below)
      clear bd hbr a0 a1 hw2 hgr
      have ne : Nonempty (Above w2) := ⟨Above.start w2⟩
      have hrl := rA.2.2.1
      have hdl := rA.2.2.2
      simp only [maxLen] at hrl hdl
      by_cases e1 : rh.length = n
      · have e1' : ((rh.length : Int) != (n : Int)) = false := by simp [e1]
        by_cases e2 : rd.length = k
        · have e2' : ((rd.length : Int) != (k : Int)) = false := by simp [e2]
          rcases firstI_range rh with e3 | ⟨F, e3, hFl, hFt, _⟩
          · have HX : Shut (chkSys n k (rows.map MRow.says) = 4) := ⟨chkSys_form HR.out (by simpa using hm') (i := q) (by simpa using hlt) fun ho => by have := ho.2.2.1; rw [HS.out] at this; simp only [e3] at this; omega⟩
            simp only [e3] at hF
            clear e1 e2 e3 HE HS hr hl rA
            refine wp_region_above (by kernel_rfl) (by kernel_rfl) ?_
            repeat (go_big_quiet_step ((go_at_call 27; exact Calls.above (hF _))))
            refine wpQuiet_nil ?_
            rintro _ ⟨u, rfl⟩
            have hbu := hbF.trans (u.below.mono hbF.size)
            clear s0 s1 s2 t0 t1 hF hbF
            generalize u.w = w3 at *
            go_wp2
            go_ret
            exact ⟨ret_int HX.out.symm, hbu⟩
          · simp only [e3] at hF
            have HP : Shut ((0 < q → firstI ((rows.map MRow.says)[q - 1]?.getD ([], [])).1 < F) → RowPre n k (rows.map MRow.says) q F) := ⟨fun h => ⟨by rw [HS.out]; exact e1, by rw [HS.out]; exact e2, by rw [HS.out]; exact e3, by rw [HS.out]; simp only [e3]; exact h⟩⟩
            have HQ : Shut (0 < q → (F : Int) ≤ firstI ((rows.map MRow.says)[q - 1]?.getD ([], [])).1 → chkSys n k (rows.map MRow.says) = 4) := ⟨fun h0 hle => chkSys_form HR.out (by simpa using hm') (i := q) (by simpa using hlt) fun ho => by have := ho.2.2.2.1 h0; rw [HS.out] at this; simp only [e3] at this; omega⟩
            have HFL : Shut (F < n) := ⟨by omega⟩
            have HFI := Shut.mk e3
            have e4 : ¬ ((F : Int) < 0) := by omega
            clear e1 e2 e3 hFl hFt
            rcases Nat.eq_zero_or_pos q with hq0 | hq0
            case' inl =>
              have HP1 : Shut (RowPre n k (rows.map MRow.says) q F) := ⟨HP.out fun h => by omega⟩
              have e5 : ¬ 0 < q := by omega
              clear HP HQ HS hq0
              refine wp_region_above (by kernel_rfl) (by kernel_rfl) ?_
              repeat (go_big_quiet_step ((go_at_call 27; exact Calls.above (hF _))))
              refine wpQuiet_nil ?_
              rintro _ ⟨u, rfl⟩
            case' inr =>
              obtain ⟨q', hq'⟩ : ∃ q', q = q' + 1 := ⟨q - 1, by omega⟩
              have hqq : (q : Int) - 1 = (q' : Int) := by omega
              have hlt2 : q' < rows.length := by omega
              obtain ⟨p0, p1⟩ := row_at (hl.below hb2 (Nat.le_refl _)) hlt2
              have rP := (hr _ (List.getElem_mem hlt2)).below hb2
              have HS2 : Shut ((rows.map MRow.says)[q']?.getD ([], []) = (rows[q'].h, rows[q'].d)) := ⟨by simp [hlt2, MRow.says]⟩
              generalize rows[q']'hlt2 = R2 at *
              obtain ⟨pa, pc, ph, pda, pdc, pd⟩ := R2
              simp only [MRow.hv, MRow.dv] at p0 p1 HS2
              replace p0 : ∀ u : Above w2, u.w.cell? ⟨ab, ao + q' * 2, none⟩ = some (.slice pa ph.length pc) := fun u => u.cell p0
              replace p1 : ∀ u : Above w2, u.w.cell? ⟨ab, ao + q' * 2 + 1, none⟩ = some (.slice pda pd.length pdc) := fun u => u.cell p1
              have hF2 : ∀ u : Above w2, Calls Try.prog 27 #[.agg #[.slice pa ph.length pc, .slice pda pd.length pdc]] u.w fun e w' => e = .returned (.int .i64 (firstI ph)) ∧ Below u.w.heap.size u.w w' := fun u => firstOf_any ⟨pa, pc, ph, pda, pdc, pd⟩ u.w (rP.below u.below)
              by_cases hle : (F : Int) ≤ firstI ph
              case' pos =>
                have HX : Shut (chkSys n k (rows.map MRow.says) = 4) := ⟨HQ.out (by omega) (by simp only [hq', Nat.add_sub_cancel, HS2.out]; exact hle)⟩
                clear HE HS HS2 HP HQ hr hl rA rP hq'
                refine wp_region_above (by kernel_rfl) (by kernel_rfl) ?_
                repeat (go_big_quiet_step ((go_at_call 27; first | with_reducible exact Calls.above (hF _) | with_reducible exact Calls.above (hF2 _))))
                refine wpQuiet_nil ?_
                rintro _ ⟨u, rfl⟩
                have hbu := hbF.trans (u.below.mono hbF.size)
                clear s0 s1 s2 t0 t1 p0 p1 hF hF2 hbF
                generalize u.w = w3 at *
                go_wp2
                go_ret
                exact ⟨ret_int HX.out.symm, hbu⟩
              have HP1 : Shut (RowPre n k (rows.map MRow.says) q F) := ⟨HP.out fun _ => by simp only [hq', Nat.add_sub_cancel, HS2.out]; omega⟩
              clear HP HQ HS HS2 rP hq'
              refine wp_region_above (by kernel_rfl) (by kernel_rfl) ?_
              repeat (go_big_quiet_step ((go_at_call 27; first | with_reducible exact Calls.above (hF _) | with_reducible exact Calls.above (hF2 _))))
              refine wpQuiet_nil ?_
              rintro _ ⟨u, rfl⟩
              clear p0 p1 hF2 hle hlt2 hq0 hqq
            all_goals
              have hb3 : Below W0.heap.size W0 u.w := hb2.trans (u.below.mono hb2.size)
              have hbu := hbF.trans (u.below.mono hbF.size)
              have x2' := cellC x2 hb3
              replace v0 := u.cell v0
              replace v1 := u.cell v1
              replace rA := rA.below u.below
              have hl3 := hl.below hb3 (Nat.le_refl _)
              have hr3 : ∀ r ∈ rows, RowIn u.w r := fun r hr' => (hr r hr').below hb3
              clear s0 s1 s2 t0 t1 hF hb2 hbF e1' e2'
              generalize u.w = w3 at *
              go_wp2
              go_loopw [69] (fun m wr => ∃ p : Nat, p ≤ rows.length ∧ m = .int .i64 p ∧ Shut (∀ j, j < p → j ≠ q → ((rows.map MRow.says)[j]?.getD ([], [])).1.getD F false = false) ∧ Below w3.heap.size w3 wr) (fun m _ => rows.length - (intOf m).toNat)
              case atStart => exact ⟨0, Nat.zero_le _, rfl, ⟨fun j hj => by omega⟩, Below.refl _ _⟩
              case round =>
                obtain ⟨p, hp, rfl, HO, hbp⟩ := hrel
                by_cases hlp : p < rows.length
                · obtain ⟨o0, o1⟩ := row_at (hl3.below hbp (Nat.le_refl _)) hlp
                  have rO := (hr3 _ (List.getElem_mem hlp)).below hbp
                  have HSO : Shut ((rows.map MRow.says)[p]?.getD ([], []) = (rows[p].h, rows[p].d)) := ⟨by simp [hlp, MRow.says]⟩
                  generalize rows[p]'hlp = R3 at *
                  obtain ⟨oa, oc, oh, oda, odc, od⟩ := R3
                  simp only [MRow.hv, MRow.dv] at o0 o1 HSO
                  go_upto_region 13 with fail
                  have bd : Below wr.heap.size wr (wr.alloc (.cells #[.slice oa oh.length oc, .slice oda od.length odc] 29)) := (Below.refl _ _).alloc (Nat.le_refl _) _
                  obtain ⟨y0, y1⟩ := Box2.mk wr (.slice oa oh.length oc) (.slice oda od.length odc) 29
                  obtain ⟨w4, hw4⟩ : ∃ w4, wr.alloc (.cells #[.slice oa oh.length oc, .slice oda od.length odc] 29) = w4 := ⟨_, rfl⟩
                  obtain ⟨go', hgo⟩ : ∃ go', wr.heap.size = go' := ⟨_, rfl⟩
                  rw [hw4, hgo] at y0 y1 ⊢
                  rw [hw4] at bd
                  have hb4 : Below w3.heap.size w3 w4 := hbp.trans (bd.mono hbp.size)
                  replace rO := rO.below bd
                  have y0' : ∀ u : Above w4, u.w.cell? ⟨go', 0, none⟩ = some (.slice oa oh.length oc) := fun u => u.cell y0
                  have t0 : ∀ u : Above w4, u.w.cell? ⟨gr, 0, none⟩ = some (.slice ha rh.length hc) := fun u => u.cell (cellC v0 hb4)
                  have t1 : ∀ u : Above w4, u.w.cell? ⟨gr, 1, none⟩ = some (.slice da rd.length dc) := fun u => u.cell (cellC v1 hb4)
                  have hF : ∀ u : Above w4, Calls Try.prog 27 #[.agg #[.slice ha rh.length hc, .slice da rd.length dc]] u.w fun e w' => e = .returned (.int .i64 F) ∧ Below u.w.heap.size u.w w' := fun u => by
                    have h := firstOf_any ⟨ha, hc, rh, da, dc, rd⟩ u.w ((rA.below hb4).below u.below)
                    rw [show firstI rh = F from HFI.out] at h
                    exact h
                  have ne4 : Nonempty (Above w4) := ⟨Above.start w4⟩
                  have hol := rO.2.2.1
                  simp only [maxLen] at hol
                  clear bd hbp o0 o1 hw4 hgo y0 y1 ne v0 v1 x2' hl3 hr3 rA
                  have HON : Shut (((rows.map MRow.says)[p]?.getD ([], [])).1.getD F false = false ∨ p = q → ∀ j, j < p + 1 → j ≠ q → ((rows.map MRow.says)[j]?.getD ([], [])).1.getD F false = false) := ⟨fun h j hj hne => by
                    by_cases e : j = p
                    · subst e
                      rcases h with h | h
                      · exact h
                      · exact absurd h hne
                    · exact HO.out j (by omega) hne⟩
                  by_cases hpq : p = q
                  · have e6 : ((p : Int) != (q : Int)) = false := by simp [hpq]
                    have HN := Shut.mk (HON.out (.inr hpq))
                    clear hpq HON HO HSO rO
                    refine wp_region_above (by kernel_rfl) (by kernel_rfl) ?_
                    repeat (go_big_quiet_step (fail))
                    refine wpQuiet_nil ?_
                    rintro _ ⟨u, rfl⟩
                    have hbn := hb4.trans (u.below.mono hb4.size)
                    clear y0' t0 t1 hF hb4
                    generalize u.w = w5 at *
                    go_wp2
                    go_roundw
                    case rel => exact ⟨p + 1, by omega, by go_num, HN, hbn⟩
                    case measure => simp [intOf]; omega
                  · have e6 : ((p : Int) != (q : Int)) = true := by simp; omega
                    by_cases hFo : F < oh.length
                    · obtain ⟨ob, oo, rfl⟩ := rO.1.some (k := F) (by simpa using hFo)
                      have z1 : ∀ u : Above w4, u.w.cell? ⟨ob, oo + F, none⟩ = some (.bool oh[F]) := fun u => u.cell (rO.1.at (by simp [hFo]))
                      have HG : Shut (((rows.map MRow.says)[p]?.getD ([], [])).1.getD F false = oh[F]) := ⟨by rw [HSO.out]; simp [hFo]⟩
                      cases hx : oh[F]
                      · rw [hx] at z1 HG
                        have HN := Shut.mk (HON.out (.inl HG.out))
                        clear hpq HON HO HSO rO hx HG
                        refine wp_region_above (by kernel_rfl) (by kernel_rfl) ?_
                        repeat (go_big_quiet_step ((go_at_call 27; exact Calls.above (hF _))))
                        refine wpQuiet_nil ?_
                        rintro _ ⟨u, rfl⟩
                        have hbn := hb4.trans (u.below.mono hb4.size)
                        clear y0' t0 t1 hF hb4 z1
                        generalize u.w = w5 at *
                        go_wp2
                        go_roundw
                        case rel => exact ⟨p + 1, by omega, by go_num, HN, hbn⟩
                        case measure => simp [intOf]; omega
                      · rw [hx] at z1 HG
                        have HX : Shut (chkSys n k (rows.map MRow.says) = 4) := ⟨chkSys_form HR.out (by simpa using hm') (i := q) (by simpa using hlt) (HP1.out.not (j := p) (by simpa using hlp) hpq HG.out)⟩
                        clear hpq HON HO HSO rO hx HG
                        refine wp_region_above (by kernel_rfl) (by kernel_rfl) ?_
                        repeat (go_big_quiet_step ((go_at_call 27; exact Calls.above (hF _))))
                        refine wpQuiet_nil ?_
                        rintro _ ⟨u, rfl⟩
                        have hbn := hb4.trans (u.below.mono hb4.size)
                        have hbN := hbu.trans (hbn.mono hbu.size)
                        clear y0' t0 t1 hF hb4 z1
                        generalize u.w = w5 at *
                        go_wp2
                        go_ret
                        exact ⟨ret_int HX.out.symm, hbN⟩
                    · have HG : Shut (((rows.map MRow.says)[p]?.getD ([], [])).1.getD F false = false) := ⟨by rw [HSO.out]; simp only [List.getD_eq_getElem?_getD, List.getElem?_eq_none (show oh.length ≤ F by omega)]; rfl⟩
                      have HN := Shut.mk (HON.out (.inl HG.out))
                      clear hpq HON HO HSO rO HG
                      refine wp_region_above (by kernel_rfl) (by kernel_rfl) ?_
                      repeat (go_big_quiet_step ((go_at_call 27; exact Calls.above (hF _))))
                      refine wpQuiet_nil ?_
                      rintro _ ⟨u, rfl⟩
                      have hbn := hb4.trans (u.below.mono hb4.size)
                      clear y0' t0 t1 hF hb4
                      generalize u.w = w5 at *
                      go_wp2
                      go_roundw
                      case rel => exact ⟨p + 1, by omega, by go_num, HN, hbn⟩
                      case measure => simp [intOf]; omega
                · have HR1 : Shut (∀ i, i < q + 1 → RowOk n k (rows.map MRow.says) i) := ⟨fun i hi => by
                    by_cases e : i = q
                    · subst e; exact HP1.out.ok fun j hj hne => HO.out j (by simp at hj; omega) hne
                    · exact HE.out i (by omega)⟩
                  have hbN := hb3.trans (hbp.mono hb3.size)
                  have hpe : p = rows.length := by omega
                  subst hpe
                  clear HE HO HP1 hl3 hr3 hl hr rA v0 v1 x2' hrl hdl ne hlp hp hbp hb3 hbu
                  go_wp2
                  go_roundw
                  case rel =>
                    exact ⟨q + 1, by omega, by go_num, HR1, hbN⟩
                  case measure =>
                    show rows.length - (intOf (.int .i64 ((q : Int) + 1))).toNat < rows.length - (intOf (.int .i64 (q : Int))).toNat
                    simp [intOf]
                    omega
        · have e2' : ((rd.length : Int) != (k : Int)) = true := by simp; omega
          have HX : Shut (chkSys n k (rows.map MRow.says) = 4) := ⟨chkSys_form HR.out (by simpa using hm') (i := q) (by simpa using hlt) fun ho => e2 (by have := ho.2.1; rw [HS.out] at this; simp only at this; omega)⟩
          clear e1 e2 HE HS hr hl rA
          refine wp_region_above (by kernel_rfl) (by kernel_rfl) ?_
          repeat (go_big_quiet_step (fail))
          refine wpQuiet_nil ?_
          rintro _ ⟨u, rfl⟩
          have hbu := hbF.trans (u.below.mono hbF.size)
          clear s0 s1 s2 t0 t1 hF hbF
          generalize u.w = w3 at *
          go_wp2
          go_ret
          exact ⟨ret_int HX.out.symm, hbu⟩
      · have e1' : ((rh.length : Int) != (n : Int)) = true := by simp; omega
        have HX : Shut (chkSys n k (rows.map MRow.says) = 4) := ⟨chkSys_form HR.out (by simpa using hm') (i := q) (by simpa using hlt) fun ho => e1 (by have := ho.1; rw [HS.out] at this; simp only at this; omega)⟩
        clear e1 HE HS hr hl rA
        refine wp_region_above (by kernel_rfl) (by kernel_rfl) ?_
        repeat (go_big_quiet_step (fail))
        refine wpQuiet_nil ?_
        rintro _ ⟨u, rfl⟩
        have hbu := hbF.trans (u.below.mono hbF.size)
        clear s0 s1 s2 t0 t1 hF hbF
        generalize u.w = w3 at *
        go_wp2
        go_ret
        exact ⟨ret_int HX.out.symm, hbu⟩
    · have HX : Shut (chkSys n k (rows.map MRow.says) = 0) := ⟨chkSys_ok HR.out (by simpa using hm') fun i hi => HE.out i (by simp at hi; omega)⟩
      clear hl hr HE
      go_wp2
      go_ret
      exact ⟨ret_int HX.out.symm, hb.trans (hbr.mono hb.size)⟩

/-- CheckSystem answers chkSys -/
theorem checkSystem_any (s : MSys) (w : World) (hs : SysIn w s) :
    Calls Try.prog 8 #[.agg #[.int .i64 s.B, .int .i64 s.K, .slice s.ra s.rows.length s.rc]] w fun e w' => e = .returned (.int .i64 (chkSys s.B s.K (s.rows.map MRow.says))) ∧ Below w.heap.size w w' := by
  by_cases h1 : 1 ≤ s.B ∧ s.B ≤ 24
  · by_cases h2 : 1 ≤ s.K ∧ s.K ≤ 16
    · by_cases h3 : s.B < s.rows.length
      · rw [chkSys_many ⟨h1.1, h1.2, h2.1, h2.2⟩ (by simpa using h3)]
        exact checkSystem_many s.B s.K s.ra s.rows.length s.rc w h1 h2 hs.2.2 h3
      · obtain ⟨n, hn⟩ : ∃ n : Nat, s.B = n := ⟨s.B.toNat, by omega⟩
        obtain ⟨k, hk⟩ : ∃ k : Nat, s.K = k := ⟨s.K.toNat, by omega⟩
        rw [hn, hk]
        exact checkSystem_rows n k s.ra s.rc s.rows w (by omega) (by omega) (by omega) hs.1 hs.2.1
    · rw [chkSys_range (by omega)]
      exact checkSystem_range2 s.B s.K s.ra s.rows.length s.rc w h1 h2
  · rw [chkSys_range (by omega)]
    exact checkSystem_range1 s.B s.K s.ra s.rows.length s.rc w h1

end Go.Proofs.Ytclbmfjincekfab
