/-
  solve.Check, solve.New: the contract of each.
-/
import Derived.Test.YtclbmfjincekfabSlv1
namespace Go.Proofs.Ytclbmfjincekfab
open Go.RowKit
set_option linter.unusedVariables false
set_option linter.unusedSimpArgs false

/-- the first block of the row ahead -/
def aheadI (A : List LRow) (q : Nat) : Int := if q = 0 then -1 else firstI (A[q - 1]?.getD ([], [])).1

theorem firstI_ge (h : List Bool) : -1 ≤ firstI h := by
  rcases firstI_range h with e | ⟨m, e, _⟩ <;> omega

theorem aheadI_ge (A : List LRow) (q : Nat) : -1 ≤ aheadI A q := by
  unfold aheadI
  split
  · omega
  · exact firstI_ge _

theorem firstI_lt (h : List Bool) : firstI h < h.length ∨ h.length = 0 ∧ firstI h = -1 := by
  rcases firstI_range h with e | ⟨m, e, hm, _⟩
  · rcases Nat.eq_zero_or_pos h.length with h0 | h0 <;> omega
  · omega

theorem checkS_range (B K : Int) (ra : Option Addr) (n rc : Nat) (w : World) (h : ¬ (1 ≤ B ∧ B ≤ 24 ∧ 1 ≤ K ∧ K ≤ 16)) :
    Calls Try.prog 10 #[.agg #[.int .i64 B, .int .i64 K, .slice ra n rc]] w fun e w' => e = .returned (.int .i64 3) ∧ Below w.heap.size w w' := by
  have hb : Below w.heap.size w (w.alloc (.cells #[.int .i64 B, .int .i64 K, .slice ra n rc] 24)) := (Below.refl _ _).alloc (Nat.le_refl _) _
  obtain ⟨x0, x1, x2⟩ := Box3.mk w (.int .i64 B) (.int .i64 K) (.slice ra n rc) 24
  by_cases h1 : B < 1
  · clear h
    go_enter Try.func10, Try.ntmps10
    go_wp2
    go_ret
    exact ⟨rfl, hb⟩
  · by_cases h2 : 24 < B
    · clear h
      go_enter Try.func10, Try.ntmps10
      go_wp2
      go_ret
      exact ⟨rfl, hb⟩
    · by_cases h3 : K < 1
      · clear h
        go_enter Try.func10, Try.ntmps10
        go_wp2
        go_ret
        exact ⟨rfl, hb⟩
      · have h4 : 16 < K := by omega
        clear h
        go_enter Try.func10, Try.ntmps10
        go_wp2
        go_ret
        exact ⟨rfl, hb⟩

theorem checkS_many (B K : Int) (ra : Option Addr) (n rc : Nat) (w : World) (h : 1 ≤ B ∧ B ≤ 24 ∧ 1 ≤ K ∧ K ≤ 16) (hn : n ≤ maxLen) (h2 : B < n) :
    Calls Try.prog 10 #[.agg #[.int .i64 B, .int .i64 K, .slice ra n rc]] w fun e w' => e = .returned (.int .i64 2) ∧ Below w.heap.size w w' := by
  unfold maxLen at hn
  have hb : Below w.heap.size w (w.alloc (.cells #[.int .i64 B, .int .i64 K, .slice ra n rc] 24)) := (Below.refl _ _).alloc (Nat.le_refl _) _
  obtain ⟨x0, x1, x2⟩ := Box3.mk w (.int .i64 B) (.int .i64 K) (.slice ra n rc) 24
  obtain ⟨h1, h3, h4, h5⟩ := h
  have g1 : ¬ B < 1 := by omega
  have g2 : ¬ 24 < B := by omega
  have g3 : ¬ K < 1 := by omega
  have g4 : ¬ 16 < K := by omega
  go_enter Try.func10, Try.ntmps10
  go_wp2
  go_ret
  exact ⟨rfl, hb⟩

set_option maxRecDepth 4000 in
set_option maxHeartbeats 2000000 in
theorem checkS_rows (n k : Nat) (ra : Option Addr) (rc : Nat) (rows : List MRow) (w : World) (h1 : 1 ≤ n ∧ n ≤ 24) (h2 : 1 ≤ k ∧ k ≤ 16) (hm : rows.length ≤ n) (hl : Lies w ra (rowCells rows)) (hr : ∀ r ∈ rows, RowIn w r) :
    Calls Try.prog 10 #[.agg #[.int .i64 n, .int .i64 k, .slice ra rows.length rc]] w fun e w' => e = .returned (.int .i64 (chkSys n k (rows.map MRow.says))) ∧ Below w.heap.size w w' := by
  have hb : Below w.heap.size w (w.alloc (.cells #[.int .i64 n, .int .i64 k, .slice ra rows.length rc] 24)) := (Below.refl _ _).alloc (Nat.le_refl _) _
  obtain ⟨x0, x1, x2⟩ := Box3.mk w (.int .i64 n) (.int .i64 k) (.slice ra rows.length rc) 24
  have HR : Shut (1 ≤ (n : Int) ∧ (n : Int) ≤ 24 ∧ 1 ≤ (k : Int) ∧ (k : Int) ≤ 16) := ⟨by omega⟩
  obtain ⟨h3, h4⟩ := h1
  obtain ⟨h5, h6⟩ := h2
  have g1 : ¬ n < 1 := by omega
  have g2 : ¬ 24 < n := by omega
  have g3 : ¬ k < 1 := by omega
  have g4 : ¬ 16 < k := by omega
  have hm' : ¬ (n : Int) < rows.length := by omega
  have hmN : ¬ n < rows.length := by omega
  have HM := Shut.mk hm'
  go_enter Try.func10, Try.ntmps10
  go_wp2
  replace hl := hl.below hb (Nat.le_refl _)
  replace hr : ∀ r ∈ rows, RowIn _ r := fun r hr' => (hr r hr').below hb
  obtain ⟨W0, hW0⟩ : ∃ W0, w.alloc (.cells #[.int .i64 n, .int .i64 k, .slice ra rows.length rc] 24) = W0 := ⟨_, rfl⟩
  rw [hW0] at hb hl x0 x1 x2 ⊢
  rw [hW0] at hr
  clear hW0
  go_loopw [36] (fun m wr => ∃ q : Nat, q ≤ rows.length ∧ m = .int .i64 q ∧ Shut (∀ r ∈ rows.take q, Fits n k r.says) ∧ Below W0.heap.size W0 wr) (fun m _ => rows.length - (intOf m).toNat)
  case atStart => exact ⟨0, Nat.zero_le _, rfl, ⟨fun i hi => by simp at hi⟩, Below.refl _ _⟩
  case round =>
    obtain ⟨q, hq, rfl, HE, hbr⟩ := hrel
    by_cases hlt : q < rows.length
    · obtain ⟨ab, ao, rfl⟩ := hl.some (k := 2 * q) (by rw [rowCells_length]; omega)
      obtain ⟨a0, a1⟩ := row_at (hl.below hbr (Nat.le_refl _)) hlt
      have rA := (hr _ (List.getElem_mem hlt)).below hbr
      have HN : Shut (Fits n k rows[q].says → ∀ r ∈ rows.take (q + 1), Fits n k r.says) := ⟨fun hf r hr' => by
        rw [List.take_succ_eq_append_getElem hlt] at hr'
        rcases List.mem_append.1 hr' with h | h
        · exact HE.out r h
        · simp at h; rw [h]; exact hf⟩
      have HX : Shut (¬ Fits n k rows[q].says → chkSys n k (rows.map MRow.says) = 4) := ⟨fun hf => chkSys_form HR.out (by simpa using HM.out) (i := q) (by simpa using hlt) fun ho => hf ⟨by have := ho.1; simp [hlt] at this; omega, by have := ho.2.1; simp [hlt] at this; omega⟩⟩
      generalize rows[q]'hlt = R at *
      have bd : Below wr.heap.size wr (wr.alloc (.cells #[R.hv, R.dv] 29)) := (Below.refl _ _).alloc (Nat.le_refl _) _
      obtain ⟨v0, v1⟩ := Box2.mk wr R.hv R.dv 29
      have y0 := cellC (cellC x0 hbr) bd
      have y1 := cellC (cellC x1 hbr) bd
      have y2 := cellC (cellC x2 hbr) bd
      have hF := fits_any n k (some ⟨ab, ao, none⟩) rows.length rc R _ (rA.below bd)
      have hb2 := hbr.trans (bd.mono hbr.size)
      clear HE bd rA hbr
      obtain ⟨ha, hc, rh, da, dc, rd⟩ := R
      simp only [MRow.hv, MRow.dv] at *
      go_wp2_with fail
      refine hF.mono ?_
      rintro e w2 ⟨rfl, hbF⟩
      have hb3 := hb2.trans (hbF.mono hb2.size)
      clear hF hbF hb2 y0 y1 y2 v0 v1 a0 a1
      by_cases hf : (rh.length : Int) = n ∧ (rd.length : Int) = k
      · rw [decide_eq_true hf]
        have HN2 := Shut.mk (HN.out ⟨by show rh.length = n; omega, by show rd.length = k; omega⟩)
        clear HN HX hf
        go_wp2
        go_roundw
        case rel => exact ⟨q + 1, by omega, by go_num, HN2, hb3⟩
        case measure => simp [intOf]; omega
      · rw [decide_eq_false hf]
        have HX2 := Shut.mk (HX.out fun hh => hf ⟨by have h := hh.1; simp only [MRow.says] at h; omega, by have h := hh.2; simp only [MRow.says] at h; omega⟩)
        clear HN HX hf
        go_wp2
        go_ret
        exact ⟨ret_int HX2.out.symm, hb.trans (hb3.mono hb.size)⟩
    · have HA : Shut (∀ r ∈ rows, Fits n k r.says) := ⟨by have h := HE.out; rwa [List.take_of_length_le (by omega)] at h⟩
      have z2 := cellC x2 hbr
      clear HE
      go_wp2
      obtain ⟨W1, rfl⟩ : ∃ W1, W1 = wr := ⟨wr, rfl⟩
      clear hq hlt
      go_loopw [5, 48] (fun ah m wr => ∃ q : Nat, q ≤ rows.length ∧ m = .int .i64 q ∧ ah = .int .i64 (aheadI (rows.map MRow.says) q) ∧ Shut (∀ i, i < q → RowOk n k (rows.map MRow.says) i) ∧ Below W0.heap.size W0 wr) (fun _ m _ => rows.length - (intOf m).toNat)
      case atStart => exact ⟨0, Nat.zero_le _, rfl, rfl, ⟨fun i hi => by omega⟩, hbr⟩
      case round =>
        clear hbr z2
        obtain ⟨q, hq, rfl, rfl, HE, hbr⟩ := hrel
        have HAG := Shut.mk (aheadI_ge (rows.map MRow.says) q)
        by_cases hlt : q < rows.length
        · obtain ⟨ab, ao, rfl⟩ := hl.some (k := 2 * q) (by rw [rowCells_length]; omega)
          obtain ⟨a0, a1⟩ := row_at (hl.below hbr (Nat.le_refl _)) hlt
          have rA := (hr _ (List.getElem_mem hlt)).below hbr
          have HQ : Shut ((rows.map MRow.says)[q]?.getD ([], []) = rows[q].says) := ⟨by simp [hlt]⟩
          have HF := Shut.mk (HA.out _ (List.getElem_mem hlt))
          have HAH : Shut (aheadI (rows.map MRow.says) (q + 1) = firstI rows[q].h) := ⟨by simp [aheadI, hlt, MRow.says]⟩
          have HNO : Shut (firstI rows[q].h ≤ aheadI (rows.map MRow.says) q → chkSys n k (rows.map MRow.says) = 4) := ⟨fun hle => chkSys_form HR.out (by simpa using HM.out) (i := q) (by simpa using hlt) fun ho => by
            have o1 := ho.2.2.1
            have o2 := ho.2.2.2.1
            rw [HQ.out] at o1 o2
            simp only [MRow.says] at o1 o2 hle
            unfold aheadI at hle
            split at hle
            · omega
            · have := o2 (by omega)
              omega⟩
          have HHO : Shut (∀ F : Nat, firstI rows[q].h = F → holdL (rows.map MRow.says) F ≠ 1 → chkSys n k (rows.map MRow.says) = 4) := ⟨fun F hF hne => chkSys_form HR.out (by simpa using HM.out) (i := q) (by simpa using hlt) fun ho => by
            refine hne ((hold_one (i := q) (by simpa using hlt) ?_).2 ?_)
            · rw [List.getElem_map]
              exact (firstI_lead (r := rows[q].says).1 hF).1
            · intro j hj hji
              have o3 := ho.2.2.2.2 j hj hji
              rw [HQ.out, getD_get hj] at o3
              simp only [MRow.says] at o3
              rw [hF] at o3
              simpa using o3⟩
          have HOK : Shut (∀ F : Nat, firstI rows[q].h = F → aheadI (rows.map MRow.says) q < F → holdL (rows.map MRow.says) F = 1 → ∀ i, i < q + 1 → RowOk n k (rows.map MRow.says) i) := ⟨fun F hF hgt h1 i hi => by
            by_cases e : i = q
            · subst e
              refine ⟨by rw [HQ.out]; have := HF.out.1; omega, by rw [HQ.out]; have := HF.out.2; omega, by rw [HQ.out]; simp only [MRow.says]; omega, ?_, ?_⟩
              · intro h0
                rw [HQ.out]
                simp only [MRow.says]
                unfold aheadI at hgt
                rw [if_neg (by omega)] at hgt
                rw [hF]
                exact hgt
              · intro j hj hji
                have := (hold_one (A := rows.map MRow.says) (i := i) (f := F) (by simpa using hlt) (by rw [List.getElem_map]; exact (firstI_lead (r := rows[i].says).1 hF).1)).1 h1 j hj hji
                rw [HQ.out, getD_get hj]
                simp only [MRow.says]
                rw [hF]
                simpa using this
            · exact HE.out i (by omega)⟩
          have hRN : ∀ r ∈ rows, r.h.length = n := fun r hr' => (HA.out r hr').1
          generalize rows[q]'hlt = R at *
          have bd : Below wr.heap.size wr (wr.alloc (.cells #[R.hv, R.dv] 29)) := (Below.refl _ _).alloc (Nat.le_refl _) _
          obtain ⟨v0, v1⟩ := Box2.mk wr R.hv R.dv 29
          have hC := first_any R _ (rA.below bd)
          have hb2 := hbr.trans (bd.mono hbr.size)
          have HFN := Shut.mk HF.out.1
          clear HE bd hbr HQ HF
          have hlen := firstI_lt R.h
          obtain ⟨ha, hc, rh, da, dc, rd⟩ := R
          simp only [MRow.hv, MRow.dv, MRow.says] at *
          rw [HFN.out] at hlen
          generalize aheadI (rows.map MRow.says) q = ah at *
          go_wp2_with fail
          refine hC.mono ?_
          rintro e w2 ⟨rfl, hbF⟩
          have hb3 := hb2.trans (hbF.mono hb2.size)
          clear hC hbF hb2 v0 v1 a0 a1 rA
          by_cases hle : firstI rh ≤ ah
          · have HX := Shut.mk (HNO.out hle)
            clear HNO HHO HOK HAH hlen hl hr hRN
            generalize firstI rh = F at *
            go_wp2
            go_ret
            exact ⟨ret_int HX.out.symm, hb.trans (hb3.mono hb.size)⟩
          · have HGE := HAG.out
            obtain ⟨F, hF⟩ : ∃ F : Nat, firstI rh = F := ⟨(firstI rh).toNat, by omega⟩
            have hFn : F < n := by omega
            have HH := holders_any (some ⟨ab, ao, none⟩) rc rows F n w2 (by omega) (hl.below hb3 (Nat.le_refl _)) (fun r hr' => (hr r hr').below hb3) hRN hFn h4
            replace HHO := Shut.mk (HHO.out F hF)
            replace HOK := Shut.mk (HOK.out F hF (by omega))
            have y2 := cellC x2 hb3
            rw [hF] at hle HAH ⊢
            clear HNO hF hlen hl hr hRN HGE
            go_wp2_with fail
            refine HH.mono ?_
            rintro e w3 ⟨rfl, hb4⟩
            have hb5 := hb3.trans (hb4.mono hb3.size)
            clear HH hb4 hb3 y2
            by_cases hone : holdL (rows.map MRow.says) F = 1
            · have HN := Shut.mk (HOK.out hone)
              have e1 : (((holdL (rows.map MRow.says) F : Nat) : Int) != 1) = false := by simp [hone]
              clear hone HOK HHO
              generalize holdL (rows.map MRow.says) F = cn at *
              go_wp2
              go_roundw
              case rel => exact ⟨q + 1, by omega, by go_num, by rw [HAH.out], HN, hb5⟩
              case measure => simp [intOf]; omega
            · have HX := Shut.mk (HHO.out hone)
              have e1 : (((holdL (rows.map MRow.says) F : Nat) : Int) != 1) = true := by simp; omega
              clear hone HOK HHO
              generalize holdL (rows.map MRow.says) F = cn at *
              go_wp2
              go_ret
              exact ⟨ret_int HX.out.symm, hb.trans (hb5.mono hb.size)⟩
        · have HX : Shut (chkSys n k (rows.map MRow.says) = 0) := ⟨chkSys_ok HR.out (by simpa using HM.out) fun i hi => HE.out i (by simp at hi; omega)⟩
          clear HE HA hl hr HAG
          generalize aheadI (rows.map MRow.says) q = ah at *
          go_wp2
          go_ret
          exact ⟨ret_int HX.out.symm, hb.trans (hbr.mono hb.size)⟩

/-- solve.Check of any system -/
theorem checkS_any (s : MSys) (w : World) (hs : SysIn w s) :
    Calls Try.prog 10 #[.agg #[.int .i64 s.B, .int .i64 s.K, .slice s.ra s.rows.length s.rc]] w fun e w' => e = .returned (.int .i64 (chkSys s.B s.K (s.rows.map MRow.says))) ∧ Below w.heap.size w w' := by
  by_cases h1 : 1 ≤ s.B ∧ s.B ≤ 24 ∧ 1 ≤ s.K ∧ s.K ≤ 16
  · by_cases h2 : s.B < s.rows.length
    · rw [chkSys_many h1 (by simpa using h2)]
      exact checkS_many _ _ _ _ _ w h1 hs.2.2 h2
    · obtain ⟨B, K, ra, rc, rows⟩ := s
      simp only at *
      obtain ⟨n, rfl⟩ : ∃ n : Nat, B = n := ⟨B.toNat, by omega⟩
      obtain ⟨k, rfl⟩ : ∃ k : Nat, K = k := ⟨K.toNat, by omega⟩
      exact checkS_rows n k ra rc rows w (by omega) (by omega) (by omega) hs.1 hs.2.1
  · rw [chkSys_range h1]
    exact checkS_range _ _ _ _ _ w h1

end Go.Proofs.Ytclbmfjincekfab
