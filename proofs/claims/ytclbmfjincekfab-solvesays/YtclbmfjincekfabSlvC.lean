/-
  solve.Known: its contract.
-/
import Derived.Test.YtclbmfjincekfabSlvA
import Derived.Test.YtclbmfjincekfabRow5
namespace Go.Proofs.Ytclbmfjincekfab
open Go.RowKit
set_option linter.unusedVariables false
set_option linter.unusedSimpArgs false

/-- where Check says no -/
theorem knownS_chk (s : MSys) (w : World) (hs : SysIn w s) (h : chkSys s.B s.K (s.rows.map MRow.says) ≠ 0) :
    Calls Try.prog 7 #[.agg #[.int .i64 s.B, .int .i64 s.K, .slice s.ra s.rows.length s.rc]] w fun e w' => e = .returned (.tuple #[.slice none 0 0, .int .i64 (chkSys s.B s.K (s.rows.map MRow.says))]) ∧ Below w.heap.size w w' := by
  have hB : Below w.heap.size w (w.alloc (.cells #[.int .i64 s.B, .int .i64 s.K, .slice s.ra s.rows.length s.rc] 24)) := (Below.refl _ _).alloc (Nat.le_refl _) _
  obtain ⟨x0, x1, x2⟩ := Box3.mk w (.int .i64 s.B) (.int .i64 s.K) (.slice s.ra s.rows.length s.rc) 24
  have hC := checkS_any s _ (hs.below hB)
  obtain ⟨q, hq⟩ : ∃ q, chkSys s.B s.K (s.rows.map MRow.says) = q := ⟨_, rfl⟩
  rw [hq] at hC h ⊢
  have h1 : (q != 0) = true := by simpa using h
  clear hs hq h
  obtain ⟨B, K, ra, rc, rows⟩ := s
  simp only at *
  go_enter Try.func7, Try.ntmps7
  go_wp2_with fail
  refine hC.mono ?_
  rintro e w1 ⟨rfl, hb⟩
  have hb1 := hB.trans (hb.mono hB.size)
  clear hC hb x0 x1 x2 hB
  go_wp2
  go_ret2
  exact ⟨rfl, hb1⟩

/-- the list in the making -/
def KnInv (w wr : World) (g n : Nat) (A : List LRow) : Prop :=
  Below w.heap.size w wr ∧ w.heap.size ≤ g ∧ g < wr.heap.size ∧ ∃ bl : List Blk, bl.length = n ∧ wr.rowIs g 27 n (fun j => (bl[j]?.getD nilB).val) ∧ AllIn wr bl ∧
    (∀ b ∈ bl, (∀ c o, b.a = some ⟨c, o, none⟩ → c ≠ g) ∧ b.l.length ≤ b.cap ∧ (b.l = [] → b = nilB)) ∧ bl.map Blk.l = knownL n A

theorem KnInv.start {w W0 : World} {n : Nat} (hb : Below w.heap.size w W0) : KnInv w (W0.alloc (.cells (madeCells #[Value.slice none 0 0] n) 27)) W0.heap.size n [] := by
  refine ⟨hb.alloc hb.size _, hb.size, by simp, List.replicate n nilB, by simp, ?_, ?_, ?_, ?_⟩
  · refine (World.rowIs_made W0 _ n _).congr fun j hj => ?_
    simp [hj, nilB, Blk.val]
  · intro b hb'
    obtain rfl := List.eq_of_mem_replicate hb'
    exact ⟨Lies.nil _ _, by simp [nilB, maxLen]⟩
  · intro b hb'
    obtain rfl := List.eq_of_mem_replicate hb'
    exact ⟨(fun c o e => by cases e), Nat.le_refl _, fun _ => rfl⟩
  · simp [knownL, nilB]

theorem KnInv.below {w wr w' : World} {g n : Nat} {A : List LRow} (h : KnInv w wr g n A) (hb : Below wr.heap.size wr w') : KnInv w w' g n A := by
  obtain ⟨h1, h2, h3, bl, h4, h5, h6, h7⟩ := h
  exact ⟨h1.trans (hb.mono h1.size), h2, by have := hb.size; omega, bl, h4, rowIs_below h5 hb h3, h6.below hb, h7⟩

/-- a row that has one block alone -/
theorem KnInv.put {w wr : World} {g n F q : Nat} {p : Option Addr} {A : List LRow} {r : MRow} (h : KnInv w wr g n A) (hc : r.h.count true = 1) (hF : firstI r.h = F) (hd : 0 < r.d.length) (hl : Lies wr p (bs r.d)) (hm : r.d.length ≤ maxLen) (hq : r.d.length ≤ q) (hp : ∀ c o, p = some ⟨c, o, none⟩ → c ≠ g) :
    KnInv w (wr.setCell ⟨g, F, none⟩ (.slice p r.d.length q)) g n (A ++ [r.says]) := by
  obtain ⟨h1, h2, h3, bl, h4, h5, h6, h7, h8⟩ := h
  have gr := grown_setCell wr g F (.slice p r.d.length q)
  refine ⟨h1.setCell (p := ⟨g, F, none⟩) (by simpa using h2) _, h2, by simpa using h3, bl.set F ⟨p, q, r.d⟩, by simpa using h4, ?_, ?_, ?_, ?_⟩
  · refine (h5.set F _).congr fun j hj => ?_
    by_cases e : j = F
    · subst e
      simp [h4, hj, Blk.val]
    · rw [if_neg e, List.getElem?_set_ne (Ne.symm e)]
  · intro b hb'
    rcases List.mem_or_eq_of_mem_set hb' with hm' | rfl
    · exact ⟨lies_grown gr (h6 b hm').1 (h7 b hm').1, (h6 b hm').2⟩
    · exact ⟨lies_grown gr hl hp, hm⟩
  · intro b hb'
    rcases List.mem_or_eq_of_mem_set hb' with hm' | rfl
    · exact h7 b hm'
    · exact ⟨hp, hq, fun e => by simp only at e; rw [e] at hd; simp at hd⟩
  · rw [knownL_snoc, kSet, show r.says.1.count true = 1 from hc, if_pos rfl, List.map_set, h8]
    show _ = (knownL n A).set (firstI r.h).toNat r.d
    rw [hF]
    simp

theorem KnInv.pass {w wr : World} {g n : Nat} {A : List LRow} {r : MRow} (h : KnInv w wr g n A) (hc : ¬ r.h.count true = 1) : KnInv w wr g n (A ++ [r.says]) := by
  obtain ⟨h1, h2, h3, bl, h4, h5, h6, h7, h8⟩ := h
  refine ⟨h1, h2, h3, bl, h4, h5, h6, h7, ?_⟩
  rw [knownL_snoc, kSet, if_neg (by exact hc), h8]

/-- what Known answers of right rows -/
def KnAns (w w' : World) (n : Nat) (A : List LRow) (e : Ending) : Prop :=
  ∃ (g : Nat) (bl : List Blk), e = .returned (.tuple #[.slice (some ⟨g, 0, none⟩) n n, .int .i64 0]) ∧ Lies w' (some ⟨g, 0, none⟩) (bl.map Blk.val) ∧ AllIn w' bl ∧ (∀ b ∈ bl, b.l.length ≤ b.cap ∧ (b.l = [] → b = nilB)) ∧ bl.map Blk.l = knownL n A ∧ Below w.heap.size w w'

set_option maxRecDepth 4000 in
set_option maxHeartbeats 2000000 in
theorem knownS_right (n k m : Nat) (ra : Option Addr) (rc : Nat) (rows : List MRow) (A : List LRow) (w : World) (hl : Lies w ra (rowCells rows)) (hall : ∀ x ∈ rows, RowIn w x) (hcap : ∀ x ∈ rows, x.h.length ≤ x.hc) (hmm : rows.length = m) (hAA : rows.map MRow.says = A) (hR : Right n k A) :
    Calls Try.prog 7 #[.agg #[.int .i64 n, .int .i64 k, .slice ra m rc]] w fun e w' => KnAns w w' n A e := by
  have hB : Below w.heap.size w (w.alloc (.cells #[.int .i64 n, .int .i64 k, .slice ra m rc] 24)) := (Below.refl _ _).alloc (Nat.le_refl _) _
  obtain ⟨x0, x1, x2⟩ := Box3.mk w (.int .i64 n) (.int .i64 k) (.slice ra m rc) 24
  have n1 := hR.n1
  have n2 := hR.n2
  have k1 := hR.k1
  have k2 := hR.k2
  have hAl : A.length = m := by rw [← hAA]; simpa using hmm
  have hmr : m ≤ n := by have := hR.few; omega
  have hm : m ≤ 24 := by omega
  have hC := checkS_rows n k ra rc rows _ ⟨n1, n2⟩ ⟨k1, k2⟩ (by omega) (hl.below hB (Nat.le_refl _)) (fun x hx => (hall x hx).below hB)
  rw [hmm, hAA, chk_of_right hR] at hC
  have hmk := run_make_row' (P := Try.prog) 35 27 (.slice none 0 0) 24 Try.underlying35 infoBlk rfl .i64 .i64 n (by omega) (by omega)
  have HMM := Shut.mk hmm
  have HAA := Shut.mk hAA
  have HA := Shut.mk hAl
  have HRT := Shut.mk hR
  have HL := Shut.mk (And.intro hl (And.intro hall hcap))
  clear hmm hAA hAl hR hall hcap
  go_enter Try.func7, Try.ntmps7
  go_wp2_with fail
  refine hC.mono ?_
  rintro e w1 ⟨rfl, hb⟩
  have y0 := cellC x0 hb
  have y1 := cellC x1 hb
  have y2 := cellC x2 hb
  have hb1 := hB.trans (hb.mono hB.size)
  have H0 := Shut.mk (KnInv.start (n := n) hb1)
  have y2' : (w1.alloc (.cells (madeCells #[Value.slice none 0 0] n) 27)).cell? ⟨w.heap.size, 2, none⟩ = some (.slice ra m rc) := cellA' y2 _
  clear hC hb x0 x1 x2 hB
  go_wp2
  clear y0 y1 y2 y2' hmk hl
  generalize w1.alloc (.cells (madeCells #[Value.slice none 0 0] n) 27) = W2 at *
  go_loopw [20] (fun v wr => ∃ q : Nat, q ≤ m ∧ v = .int .i64 q ∧ Shut (KnInv w wr w1.heap.size n (A.take q))) (fun v _ => m - (intOf v).toNat)
  case atStart => exact ⟨0, Nat.zero_le _, rfl, H0⟩
  case round =>
    clear H0 hb1
    obtain ⟨q, hq, rfl, HI⟩ := hrel
    by_cases hlt : q < m
    · have hqR : q < rows.length := by rw [HMM.out]; exact hlt
      have hqA : q < A.length := by rw [HA.out]; exact hlt
      have hlb := HL.out.1.below HI.out.1 (Nat.le_refl _)
      obtain ⟨ab, ao, haa⟩ := hlb.some (k := 2 * q) (by rw [rowCells_length]; omega)
      rw [haa] at hlb
      obtain ⟨a0, a1⟩ := row_at hlb hqR
      have rA := (HL.out.2.1 _ (List.getElem_mem hqR)).below HI.out.1
      have hcp := HL.out.2.2 _ (List.getElem_mem hqR)
      have HS : Shut (rows[q].says = A[q]) := ⟨by simp [← HAA.out]⟩
      have HT : Shut (A.take (q + 1) = A.take q ++ [rows[q].says]) := ⟨by rw [HS.out]; exact List.take_succ_eq_append_getElem hqA⟩
      have hfit := HRT.out.fits _ (List.getElem_mem hqA)
      rw [← HS.out] at hfit
      obtain ⟨F, hFi⟩ : ∃ F : Nat, firstI rows[q].h = F := by
        obtain ⟨j, hj⟩ := HRT.out.sys.lead _ (List.mem_map_of_mem (List.getElem_mem hqA))
        rw [← HS.out] at hj
        exact ⟨j, firstI_lead.2 hj⟩
      generalize rows[q]'hqR = O at *
      have bd : Below wr.heap.size wr (wr.alloc (.cells #[O.hv, O.dv] 29)) := (Below.refl _ _).alloc (Nat.le_refl _) _
      obtain ⟨v0, v1⟩ := Box2.mk wr O.hv O.dv 29
      have hCF := first_any O _ (rA.below bd)
      rw [hFi] at hCF
      have HI2 := Shut.mk (HI.out.below bd)
      have HRA := Shut.mk (rA.below bd)
      have HFI := Shut.mk hFi
      have HFIT := Shut.mk hfit
      have HCNT : Shut (O.h.count true = 1 ↔ ¬ true ∈ O.h.drop (F + 1)) := ⟨count_one hFi⟩
      have hFl : F < O.h.length := by have h1 := firstI_lt O.h; omega
      have hO24 : O.h.length ≤ 24 := by have := hfit.1; simp only [MRow.says] at this; omega
      have HDK : Shut (O.d.length = k) := ⟨hfit.2⟩
      have HgW : Shut (w1.heap.size < wr.heap.size) := ⟨HI.out.2.2.1⟩
      clear bd rA HI hlb hFi hfit
      obtain ⟨oha, ohc, oh, oda, odc, od⟩ := O
      simp only [MRow.hv, MRow.dv] at *
      subst haa
      go_wp2_with fail
      refine hCF.mono ?_
      rintro e w2 ⟨rfl, hb2⟩
      replace HI2 := Shut.mk (HI2.out.below hb2)
      replace HRA := Shut.mk (HRA.out.below hb2)
      have z0 := cellC v0 hb2
      have z1 := cellC v1 hb2
      have HgW2 : Shut (w1.heap.size < w2.heap.size) := ⟨by have h1 := hb2.size; have h2 := HgW.out; simp at h1; omega⟩
      clear hCF hb2 v0 v1 a0 a1 HgW
      obtain ⟨ob, oo, hoo⟩ := HRA.out.1.some (k := F) (by simpa using hFl)
      simp only at hoo
      subst hoo
      have hdl : oh.length - (F + 1) = (oh.drop (F + 1)).length := by simp
      have hCn : ∀ (a : Option Addr) (c : Nat), (a = some ⟨ob, oo + (F + 1), none⟩ ∨ oh.length = F + 1) → Calls Try.prog 24 #[.slice a (oh.length - (F + 1)) c, .bool true] w2 fun e w' => e = .returned (.bool (decide (true ∈ oh.drop (F + 1)))) ∧ w2 = w' := fun a c h => by
        rw [hdl]
        refine containsT_any a c (oh.drop (F + 1)) w2 (by unfold maxLen; simp; omega) ?_
        rcases h with rfl | h
        · refine Lies.mk fun j hj => ?_
          have := HRA.out.1.at (k := F + 1 + j) (u := .bool (oh[F + 1 + j]'(by simp at hj; omega))) (by simp)
          simp only [List.getElem_map, List.getElem_drop]
          rw [← this]
          congr 2
          omega
        · rw [List.drop_of_length_le (by omega)]
          exact Lies.nil _ _
      clear hdl
      have hFn : F < n := by have h1 := HFIT.out.1; simp only [MRow.says] at h1; omega
      obtain ⟨b, hbm⟩ : ∃ b, decide (true ∈ oh.drop (F + 1)) = b := ⟨_, rfl⟩
      simp only [hbm] at hCn
      have HB := Shut.mk hbm
      clear hbm
      by_cases hcc : ohc = F + 1
      all_goals
        go_wp2_with fail
        refine (hCn _ _ (by first | exact .inl rfl | exact .inr (by omega))).mono ?_
        rintro e w3 ⟨rfl, rfl⟩
        clear hCn
        cases b
        · have hc1 : oh.count true = 1 := HCNT.out.2 (of_decide_eq_false HB.out)
          have HC1 := Shut.mk hc1
          obtain ⟨db, do', hdd⟩ := HRA.out.2.1.some (k := 0) (by simp [bs]; have := HDK.out; omega)
          simp only at hdd
          subst hdd
          have hCl := cloneD_any db do' odc od.length od w2 rfl (by have := HDK.out; omega) HRA.out.2.1
          clear hc1
          go_wp2_with fail
          refine hCl.mono ?_
          rintro e w4 ⟨p4, q4, rfl, l4, hb4, hq4, hn4⟩
          have HI4 := HI2.out.below hb4
          have R1 : Shut (KnInv w (w4.setCell ⟨w1.heap.size, F, none⟩ (.slice p4 od.length q4)) w1.heap.size n (A.take (q + 1))) := ⟨by
            rw [HT.out]
            exact HI4.put (r := ⟨some ⟨ob, oo, none⟩, ohc, oh, some ⟨db, do', none⟩, odc, od⟩) HC1.out HFI.out (by have := HDK.out; show 0 < od.length; omega) l4 HRA.out.2.2.2 hq4 (fun c o e => by have := hn4 c o e; have := HgW2.out; omega)⟩
          obtain ⟨_, _, _, bl, j4, j5, _⟩ := HI4
          have c0 := j5.cell hFn
          have cf := j5.frozen F
          generalize (bl[F]?.getD nilB).val = y0 at *
          clear j4 j5 hCl hb4 hn4 l4 HI2 z0 z1
          go_wp2
          go_roundw
          case rel => exact ⟨q + 1, by omega, by go_num, R1⟩
          case measure => simp [intOf]; omega
        · have R1 : Shut (KnInv w w2 w1.heap.size n (A.take (q + 1))) := ⟨by
            rw [HT.out]
            exact HI2.out.pass fun hc => HCNT.out.1 hc (of_decide_eq_true HB.out)⟩
          clear HI2 z0 z1
          go_wp2
          go_roundw
          case rel => exact ⟨q + 1, by omega, by go_num, R1⟩
          case measure => simp [intOf]; omega
    · have HE : Shut (KnInv w wr w1.heap.size n A) := ⟨by have h := HI.out; rwa [List.take_of_length_le (by rw [HA.out]; omega)] at h⟩
      clear HI
      go_wp2
      go_ret2
      obtain ⟨h1, h2, h3, bl, h4, h5, h6, h7, h8⟩ := HE.out
      refine ⟨w1.heap.size, bl, rfl, ?_, h6, fun b hb => (h7 b hb).2, h8, h1⟩
      have := rowIs_lies h5
      have e : (List.range n).map (fun j => (bl[j]?.getD nilB).val) = bl.map Blk.val := by
        apply List.ext_getElem
        · simp [h4]
        · intro i p1 p2
          simp at p2
          simp [p2]
      rwa [e] at this

/-- solve.Known of a right system -/
theorem knownS_good (n k : Nat) (ra : Option Addr) (rc : Nat) (rows : List MRow) (w : World) (hl : Lies w ra (rowCells rows)) (hall : ∀ x ∈ rows, RowIn w x) (hcap : ∀ x ∈ rows, x.h.length ≤ x.hc) (hR : Right n k (rows.map MRow.says)) :
    Calls Try.prog 7 #[.agg #[.int .i64 n, .int .i64 k, .slice ra rows.length rc]] w fun e w' => KnAns w w' n (rows.map MRow.says) e :=
  knownS_right n k rows.length ra rc rows _ w hl hall hcap rfl rfl hR

end Go.Proofs.Ytclbmfjincekfab
