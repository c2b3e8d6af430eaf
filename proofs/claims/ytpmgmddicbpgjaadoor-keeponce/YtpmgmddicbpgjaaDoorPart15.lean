import Derived.Test.YtpmgmddicbpgjaaDoorPart14
import Derived.Test.YtpmgmddicbpgjaaDoorPart6
import Derived.Test.YtpmgmddicbpgjaaDoorPart1
import Derived.Test.YtpmgmddicbpgjaaDoorPart4
/-
  solve.Known: its contract.
-/
namespace Go.Proofs.YtpmgmddicbpgjaaDoor
open Go.RowKit
set_option linter.unusedVariables false
set_option linter.unusedSimpArgs false

/-- where Check says no -/
theorem knownS_chk (s : MSys) (w : World) (hs : SysIn w s) (h : chkSys s.B s.K (s.rows.map MRow.says) ≠ 0) :
    Calls Tryd.prog 64 #[.agg #[.int .i64 s.B, .int .i64 s.K, .slice s.ra s.rows.length s.rc]] w fun e w' => e = .returned (.tuple #[.slice none 0 0, .int .i64 (chkSys s.B s.K (s.rows.map MRow.says))]) ∧ Below w.heap.size w w' := by
  have hB : Below w.heap.size w (w.alloc (.cells #[.int .i64 s.B, .int .i64 s.K, .slice s.ra s.rows.length s.rc] 105)) := (Below.refl _ _).alloc (Nat.le_refl _) _
  obtain ⟨x0, x1, x2⟩ := Box3.mk w (.int .i64 s.B) (.int .i64 s.K) (.slice s.ra s.rows.length s.rc) 105
  have hC := checkS_any s _ (hs.below hB)
  obtain ⟨q, hq⟩ : ∃ q, chkSys s.B s.K (s.rows.map MRow.says) = q := ⟨_, rfl⟩
  rw [hq] at hC h ⊢
  have h1 : (q != 0) = true := by simpa using h
  clear hs hq h
  obtain ⟨B, K, ra, rc, rows⟩ := s
  simp only at *
  go_enter Tryd.func64, Tryd.ntmps64
  go_wp2_with fail
  refine hC.mono ?_
  rintro e w1 ⟨rfl, hb⟩
  have hb1 := hB.trans (hb.mono hB.size)
  clear hC hb x0 x1 x2 hB
  go_wp2
  go_ret2
  exact ⟨rfl, hb1⟩

/-- the list in the making -/
def KnInv (w wr : World) (g n : Nat) (A : List LRow) : Prop :=
  Below w.heap.size w wr ∧ w.heap.size ≤ g ∧ g < wr.heap.size ∧ ∃ bl : List Blk, bl.length = n ∧ wr.rowIs g 36 n (fun j => (bl[j]?.getD nilB).val) ∧ AllIn wr bl ∧
    (∀ b ∈ bl, (∀ c o, b.a = some ⟨c, o, none⟩ → c ≠ g) ∧ b.l.length ≤ b.cap ∧ (b.l = [] → b = nilB)) ∧ bl.map Blk.l = knownL n A

theorem KnInv.start {w W0 : World} {n : Nat} (hb : Below w.heap.size w W0) : KnInv w (W0.alloc (.cells (madeCells #[Value.slice none 0 0] n) 36)) W0.heap.size n [] := by
  refine ⟨hb.alloc hb.size _, hb.size, by simp, List.replicate n nilB, by simp, ?_, ?_, ?_, ?_⟩
  · refine (World.rowIs_made W0 _ n _).congr fun j hj => ?_
    simp [hj, nilB, Blk.val]
  · intro b hb'
    obtain rfl := List.eq_of_mem_replicate hb'
    exact ⟨Lies.nil _ _, by simp [nilB, maxLen]⟩
  · intro b hb'
    obtain rfl := List.eq_of_mem_replicate hb'
    exact ⟨(fun c o e => by cases e), Nat.le_refl _, fun _ => rfl⟩
  · simp [knownL, nilB]

theorem KnInv.below {w wr w' : World} {g n : Nat} {A : List LRow} (h : KnInv w wr g n A) (hb : Below wr.heap.size wr w') : KnInv w w' g n A := by
  obtain ⟨h1, h2, h3, bl, h4, h5, h6, h7⟩ := h
  exact ⟨h1.trans (hb.mono h1.size), h2, by have := hb.size; omega, bl, h4, rowIs_below h5 hb h3, h6.below hb, h7⟩

/-- a row that has one block alone -/
theorem KnInv.put {w wr : World} {g n F q : Nat} {p : Option Addr} {A : List LRow} {r : MRow} (h : KnInv w wr g n A) (hc : r.h.count true = 1) (hF : firstI r.h = F) (hd : 0 < r.d.length) (hl : Lies wr p (bs r.d)) (hm : r.d.length ≤ maxLen) (hq : r.d.length ≤ q) (hp : ∀ c o, p = some ⟨c, o, none⟩ → c ≠ g) :
    KnInv w (wr.setCell ⟨g, F, none⟩ (.slice p r.d.length q)) g n (A ++ [r.says]) := by
  obtain ⟨h1, h2, h3, bl, h4, h5, h6, h7, h8⟩ := h
  have gr := grown_setCell wr g F (.slice p r.d.length q)
  refine ⟨h1.setCell (p := ⟨g, F, none⟩) (by simpa using h2) _, h2, by simpa using h3, bl.set F ⟨p, q, r.d⟩, by simpa using h4, ?_, ?_, ?_, ?_⟩
  · refine (h5.set F _).congr fun j hj => ?_
    by_cases e : j = F
    · subst e
      simp [h4, hj, Blk.val]
    · rw [if_neg e, List.getElem?_set_ne (Ne.symm e)]
  · intro b hb'
    rcases List.mem_or_eq_of_mem_set hb' with hm' | rfl
    · exact ⟨lies_grown gr (h6 b hm').1 (h7 b hm').1, (h6 b hm').2⟩
    · exact ⟨lies_grown gr hl hp, hm⟩
  · intro b hb'
    rcases List.mem_or_eq_of_mem_set hb' with hm' | rfl
    · exact h7 b hm'
    · exact ⟨hp, hq, fun e => by simp only at e; rw [e] at hd; simp at hd⟩
  · rw [knownL_snoc, kSet, show r.says.1.count true = 1 from hc, if_pos rfl, List.map_set, h8]
    show _ = (knownL n A).set (firstI r.h).toNat r.d
    rw [hF]
    simp

theorem KnInv.pass {w wr : World} {g n : Nat} {A : List LRow} {r : MRow} (h : KnInv w wr g n A) (hc : ¬ r.h.count true = 1) : KnInv w wr g n (A ++ [r.says]) := by
  obtain ⟨h1, h2, h3, bl, h4, h5, h6, h7, h8⟩ := h
  refine ⟨h1, h2, h3, bl, h4, h5, h6, h7, ?_⟩
  rw [knownL_snoc, kSet, if_neg (by exact hc), h8]

/-- what Known answers of right rows -/
def KnAns (w w' : World) (n : Nat) (A : List LRow) (e : Ending) : Prop :=
  ∃ (g : Nat) (bl : List Blk), e = .returned (.tuple #[.slice (some ⟨g, 0, none⟩) n n, .int .i64 0]) ∧ Lies w' (some ⟨g, 0, none⟩) (bl.map Blk.val) ∧ AllIn w' bl ∧ (∀ b ∈ bl, b.l.length ≤ b.cap ∧ (b.l = [] → b = nilB)) ∧ bl.map Blk.l = knownL n A ∧ Below w.heap.size w w'

set_option maxRecDepth 4000 in
set_option maxHeartbeats 2000000 in
theorem knownS_right (n k m : Nat) (ra : Option Addr) (rc : Nat) (rows : List MRow) (A : List LRow) (w : World) (hl : Lies w ra (rowCells rows)) (hall : ∀ x ∈ rows, RowIn w x) (hcap : ∀ x ∈ rows, x.h.length ≤ x.hc) (hmm : rows.length = m) (hAA : rows.map MRow.says = A) (hR : Right n k A) :
    Calls Tryd.prog 64 #[.agg #[.int .i64 n, .int .i64 k, .slice ra m rc]] w fun e w' => KnAns w w' n A e := by
  have hB : Below w.heap.size w (w.alloc (.cells #[.int .i64 n, .int .i64 k, .slice ra m rc] 105)) := (Below.refl _ _).alloc (Nat.le_refl _) _
  obtain ⟨x0, x1, x2⟩ := Box3.mk w (.int .i64 n) (.int .i64 k) (.slice ra m rc) 105
  have n1 := hR.n1
  have n2 := hR.n2
  have k1 := hR.k1
  have k2 := hR.k2
  have hAl : A.length = m := by rw [← hAA]; simpa using hmm
  have hmr : m ≤ n := by have := hR.few; omega
  have hm : m ≤ 24 := by omega
  have hC := checkS_rows n k ra rc rows _ ⟨n1, n2⟩ ⟨k1, k2⟩ (by omega) (hl.below hB (Nat.le_refl _)) (fun x hx => (hall x hx).below hB)
  rw [hmm, hAA, chk_of_right hR] at hC
  have hmk := run_make_row' (P := Tryd.prog) 109 36 (.slice none 0 0) 24 Tryd.underlying109 infoBlk rfl .i64 .i64 n (by omega) (by omega)
  have HMM := Shut.mk hmm
  have HAA := Shut.mk hAA
  have HA := Shut.mk hAl
  have HRT := Shut.mk hR
  have HL := Shut.mk (And.intro hl (And.intro hall hcap))
  clear hmm hAA hAl hR hall hcap
  go_enter Tryd.func64, Tryd.ntmps64
  go_wp2_with fail
  refine hC.mono ?_
  rintro e w1 ⟨rfl, hb⟩
  have y0 := cellC x0 hb
  have y1 := cellC x1 hb
  have y2 := cellC x2 hb
  have hb1 := hB.trans (hb.mono hB.size)
  have H0 := Shut.mk (KnInv.start (n := n) hb1)
  have y2' : (w1.alloc (.cells (madeCells #[Value.slice none 0 0] n) 36)).cell? ⟨w.heap.size, 2, none⟩ = some (.slice ra m rc) := cellA' y2 _
  clear hC hb x0 x1 x2 hB
  go_wp2
  clear y0 y1 y2 y2' hmk hl
  generalize w1.alloc (.cells (madeCells #[Value.slice none 0 0] n) 36) = W2 at *
  go_loopw [20] (fun v wr => ∃ q : Nat, q ≤ m ∧ v = .int .i64 q ∧ Shut (KnInv w wr w1.heap.size n (A.take q))) (fun v _ => m - (intOf v).toNat)
  case atStart => exact ⟨0, Nat.zero_le _, rfl, H0⟩
  case round =>
    clear H0 hb1
    obtain ⟨q, hq, rfl, HI⟩ := hrel
    by_cases hlt : q < m
    · have hqR : q < rows.length := by rw [HMM.out]; exact hlt
      have hqA : q < A.length := by rw [HA.out]; exact hlt
      have hlb := HL.out.1.below HI.out.1 (Nat.le_refl _)
      obtain ⟨ab, ao, haa⟩ := hlb.some (k := 2 * q) (by rw [rowCells_length]; omega)
      rw [haa] at hlb
      obtain ⟨a0, a1⟩ := row_at hlb hqR
      have rA := (HL.out.2.1 _ (List.getElem_mem hqR)).below HI.out.1
      have hcp := HL.out.2.2 _ (List.getElem_mem hqR)
      have HS : Shut (rows[q].says = A[q]) := ⟨by simp [← HAA.out]⟩
      have HT : Shut (A.take (q + 1) = A.take q ++ [rows[q].says]) := ⟨by rw [HS.out]; exact List.take_succ_eq_append_getElem hqA⟩
      have hfit := HRT.out.fits _ (List.getElem_mem hqA)
      rw [← HS.out] at hfit
      obtain ⟨F, hFi⟩ : ∃ F : Nat, firstI rows[q].h = F := by
        obtain ⟨j, hj⟩ := HRT.out.sys.lead _ (List.mem_map_of_mem (List.getElem_mem hqA))
        rw [← HS.out] at hj
        exact ⟨j, firstI_lead.2 hj⟩
      generalize rows[q]'hqR = O at *
      have bd : Below wr.heap.size wr (wr.alloc (.cells #[O.hv, O.dv] 124)) := (Below.refl _ _).alloc (Nat.le_refl _) _
      obtain ⟨v0, v1⟩ := Box2.mk wr O.hv O.dv 124
      have hCF := first_any O _ (rA.below bd)
      rw [hFi] at hCF
      have HI2 := Shut.mk (HI.out.below bd)
      have HRA := Shut.mk (rA.below bd)
      have HFI := Shut.mk hFi
      have HFIT := Shut.mk hfit
      have HCNT : Shut (O.h.count true = 1 ↔ ¬ true ∈ O.h.drop (F + 1)) := ⟨count_one hFi⟩
      have hFl : F < O.h.length := by have h1 := firstI_lt O.h; omega
      have hO24 : O.h.length ≤ 24 := by have := hfit.1; simp only [MRow.says] at this; omega
      have HDK : Shut (O.d.length = k) := ⟨hfit.2⟩
      have HgW : Shut (w1.heap.size < wr.heap.size) := ⟨HI.out.2.2.1⟩
      clear bd rA HI hlb hFi hfit
      obtain ⟨oha, ohc, oh, oda, odc, od⟩ := O
      simp only [MRow.hv, MRow.dv] at *
      subst haa
      go_wp2_with fail
      refine hCF.mono ?_
      rintro e w2 ⟨rfl, hb2⟩
      replace HI2 := Shut.mk (HI2.out.below hb2)
      replace HRA := Shut.mk (HRA.out.below hb2)
      have z0 := cellC v0 hb2
      have z1 := cellC v1 hb2
      have HgW2 : Shut (w1.heap.size < w2.heap.size) := ⟨by have h1 := hb2.size; have h2 := HgW.out; simp at h1; omega⟩
      clear hCF hb2 v0 v1 a0 a1 HgW
      obtain ⟨ob, oo, hoo⟩ := HRA.out.1.some (k := F) (by simpa using hFl)
      simp only at hoo
      subst hoo
      have hdl : oh.length - (F + 1) = (oh.drop (F + 1)).length := by simp
      have hCn : ∀ (a : Option Addr) (c : Nat), (a = some ⟨ob, oo + (F + 1), none⟩ ∨ oh.length = F + 1) → Calls Tryd.prog 74 #[.slice a (oh.length - (F + 1)) c, .bool true] w2 fun e w' => e = .returned (.bool (decide (true ∈ oh.drop (F + 1)))) ∧ w2 = w' := fun a c h => by
        rw [hdl]
        refine containsT_any a c (oh.drop (F + 1)) w2 (by unfold maxLen; simp; omega) ?_
        rcases h with rfl | h
        · refine Lies.mk fun j hj => ?_
          have := HRA.out.1.at (k := F + 1 + j) (u := .bool (oh[F + 1 + j]'(by simp at hj; omega))) (by simp)
          simp only [List.getElem_map, List.getElem_drop]
          rw [← this]
          congr 2
          omega
        · rw [List.drop_of_length_le (by omega)]
          exact Lies.nil _ _
      clear hdl
      have hFn : F < n := by have h1 := HFIT.out.1; simp only [MRow.says] at h1; omega
      obtain ⟨b, hbm⟩ : ∃ b, decide (true ∈ oh.drop (F + 1)) = b := ⟨_, rfl⟩
      simp only [hbm] at hCn
      have HB := Shut.mk hbm
      clear hbm
      by_cases hcc : ohc = F + 1
      all_goals
        go_wp2_with fail
        refine (hCn _ _ (by first | exact .inl rfl | exact .inr (by omega))).mono ?_
        rintro e w3 ⟨rfl, rfl⟩
        clear hCn
        cases b
        · have hc1 : oh.count true = 1 := HCNT.out.2 (of_decide_eq_false HB.out)
          have HC1 := Shut.mk hc1
          obtain ⟨db, do', hdd⟩ := HRA.out.2.1.some (k := 0) (by simp [bs]; have := HDK.out; omega)
          simp only at hdd
          subst hdd
          have hCl := cloneD_any db do' odc od.length od w2 rfl (by have := HDK.out; omega) HRA.out.2.1
          clear hc1
          go_wp2_with fail
          refine hCl.mono ?_
          rintro e w4 ⟨p4, q4, rfl, l4, hb4, hq4, hn4⟩
          have HI4 := HI2.out.below hb4
          have R1 : Shut (KnInv w (w4.setCell ⟨w1.heap.size, F, none⟩ (.slice p4 od.length q4)) w1.heap.size n (A.take (q + 1))) := ⟨by
            rw [HT.out]
            exact HI4.put (r := ⟨some ⟨ob, oo, none⟩, ohc, oh, some ⟨db, do', none⟩, odc, od⟩) HC1.out HFI.out (by have := HDK.out; show 0 < od.length; omega) l4 HRA.out.2.2.2 hq4 (fun c o e => by have := hn4 c o e; have := HgW2.out; omega)⟩
          obtain ⟨_, _, _, bl, j4, j5, _⟩ := HI4
          have c0 := j5.cell hFn
          have cf := j5.frozen F
          generalize (bl[F]?.getD nilB).val = y0 at *
          clear j4 j5 hCl hb4 hn4 l4 HI2 z0 z1
          go_wp2
          go_roundw
          case rel => exact ⟨q + 1, by omega, by go_num, R1⟩
          case measure => simp [intOf]; omega
        · have R1 : Shut (KnInv w w2 w1.heap.size n (A.take (q + 1))) := ⟨by
            rw [HT.out]
            exact HI2.out.pass fun hc => HCNT.out.1 hc (of_decide_eq_true HB.out)⟩
          clear HI2 z0 z1
          go_wp2
          go_roundw
          case rel => exact ⟨q + 1, by omega, by go_num, R1⟩
          case measure => simp [intOf]; omega
    · have HE : Shut (KnInv w wr w1.heap.size n A) := ⟨by have h := HI.out; rwa [List.take_of_length_le (by rw [HA.out]; omega)] at h⟩
      clear HI
      go_wp2
      go_ret2
      obtain ⟨h1, h2, h3, bl, h4, h5, h6, h7, h8⟩ := HE.out
      refine ⟨w1.heap.size, bl, rfl, ?_, h6, fun b hb => (h7 b hb).2, h8, h1⟩
      have := rowIs_lies h5
      have e : (List.range n).map (fun j => (bl[j]?.getD nilB).val) = bl.map Blk.val := by
        apply List.ext_getElem
        · simp [h4]
        · intro i p1 p2
          simp at p2
          simp [p2]
      rwa [e] at this

/-- solve.Known of a right system -/
theorem knownS_good (n k : Nat) (ra : Option Addr) (rc : Nat) (rows : List MRow) (w : World) (hl : Lies w ra (rowCells rows)) (hall : ∀ x ∈ rows, RowIn w x) (hcap : ∀ x ∈ rows, x.h.length ≤ x.hc) (hR : Right n k (rows.map MRow.says)) :
    Calls Tryd.prog 64 #[.agg #[.int .i64 n, .int .i64 k, .slice ra rows.length rc]] w fun e w' => KnAns w w' n (rows.map MRow.says) e :=
  knownS_right n k rows.length ra rc rows _ w hl hall hcap rfl rfl hR

end Go.Proofs.YtpmgmddicbpgjaaDoor

/-
  The closed fact 'solved': it is true.
-/
namespace Go.Proofs.YtpmgmddicbpgjaaDoor
open Go.RowKit
set_option linter.unusedVariables false
set_option linter.unusedSimpArgs false

theorem right_nil {n k : Nat} (n1 : 1 ≤ n) (n2 : n ≤ 24) (k1 : 1 ≤ k) (k2 : k ≤ 16) : Right n k [] := ⟨n1, n2, k1, k2, (fun r hr => by cases hr), Sys.nil⟩

/-- a row of two blocks, one byte each, in two blocks of memory laid anew -/
theorem row2_in (w : World) (x y : Bool) (z : UInt8) : RowIn ((w.alloc (.cells #[.bool x, .bool y] 4)).alloc (.cells #[.int .u8 (z.toNat : Int)] 5)) ⟨some ⟨w.heap.size, 0, none⟩, 2, [x, y], some ⟨w.heap.size + 1, 0, none⟩, 1, [z]⟩ := by
  obtain ⟨b0, b1⟩ := alloc2 w (.cells #[.bool x, .bool y] 4) (.cells #[.int .u8 (z.toNat : Int)] 5)
  refine ⟨Lies.of_block b0, Lies.of_block b1, by simp [maxLen], by simp [maxLen]⟩

/-- solve.Add of a row of two blocks -/
theorem add2_any (w : World) (x y : Bool) (z : UInt8) (a : Option Addr) (c m : Nat) (rows : List MRow) (A : List LRow) (hm : A.length = m) (hl : Lies w a (rowCells rows)) (hr : ∀ r ∈ rows, RowIn w r) (hs : rows.map MRow.says = A) (hR : Right 2 1 A) :
    Calls Tryd.prog 72 #[.agg #[.int .i64 2, .int .i64 1, .slice a m c], .agg #[.slice (some ⟨w.heap.size, 0, none⟩) 2 2, .slice (some ⟨w.heap.size + 1, 0, none⟩) 1 1]] ((w.alloc (.cells #[.bool x, .bool y] 4)).alloc (.cells #[.int .u8 (z.toNat : Int)] 5)) fun e w' =>
      AddAnsC ((w.alloc (.cells #[.bool x, .bool y] 4)).alloc (.cells #[.int .u8 (z.toNat : Int)] 5)) w' 2 1 A ([x, y], [z]) e := by
  have hb : Below w.heap.size w ((w.alloc (.cells #[.bool x, .bool y] 4)).alloc (.cells #[.int .u8 (z.toNat : Int)] 5)) := ((Below.refl _ _).alloc (Nat.le_refl _) _).alloc (by simp) _
  have hml : rows.length = m := by rw [← hm, ← hs]; simp
  exact addS_right 2 1 m a c rows A ⟨some ⟨w.heap.size, 0, none⟩, 2, [x, y], some ⟨w.heap.size + 1, 0, none⟩, 1, [z]⟩ _ _ (hl.below hb (Nat.le_refl _)) (fun r hr' => (hr r hr').below hb) (row2_in w x y z) hml hs rfl hR ⟨rfl, rfl⟩

theorem p1 : addL [] ([true, true], [7]) = some [([true, true], [7])] := by decide
theorem p2 : addL [([true, true], [7])] ([false, true], [3]) = some [([true, false], [4]), ([false, true], [3])] := by decide
theorem p3 : addL [([true, false], [4]), ([false, true], [3])] ([true, false], [4]) = some [([true, false], [4]), ([false, true], [3])] := by decide
theorem p4 : addL [([true, false], [4]), ([false, true], [3])] ([true, false], [5]) = none := by decide
theorem p5 : knownL 2 [([true, false], [4]), ([false, true], [3])] = [[4], [3]] := by decide

end Go.Proofs.YtpmgmddicbpgjaaDoor

/-
  The closed fact 'solved': it is true.
-/
namespace Go.Proofs.YtpmgmddicbpgjaaDoor
open Go.RowKit
set_option linter.unusedVariables false
set_option linter.unusedSimpArgs false

theorem add2_some (w : World) (x y : Bool) (z : UInt8) (a : Option Addr) (c m m' : Nat) (rows : List MRow) (A P : List LRow) (bb : Bool) (hm : A.length = m) (hl : Lies w a (rowCells rows)) (hr : ∀ r ∈ rows, RowIn w r) (hs : rows.map MRow.says = A) (hR : Right 2 1 A) (hP : addL A ([x, y], [z]) = some P) (hm' : P.length = m') (hbb : decide (P.length = A.length + 1) = bb) :
    Calls Tryd.prog 72 #[.agg #[.int .i64 2, .int .i64 1, .slice a m c], .agg #[.slice (some ⟨w.heap.size, 0, none⟩) 2 2, .slice (some ⟨w.heap.size + 1, 0, none⟩) 1 1]] ((w.alloc (.cells #[.bool x, .bool y] 4)).alloc (.cells #[.int .u8 (z.toNat : Int)] 5)) fun e w' =>
      ∃ (a' : Option Addr) (c' : Nat) (rows' : List MRow), e = .returned (.tuple #[.agg #[.int .i64 2, .int .i64 1, .slice a' m' c'], .bool bb, .int .i64 0]) ∧ Lies w' a' (rowCells rows') ∧ (∀ r ∈ rows', RowIn w' r ∧ r.h.length ≤ r.hc) ∧ rows'.map MRow.says = P ∧ (∀ b o, a' = some ⟨b, o, none⟩ → w.heap.size ≤ b) ∧ Below w.heap.size w w' := by
  have hb : Below w.heap.size w ((w.alloc (.cells #[.bool x, .bool y] 4)).alloc (.cells #[.int .u8 (z.toNat : Int)] 5)) := ((Below.refl _ _).alloc (Nat.le_refl _) _).alloc (by simp) _
  refine (add2_any w x y z a c m rows A hm hl hr hs hR).mono ?_
  rintro e w' ⟨hb1, ⟨h0, _⟩ | ⟨P', a', c', rows', h1, rfl, h3, h4, h5, h6⟩⟩
  · rw [hP] at h0; cases h0
  · rw [hP] at h1
    cases h1
    have hlen : rows'.length = m' := by rw [← hm', ← h5]; simp
    refine ⟨a', c', rows', by rw [hlen, hbb]; rfl, h3, h4, h5, fun b o e => Nat.le_trans hb.size (h6 b o e), hb.trans (hb1.mono hb.size)⟩

theorem add2_none (w : World) (x y : Bool) (z : UInt8) (a : Option Addr) (c m : Nat) (rows : List MRow) (A : List LRow) (hm : A.length = m) (hl : Lies w a (rowCells rows)) (hr : ∀ r ∈ rows, RowIn w r) (hs : rows.map MRow.says = A) (hR : Right 2 1 A) (hP : addL A ([x, y], [z]) = none) :
    Calls Tryd.prog 72 #[.agg #[.int .i64 2, .int .i64 1, .slice a m c], .agg #[.slice (some ⟨w.heap.size, 0, none⟩) 2 2, .slice (some ⟨w.heap.size + 1, 0, none⟩) 1 1]] ((w.alloc (.cells #[.bool x, .bool y] 4)).alloc (.cells #[.int .u8 (z.toNat : Int)] 5)) fun e w' =>
      e = .returned (.tuple #[.agg #[.int .i64 0, .int .i64 0, .slice none 0 0], .bool false, .int .i64 9]) ∧ Below w.heap.size w w' := by
  have hb : Below w.heap.size w ((w.alloc (.cells #[.bool x, .bool y] 4)).alloc (.cells #[.int .u8 (z.toNat : Int)] 5)) := ((Below.refl _ _).alloc (Nat.le_refl _) _).alloc (by simp) _
  refine (add2_any w x y z a c m rows A hm hl hr hs hR).mono ?_
  rintro e w' ⟨hb1, ⟨h0, rfl⟩ | ⟨P', a', c', rows', h1, rfl, h3, h4, h5, h6⟩⟩
  · exact ⟨rfl, hb.trans (hb1.mono hb.size)⟩
  · rw [hP] at h1; cases h1

/-- a system in a box -/
def SysBox (w : World) (b n k : Nat) (a : Option Addr) (m c : Nat) (rows : List MRow) (A : List LRow) : Prop :=
  w.heap[b]? = some (.cells #[.int .i64 n, .int .i64 k, .slice a m c] 105 (0, 0)) ∧ Lies w a (rowCells rows) ∧ (∀ r ∈ rows, RowIn w r ∧ r.h.length ≤ r.hc) ∧ rows.map MRow.says = A

theorem SysBox.below {w w' : World} {b n k m c : Nat} {a : Option Addr} {rows : List MRow} {A : List LRow} (h : SysBox w b n k a m c rows A) (hb : Below w.heap.size w w') : SysBox w' b n k a m c rows A :=
  ⟨blk_below h.1 hb, h.2.1.below hb (Nat.le_refl _), fun r hr => ⟨(h.2.2.1 r hr).1.below hb, (h.2.2.1 r hr).2⟩, h.2.2.2⟩

theorem SysBox.cells {w : World} {b n k m c : Nat} {a : Option Addr} {rows : List MRow} {A : List LRow} (h : SysBox w b n k a m c rows A) : w.cell? ⟨b, 0, none⟩ = some (.int .i64 n) ∧ w.cell? ⟨b, 1, none⟩ = some (.int .i64 k) ∧ w.cell? ⟨b, 2, none⟩ = some (.slice a m c) ∧ ∀ j, w.frozen? ⟨b, j, none⟩ = false := by
  have x0 := cell_blk h.1 0
  have x1 := cell_blk h.1 1
  have x2 := cell_blk h.1 2
  simp at x0 x1 x2
  exact ⟨x0, x1, x2, fun j => frozen_blk h.1 j⟩

/-- another one is put into the box -/
theorem SysBox.put {w : World} {b n k m m' c c' : Nat} {a a' : Option Addr} {rows rows' : List MRow} {A P : List LRow} (h : SysBox w b n k a m c rows A) (hl : Lies w a' (rowCells rows')) (hr : ∀ r ∈ rows', RowIn w r ∧ r.h.length ≤ r.hc) (hs : rows'.map MRow.says = P) (hne : ∀ c o, a' = some ⟨c, o, none⟩ → c ≠ b) (hP : Right n k P) :
    SysBox (((w.setCell ⟨b, 0, none⟩ (.int .i64 n)).setCell ⟨b, 1, none⟩ (.int .i64 k)).setCell ⟨b, 2, none⟩ (.slice a' m' c')) b n k a' m' c' rows' P := by
  have gr := grown_trans (grown_trans (grown_setCell w b 0 (.int .i64 n)) (grown_setCell _ b 1 (.int .i64 k))) (grown_setCell _ b 2 (.slice a' m' c'))
  refine ⟨?_, lies_grown gr hl hne, fun r hr' => ?_, hs⟩
  · have e := heap_set (o := 2) (v := .slice a' m' c') (heap_set (o := 1) (v := .int .i64 k) (heap_set (o := 0) (v := .int .i64 n) h.1))
    rw [e]
    simp
  · have hf := hP.fits _ (by rw [← hs]; exact List.mem_map_of_mem hr')
    have h1 := hf.1
    have h2 := hf.2
    have k1 := hP.k1
    have n1 := hP.n1
    simp only [MRow.says] at h1 h2
    exact ⟨(hr r hr').1.far (by omega) (by omega) h.1 (boxy3 _ _ _ _ _) gr, (hr r hr').2⟩

theorem boxB {w w1 : World} (hb : Below w.heap.size w w1) (o : Obj) : Below w.heap.size w (w1.alloc o) := hb.alloc hb.size o

/-- the system that 'solved' makes -/
theorem r2 : Right 2 1 [([true, true], [7])] := (addL_right (right_nil (by decide) (by decide) (by decide) (by decide)) ⟨rfl, rfl⟩ p1).1
theorem r3 : Right 2 1 [([true, false], [4]), ([false, true], [3])] := (addL_right r2 ⟨rfl, rfl⟩ p2).1

end Go.Proofs.YtpmgmddicbpgjaaDoor

/-
  pick.next and pick.howMany: the contract of each.
-/
namespace Go.Proofs.YtpmgmddicbpgjaaDoor
open Go.RowKit
set_option linter.unusedVariables false
set_option linter.unusedSimpArgs false

/-- the variable's cells -/
def limV : List Value := [.int .i64 8192, .int .i64 40960, .int .i64 51882, .int .i64 57344, .int .i64 60621]

/-- the program's limits are laid as its text lays them -/
def Laid (w : World) : Prop := Lies w (some ⟨0, 0, none⟩) limV

theorem Laid.below {w w' : World} (h : Laid w) (hb : Below w.heap.size w w') : Laid w' := Lies.below hb h (Nat.le_refl _)

theorem next_any (x : Nat) (w : World) (hx : x < 65536) :
    Calls Tryd.prog 79 #[.int .i64 x] w fun e w' => e = .returned (.int .i64 (nx x : Nat)) ∧ w = w' := by
  go_enter Tryd.func79, Tryd.ntmps79
  go_wp2
  go_ret
  exact ⟨ret_int (by simp [nx]), rfl⟩

theorem howMany_any (x b : Nat) (w : World) (hx : x < 65536) (hb : b ≤ 24) (hL : Laid w) :
    Calls Tryd.prog 80 #[.int .i64 x, .int .i64 b] w fun e w' => e = .returned (.int .i64 (many b x : Nat)) ∧ w = w' := by
  have c0 := Lies.at hL (k := 0) rfl
  have c1 := Lies.at hL (k := 1) rfl
  have c2 := Lies.at hL (k := 2) rfl
  have c3 := Lies.at hL (k := 3) rfl
  have c4 := Lies.at hL (k := 4) rfl
  have i0 : ∀ W : World, (Instr.index 138 (.agg #[.int .i64 8192, .int .i64 40960, .int .i64 51882, .int .i64 57344, .int .i64 60621]) (.int .i64 0)).run Tryd.prog W = .ok (.int .i64 8192) W := fun _ => by kernel_rfl
  have i1 : ∀ W : World, (Instr.index 138 (.agg #[.int .i64 8192, .int .i64 40960, .int .i64 51882, .int .i64 57344, .int .i64 60621]) (.int .i64 1)).run Tryd.prog W = .ok (.int .i64 40960) W := fun _ => by kernel_rfl
  have i2 : ∀ W : World, (Instr.index 138 (.agg #[.int .i64 8192, .int .i64 40960, .int .i64 51882, .int .i64 57344, .int .i64 60621]) (.int .i64 2)).run Tryd.prog W = .ok (.int .i64 51882) W := fun _ => by kernel_rfl
  have i3 : ∀ W : World, (Instr.index 138 (.agg #[.int .i64 8192, .int .i64 40960, .int .i64 51882, .int .i64 57344, .int .i64 60621]) (.int .i64 3)).run Tryd.prog W = .ok (.int .i64 57344) W := fun _ => by kernel_rfl
  have i4 : ∀ W : World, (Instr.index 138 (.agg #[.int .i64 8192, .int .i64 40960, .int .i64 51882, .int .i64 57344, .int .i64 60621]) (.int .i64 4)).run Tryd.prog W = .ok (.int .i64 60621) W := fun _ => by kernel_rfl
  go_enter Tryd.func80, Tryd.ntmps80
  clear hL
  go_wp2
  clear c0 c1 c2 c3 c4
  go_loopw [8] (fun i wr => ∃ k : Nat, k ≤ 5 ∧ i = .int .i64 k ∧ wr = w ∧ Hid (∀ j, j < k → lim.getD j 0 ≤ x)) (fun i _ => 5 - (intOf i).toNat)
  case atStart => exact ⟨0, Nat.zero_le _, rfl, rfl, fun j hj => by omega⟩
  case round =>
    obtain ⟨k, hk, rfl, rfl, HL⟩ := hrel
    by_cases hlt : k < 5
    · by_cases hx2 : x < lim.getD k 0
      · have HM : Hid (many b x = min (k + 1) b) := many_at hlt HL.out hx2
        have h5 : k = 0 ∨ k = 1 ∨ k = 2 ∨ k = 3 ∨ k = 4 := by omega
        clear hlt hk HL
        obtain ⟨L, hLk⟩ : ∃ L : Int, L = lim.getD k 0 := ⟨_, rfl⟩
        have hx3 : (x : Int) < L := by omega
        have hi : ∀ W : World, (Instr.index 138 (.agg #[.int .i64 8192, .int .i64 40960, .int .i64 51882, .int .i64 57344, .int .i64 60621]) (.int .i64 k)).run Tryd.prog W = .ok (.int .i64 L) W := by
          rcases h5 with rfl | rfl | rfl | rfl | rfl
          · rw [hLk]; exact i0
          · rw [hLk]; exact i1
          · rw [hLk]; exact i2
          · rw [hLk]; exact i3
          · rw [hLk]; exact i4
        have hk5 : (k : Int) < 5 := by omega
        clear i0 i1 i2 i3 i4 hLk hx2 h5 hx
        go_wp2
        all_goals go_ret
        all_goals exact ⟨ret_int (by rw [HM.out]; omega), rfl⟩
      · have HN : Hid (∀ j, j < k + 1 → lim.getD j 0 ≤ x) := fun j hj => by
          by_cases e : j = k
          · subst e; omega
          · exact HL.out j (by omega)
        have h5 : k = 0 ∨ k = 1 ∨ k = 2 ∨ k = 3 ∨ k = 4 := by omega
        clear hlt hk HL
        obtain ⟨L, hLk⟩ : ∃ L : Int, L = lim.getD k 0 := ⟨_, rfl⟩
        have hx3 : L ≤ (x : Int) := by omega
        have hi : ∀ W : World, (Instr.index 138 (.agg #[.int .i64 8192, .int .i64 40960, .int .i64 51882, .int .i64 57344, .int .i64 60621]) (.int .i64 k)).run Tryd.prog W = .ok (.int .i64 L) W := by
          rcases h5 with rfl | rfl | rfl | rfl | rfl
          · rw [hLk]; exact i0
          · rw [hLk]; exact i1
          · rw [hLk]; exact i2
          · rw [hLk]; exact i3
          · rw [hLk]; exact i4
        have hk5 : (k : Int) < 5 := by omega
        clear i0 i1 i2 i3 i4 hLk hx2 hx
        go_wp2
        go_roundw
        case rel => exact ⟨k + 1, by omega, by go_num, trivial, HN⟩
        case measure => simp [intOf]; omega
    · obtain rfl : k = 5 := by omega
      have HM : Hid (many b x = max (b / 2) 1) := many_end HL.out
      clear hlt hk HL
      go_wp2
      all_goals go_ret
      all_goals exact ⟨ret_int (by rw [HM.out]; omega), rfl⟩

end Go.Proofs.YtpmgmddicbpgjaaDoor

/-
  pick.Of: its contract.
-/
namespace Go.Proofs.YtpmgmddicbpgjaaDoor
open Go.RowKit
set_option linter.unusedVariables false
set_option linter.unusedSimpArgs false

/-- what is wrong with a symbol's number, and a number of blocks -/
def OutOf (id b : Int) : Prop := id < 0 ∨ 9999 < id ∨ b < 1 ∨ 24 < b

instance (id b : Int) : Decidable (OutOf id b) := by unfold OutOf; infer_instance

/-- the cells of the answer -/
def inAt (l : List Nat) (k : Nat) : Value := .bool (decide (k ∈ l))

theorem infoB : (Tryd.prog.info? 4).map (fun i => (i.zero, i.size, i.bytes)) = some (some (.bool false), 1, 1) := by kernel_rfl

theorem of_bad (id b : Int) (w : World) (h : OutOf id b) :
    Calls Tryd.prog 71 #[.int .i64 id, .int .i64 b] w fun e w' => e = .returned (.tuple #[.slice none 0 0, .int .i64 3]) ∧ w = w' := by
  have h1 : id < 0 ∨ 0 ≤ id := by omega
  have h2 : 9999 < id ∨ id ≤ 9999 := by omega
  have h3 : b < 1 ∨ 1 ≤ b := by omega
  unfold OutOf at h
  rcases h1 with h1 | h1
  · clear h h2 h3
    go_enter Tryd.func71, Tryd.ntmps71
    go_wp2
    go_ret2
    exact ⟨rfl, rfl⟩
  rcases h2 with h2 | h2
  · clear h h3
    go_enter Tryd.func71, Tryd.ntmps71
    go_wp2
    go_ret2
    exact ⟨rfl, rfl⟩
  rcases h3 with h3 | h3
  · clear h
    go_enter Tryd.func71, Tryd.ntmps71
    go_wp2
    go_ret2
    exact ⟨rfl, rfl⟩
  have h4 : 24 < b := by omega
  clear h
  go_enter Tryd.func71, Tryd.ntmps71
  go_wp2
  go_ret2
  exact ⟨rfl, rfl⟩

theorem inAt_none (k : Nat) : inAt [] k = .bool false := by simp [inAt]

theorem madeAt {b i : Nat} (h : i < b) : (madeCells #[Value.bool false] b)[i]? = some (.bool false) := by simp [madeCells, h, Nat.mod_one]

theorem row_one {w : World} {b i : Nat} {t : TypeId} (h : i < b) : (w.alloc (.cells ((madeCells #[Value.bool false] b).setIfInBounds i (.bool true)) t)).rowIs w.heap.size t b (inAt [i]) := by
  refine ⟨_, by rw [heap_alloc_eq, if_pos rfl], by simp [size_madeCells], fun j hj => ?_⟩
  rw [Array.getElem?_setIfInBounds]
  by_cases e : i = j
  · subst e
    rw [if_pos rfl, if_pos (by simpa [size_madeCells] using hj)]
    simp [inAt]
  · rw [if_neg e, madeAt hj]
    simp [inAt, show ¬ j = i from fun h => e h.symm]

theorem of_low (i b : Nat) (w : World) (hi : i ≤ 9999) (h1 : 1 ≤ b) (hb : b ≤ 24) (hlt : i < b) :
    Calls Tryd.prog 71 #[.int .i64 i, .int .i64 b] w fun e w' => ∃ g, e = .returned (.tuple #[.slice (some ⟨g, 0, none⟩) b b, .int .i64 0]) ∧ w.heap.size ≤ g ∧ w'.rowIs g 4 b (inAt (chosen b i)) ∧ Below w.heap.size w w' := by
  have hmk := run_make_row' (P := Tryd.prog) 118 4 (.bool false) 1 Tryd.underlying118 infoB rfl .i64 .i64 b (by omega) (by omega)
  have hat := madeAt hlt
  go_enter Tryd.func71, Tryd.ntmps71
  go_wp2
  go_ret2
  exact ⟨_, rfl, Nat.le_refl _, by rw [chosen_low hlt]; exact row_one hlt, (Below.refl _ _).alloc (Nat.le_refl _) _⟩

/-- the loop's state after n steps -/
def OfInv (w wr : World) (g b x0 n : Nat) : Prop := wr.rowIs g 4 b (inAt (coll b x0 n)) ∧ Below w.heap.size w wr ∧ g < wr.heap.size

/-- a step that brings nothing new -/
theorem step_old {b x0 n x y k m mi : Nat} (hb : b ≤ 24) (HM1 : Shut (m ≤ b)) (HN : Shut ((coll b x0 n).length < m)) (HXE : Shut (it n x0 = x)) (HME : Shut (m - (coll b x0 n).length = mi)) (HY : Shut (nx x = y)) (HK : Shut (y / 7 % b = k)) (HIN : Shut (k ∈ coll b x0 n)) :
    coll b x0 (n + 1) = coll b x0 n ∧ it (n + 1) x0 = y ∧ toGo b x0 m mi y < toGo b x0 m mi x := by
  have h : newOne b (coll b x0 n) (nx (it n x0)) = false := by
    simp only [newOne, blkOf]
    rw [HXE.out, HY.out, HK.out]
    simpa using HIN.out
  refine ⟨coll_old h, by rw [it_next, HXE.out, HY.out], ?_⟩
  have := toGo_old hb HM1.out HN.out h
  rwa [HXE.out, HY.out, HME.out] at this

/-- a step that brings a new block -/
theorem step_new {b x0 n x y k m mi : Nat} (HN : Shut ((coll b x0 n).length < m)) (HXE : Shut (it n x0 = x)) (HME : Shut (m - (coll b x0 n).length = mi)) (HY : Shut (nx x = y)) (HK : Shut (y / 7 % b = k)) (HIN : Shut (¬ k ∈ coll b x0 n)) :
    coll b x0 (n + 1) = coll b x0 n ++ [k] ∧ it (n + 1) x0 = y ∧ toGo b x0 m (mi - 1) y < toGo b x0 m mi x := by
  have h : newOne b (coll b x0 n) (nx (it n x0)) = true := by
    simp only [newOne, blkOf]
    rw [HXE.out, HY.out, HK.out]
    simpa using HIN.out
  refine ⟨?_, by rw [it_next, HXE.out, HY.out], ?_⟩
  · rw [coll_new h, blkOf, HXE.out, HY.out, HK.out]
  · have := toGo_new (b := b) HN.out y
    rw [HXE.out, HME.out, show m - ((coll b x0 n).length + 1) = mi - 1 by have := HME.out; omega] at this
    exact this

theorem row_set {w : World} {g b k : Nat} {t : TypeId} {l : List Nat} (h : w.rowIs g t b (inAt l)) : (w.setCell ⟨g, k, none⟩ (.bool true)).rowIs g t b (inAt (l ++ [k])) := by
  refine (h.set k _).congr fun j hj => ?_
  by_cases e : j = k
  · subst e; simp [inAt]
  · rw [if_neg e]; simp [inAt, e]

set_option maxHeartbeats 400000 in
theorem of_high (i b : Nat) (w : World) (hi : i ≤ 9999) (h1 : 1 ≤ b) (hb : b ≤ 24) (hge : b ≤ i) (hL : Laid w) :
    Calls Tryd.prog 71 #[.int .i64 i, .int .i64 b] w fun e w' => ∃ g, e = .returned (.tuple #[.slice (some ⟨g, 0, none⟩) b b, .int .i64 0]) ∧ w.heap.size ≤ g ∧ w'.rowIs g 4 b (inAt (chosen b i)) ∧ Below w.heap.size w w' := by
  have hmk := run_make_row' (P := Tryd.prog) 118 4 (.bool false) 1 Tryd.underlying118 infoB rfl .i64 .i64 b (by omega) (by omega)
  have H0 : Shut (OfInv w (w.alloc (.cells (madeCells #[.bool false] b) 4)) w.heap.size b (nx i) 0) :=
    ⟨(World.rowIs_made w _ b _).congr fun j hj => (inAt_none j).symm, (Below.refl _ _).alloc (Nat.le_refl _) _, by simp⟩
  have HL1 : Shut (Laid (w.alloc (.cells (madeCells #[.bool false] b) 4))) := ⟨hL.below ((Below.refl _ _).alloc (Nat.le_refl _) _)⟩
  have HX0 := nx_small i
  have HM1 : Shut (many b (nx i) ≤ b) := ⟨many_le h1 (nx i)⟩
  have HC : Shut (∀ n, (coll b (nx i) n).length = many b (nx i) → chosen b i = coll b (nx i) n) := ⟨fun n hn => chosen_high (by omega) hn⟩
  go_enter Tryd.func71, Tryd.ntmps71
  go_wp2_with fail
  refine (next_any i _ (by omega)).mono ?_
  rintro e w1 ⟨rfl, rfl⟩
  go_wp2_with fail
  refine (howMany_any (nx i) b _ HX0.lt hb HL1.out).mono ?_
  rintro e w1 ⟨rfl, rfl⟩
  clear hL HL1 hmk
  generalize (w.alloc (.cells (madeCells #[.bool false] b) 4)) = w1 at *
  generalize nx i = x0 at *
  generalize many b x0 = m at *
  go_wp2
  go_loopw [7, 8] (fun x mi wr => ∃ n : Nat, (coll b x0 n).length ≤ m ∧ x = .int .i64 (it n x0 : Nat) ∧ mi = .int .i64 (m - (coll b x0 n).length : Nat) ∧ Shut (OfInv w wr w.heap.size b x0 n)) (fun x mi _ => toGo b x0 m (intOf mi).toNat (intOf x).toNat)
  case atStart => exact ⟨0, Nat.zero_le _, rfl, rfl, H0⟩
  case round =>
    clear H0
    obtain ⟨n, hn, rfl, rfl, hI⟩ := hrel
    by_cases hlt : (coll b x0 n).length < m
    · have HN : Shut ((coll b x0 n).length < m) := ⟨hlt⟩
      have hmi : 0 < m - (coll b x0 n).length := by omega
      have hmb : m - (coll b x0 n).length ≤ 24 := by have := HM1.out; omega
      have HS := it_small HX0 n
      clear hlt hn
      generalize hxe : it n x0 = x at *
      have HXE : Shut (it n x0 = x) := ⟨hxe⟩
      generalize hme : m - (coll b x0 n).length = mi at *
      have HME : Shut (m - (coll b x0 n).length = mi) := ⟨hme⟩
      clear hxe hme
      go_wp2_with fail
      refine (next_any x _ HS.lt).mono ?_
      rintro e w2 ⟨rfl, rfl⟩
      obtain ⟨y, hy⟩ : ∃ y, nx x = y := ⟨_, rfl⟩
      rw [hy]
      have HY : Shut (nx x = y) := ⟨hy⟩
      have hyb : y < 1000000 := by have := nx_lt x; omega
      clear hy
      obtain ⟨k, hk⟩ : ∃ k, y / 7 % b = k := ⟨_, rfl⟩
      have hq : (y : Int) / 7 % (b : Int) = (k : Int) := by rw [← hk]; simp
      have hkb : k < b := by rw [← hk]; exact Nat.mod_lt _ (by omega)
      have HK : Shut (y / 7 % b = k) := ⟨hk⟩
      clear hk
      have c1 := hI.out.1.cell hkb
      have c2 := hI.out.1.frozen k
      have z1 := hI.out.2.2
      simp only [inAt] at c1
      by_cases hin : k ∈ coll b x0 n
      · rw [decide_eq_true hin] at c1
        have HIN : Shut (k ∈ coll b x0 n) := ⟨hin⟩
        clear hin
        go_wp2
        obtain ⟨s1, s2, s3⟩ := step_old hb HM1 HN HXE HME HY HK HIN
        exact ⟨⟨n + 1, by rw [s1]; exact Nat.le_of_lt HN.out, by rw [s2], by rw [s1, HME.out], ⟨by have h := hI.out; unfold OfInv at h ⊢; rw [s1]; exact h⟩⟩, s3⟩
      · rw [decide_eq_false hin] at c1
        have HIN : Shut (¬ k ∈ coll b x0 n) := ⟨hin⟩
        clear hin
        go_wp2
        obtain ⟨s1, s2, s3⟩ := step_new HN HXE HME HY HK HIN
        have e1 : (mi : Int) - 1 = ((mi - 1 : Nat) : Int) := by omega
        have hN := HN.out
        have hE := HME.out
        rw [e1]
        refine ⟨⟨n + 1, by rw [s1]; simp; omega, by rw [s2], by rw [s1]; congr 2; simp; omega, ⟨?_⟩⟩, s3⟩
        have h := hI.out
        unfold OfInv at h ⊢
        rw [s1]
        exact ⟨row_set h.1, h.2.1.setCell (Nat.le_refl _) _, by simpa using h.2.2⟩
    · have hz : m - (coll b x0 n).length = 0 := by omega
      have HE : Shut ((coll b x0 n).length = m) := ⟨by omega⟩
      rw [hz]
      clear hz hlt hn
      generalize it n x0 = x at *
      go_wp2
      go_ret2
      exact ⟨_, rfl, Nat.le_refl _, by rw [HC.out n HE.out]; exact hI.out.1, hI.out.2.1⟩

/-- pick.Of -/
theorem of_any (i b : Nat) (w : World) (hi : i ≤ 9999) (h1 : 1 ≤ b) (hb : b ≤ 24) (hL : Laid w) :
    Calls Tryd.prog 71 #[.int .i64 i, .int .i64 b] w fun e w' => ∃ g, e = .returned (.tuple #[.slice (some ⟨g, 0, none⟩) b b, .int .i64 0]) ∧ w.heap.size ≤ g ∧ w'.rowIs g 4 b (inAt (chosen b i)) ∧ Below w.heap.size w w' := by
  by_cases h : i < b
  · exact of_low i b w hi h1 hb h
  · exact of_high i b w hi h1 hb (by omega) hL

end Go.Proofs.YtpmgmddicbpgjaaDoor
