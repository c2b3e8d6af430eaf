import Derived.Test.YtkiejflgphjfjadDoorPart12
import Derived.Test.YtkiejflgphjfjadDoorPart3
import Derived.Test.YtkiejflgphjfjadDoorPart6
import Derived.Test.YtkiejflgphjfjadDoorPart8
/-
  solve.Known: its contract.
-/
namespace Go.Proofs.YtkiejflgphjfjadDoor
open Go.RowKit
set_option linter.unusedVariables false
set_option linter.unusedSimpArgs false

/-- where Check says no -/
theorem knownS_chk (s : MSys) (w : World) (hs : SysIn w s) (h : chkSys s.B s.K (s.rows.map MRow.says) ≠ 0) :
    Calls Tryd.prog 21 #[.agg #[.int .i64 s.B, .int .i64 s.K, .slice s.ra s.rows.length s.rc]] w fun e w' => e = .returned (.tuple #[.slice none 0 0, .int .i64 (chkSys s.B s.K (s.rows.map MRow.says))]) ∧ Below w.heap.size w w' := by
  have hB : Below w.heap.size w (w.alloc (.cells #[.int .i64 s.B, .int .i64 s.K, .slice s.ra s.rows.length s.rc] 56)) := (Below.refl _ _).alloc (Nat.le_refl _) _
  obtain ⟨x0, x1, x2⟩ := Box3.mk w (.int .i64 s.B) (.int .i64 s.K) (.slice s.ra s.rows.length s.rc) 56
  have hC := checkS_any s _ (hs.below hB)
  obtain ⟨q, hq⟩ : ∃ q, chkSys s.B s.K (s.rows.map MRow.says) = q := ⟨_, rfl⟩
  rw [hq] at hC h ⊢
  have h1 : (q != 0) = true := by simpa using h
  clear hs hq h
  obtain ⟨B, K, ra, rc, rows⟩ := s
  simp only at *
  go_enter Tryd.func21, Tryd.ntmps21
  go_wp2_with fail
  refine hC.mono ?_
  rintro e w1 ⟨rfl, hb⟩
  have hb1 := hB.trans (hb.mono hB.size)
  clear hC hb x0 x1 x2 hB
  go_wp2
  go_ret2
  exact ⟨rfl, hb1⟩

/-- the list in the making -/
def KnInv (w wr : World) (g n : Nat) (A : List LRow) : Prop :=
  Below w.heap.size w wr ∧ w.heap.size ≤ g ∧ g < wr.heap.size ∧ ∃ bl : List Blk, bl.length = n ∧ wr.rowIs g 35 n (fun j => (bl[j]?.getD nilB).val) ∧ AllIn wr bl ∧
    (∀ b ∈ bl, (∀ c o, b.a = some ⟨c, o, none⟩ → c ≠ g) ∧ b.l.length ≤ b.cap ∧ (b.l = [] → b = nilB)) ∧ bl.map Blk.l = knownL n A

theorem KnInv.start {w W0 : World} {n : Nat} (hb : Below w.heap.size w W0) : KnInv w (W0.alloc (.cells (madeCells #[Value.slice none 0 0] n) 35)) W0.heap.size n [] := by
  refine ⟨hb.alloc hb.size _, hb.size, by simp, List.replicate n nilB, by simp, ?_, ?_, ?_, ?_⟩
  · refine (World.rowIs_made W0 _ n _).congr fun j hj => ?_
    simp [hj, nilB, Blk.val]
  · intro b hb'
    obtain rfl := List.eq_of_mem_replicate hb'
    exact ⟨Lies.nil _ _, by simp [nilB, maxLen]⟩
  · intro b hb'
    obtain rfl := List.eq_of_mem_replicate hb'
    exact ⟨(fun c o e => by cases e), Nat.le_refl _, fun _ => rfl⟩
  · simp [knownL, nilB]

theorem KnInv.below {w wr w' : World} {g n : Nat} {A : List LRow} (h : KnInv w wr g n A) (hb : Below wr.heap.size wr w') : KnInv w w' g n A := by
  obtain ⟨h1, h2, h3, bl, h4, h5, h6, h7⟩ := h
  exact ⟨h1.trans (hb.mono h1.size), h2, by have := hb.size; omega, bl, h4, rowIs_below h5 hb h3, h6.below hb, h7⟩

/-- a row that has one block alone -/
theorem KnInv.put {w wr : World} {g n F q : Nat} {p : Option Addr} {A : List LRow} {r : MRow} (h : KnInv w wr g n A) (hc : r.h.count true = 1) (hF : firstI r.h = F) (hd : 0 < r.d.length) (hl : Lies wr p (bs r.d)) (hm : r.d.length ≤ maxLen) (hq : r.d.length ≤ q) (hp : ∀ c o, p = some ⟨c, o, none⟩ → c ≠ g) :
    KnInv w (wr.setCell ⟨g, F, none⟩ (.slice p r.d.length q)) g n (A ++ [r.says]) := by
  obtain ⟨h1, h2, h3, bl, h4, h5, h6, h7, h8⟩ := h
  have gr := grown_setCell wr g F (.slice p r.d.length q)
  refine ⟨h1.setCell (p := ⟨g, F, none⟩) (by simpa using h2) _, h2, by simpa using h3, bl.set F ⟨p, q, r.d⟩, by simpa using h4, ?_, ?_, ?_, ?_⟩
  · refine (h5.set F _).congr fun j hj => ?_
    by_cases e : j = F
    · subst e
      simp [h4, hj, Blk.val]
    · rw [if_neg e, List.getElem?_set_ne (Ne.symm e)]
  · intro b hb'
    rcases List.mem_or_eq_of_mem_set hb' with hm' | rfl
    · exact ⟨lies_grown gr (h6 b hm').1 (h7 b hm').1, (h6 b hm').2⟩
    · exact ⟨lies_grown gr hl hp, hm⟩
  · intro b hb'
    rcases List.mem_or_eq_of_mem_set hb' with hm' | rfl
    · exact h7 b hm'
    · exact ⟨hp, hq, fun e => by simp only at e; rw [e] at hd; simp at hd⟩
  · rw [knownL_snoc, kSet, show r.says.1.count true = 1 from hc, if_pos rfl, List.map_set, h8]
    show _ = (knownL n A).set (firstI r.h).toNat r.d
    rw [hF]
    simp

theorem KnInv.pass {w wr : World} {g n : Nat} {A : List LRow} {r : MRow} (h : KnInv w wr g n A) (hc : ¬ r.h.count true = 1) : KnInv w wr g n (A ++ [r.says]) := by
  obtain ⟨h1, h2, h3, bl, h4, h5, h6, h7, h8⟩ := h
  refine ⟨h1, h2, h3, bl, h4, h5, h6, h7, ?_⟩
  rw [knownL_snoc, kSet, if_neg (by exact hc), h8]

/-- what Known answers of right rows -/
def KnAns (w w' : World) (n : Nat) (A : List LRow) (e : Ending) : Prop :=
  ∃ (g : Nat) (bl : List Blk), e = .returned (.tuple #[.slice (some ⟨g, 0, none⟩) n n, .int .i64 0]) ∧ Lies w' (some ⟨g, 0, none⟩) (bl.map Blk.val) ∧ AllIn w' bl ∧ (∀ b ∈ bl, b.l.length ≤ b.cap ∧ (b.l = [] → b = nilB)) ∧ bl.map Blk.l = knownL n A ∧ Below w.heap.size w w'

set_option maxRecDepth 4000 in
set_option maxHeartbeats 2000000 in
theorem knownS_right (n k m : Nat) (ra : Option Addr) (rc : Nat) (rows : List MRow) (A : List LRow) (w : World) (hl : Lies w ra (rowCells rows)) (hall : ∀ x ∈ rows, RowIn w x) (hcap : ∀ x ∈ rows, x.h.length ≤ x.hc) (hmm : rows.length = m) (hAA : rows.map MRow.says = A) (hR : Right n k A) :
    Calls Tryd.prog 21 #[.agg #[.int .i64 n, .int .i64 k, .slice ra m rc]] w fun e w' => KnAns w w' n A e := by
  have hB : Below w.heap.size w (w.alloc (.cells #[.int .i64 n, .int .i64 k, .slice ra m rc] 56)) := (Below.refl _ _).alloc (Nat.le_refl _) _
  obtain ⟨x0, x1, x2⟩ := Box3.mk w (.int .i64 n) (.int .i64 k) (.slice ra m rc) 56
  have n1 := hR.n1
  have n2 := hR.n2
  have k1 := hR.k1
  have k2 := hR.k2
  have hAl : A.length = m := by rw [← hAA]; simpa using hmm
  have hmr : m ≤ n := by have := hR.few; omega
  have hm : m ≤ 24 := by omega
  have hC := checkS_rows n k ra rc rows _ ⟨n1, n2⟩ ⟨k1, k2⟩ (by omega) (hl.below hB (Nat.le_refl _)) (fun x hx => (hall x hx).below hB)
  rw [hmm, hAA, chk_of_right hR] at hC
  have hmk := run_make_row' (P := Tryd.prog) 26 35 (.slice none 0 0) 24 Tryd.underlying26 infoBlk rfl .i64 .i64 n (by omega) (by omega)
  have HMM := Shut.mk hmm
  have HAA := Shut.mk hAA
  have HA := Shut.mk hAl
  have HRT := Shut.mk hR
  have HL := Shut.mk (And.intro hl (And.intro hall hcap))
  clear hmm hAA hAl hR hall hcap
  go_enter Tryd.func21, Tryd.ntmps21
  go_wp2_with fail
  refine hC.mono ?_
  rintro e w1 ⟨rfl, hb⟩
  have y0 := cellC x0 hb
  have y1 := cellC x1 hb
  have y2 := cellC x2 hb
  have hb1 := hB.trans (hb.mono hB.size)
  have H0 := Shut.mk (KnInv.start (n := n) hb1)
  have y2' : (w1.alloc (.cells (madeCells #[Value.slice none 0 0] n) 35)).cell? ⟨w.heap.size, 2, none⟩ = some (.slice ra m rc) := cellA' y2 _
  clear hC hb x0 x1 x2 hB
  go_wp2
  clear y0 y1 y2 y2' hmk hl
  generalize w1.alloc (.cells (madeCells #[Value.slice none 0 0] n) 35) = W2 at *
  go_loopw [20] (fun v wr => ∃ q : Nat, q ≤ m ∧ v = .int .i64 q ∧ Shut (KnInv w wr w1.heap.size n (A.take q))) (fun v _ => m - (intOf v).toNat)
  case atStart => exact ⟨0, Nat.zero_le _, rfl, H0⟩
  case round =>
    clear H0 hb1
    obtain ⟨q, hq, rfl, HI⟩ := hrel
    by_cases hlt : q < m
    · have hqR : q < rows.length := by rw [HMM.out]; exact hlt
      have hqA : q < A.length := by rw [HA.out]; exact hlt
      have hlb := HL.out.1.below HI.out.1 (Nat.le_refl _)
      obtain ⟨ab, ao, haa⟩ := hlb.some (k := 2 * q) (by rw [rowCells_length]; omega)
      rw [haa] at hlb
      obtain ⟨a0, a1⟩ := row_at hlb hqR
      have rA := (HL.out.2.1 _ (List.getElem_mem hqR)).below HI.out.1
      have hcp := HL.out.2.2 _ (List.getElem_mem hqR)
      have HS : Shut (rows[q].says = A[q]) := ⟨by simp [← HAA.out]⟩
      have HT : Shut (A.take (q + 1) = A.take q ++ [rows[q].says]) := ⟨by rw [HS.out]; exact List.take_succ_eq_append_getElem hqA⟩
      have hfit := HRT.out.fits _ (List.getElem_mem hqA)
      rw [← HS.out] at hfit
      obtain ⟨F, hFi⟩ : ∃ F : Nat, firstI rows[q].h = F := by
        obtain ⟨j, hj⟩ := HRT.out.sys.lead _ (List.mem_map_of_mem (List.getElem_mem hqA))
        rw [← HS.out] at hj
        exact ⟨j, firstI_lead.2 hj⟩
      generalize rows[q]'hqR = O at *
      have bd : Below wr.heap.size wr (wr.alloc (.cells #[O.hv, O.dv] 70)) := (Below.refl _ _).alloc (Nat.le_refl _) _
      obtain ⟨v0, v1⟩ := Box2.mk wr O.hv O.dv 70
      have hCF := first_any O _ (rA.below bd)
      rw [hFi] at hCF
      have HI2 := Shut.mk (HI.out.below bd)
      have HRA := Shut.mk (rA.below bd)
      have HFI := Shut.mk hFi
      have HFIT := Shut.mk hfit
      have HCNT : Shut (O.h.count true = 1 ↔ ¬ true ∈ O.h.drop (F + 1)) := ⟨count_one hFi⟩
      have hFl : F < O.h.length := by have h1 := firstI_lt O.h; omega
      have hO24 : O.h.length ≤ 24 := by have := hfit.1; simp only [MRow.says] at this; omega
      have HDK : Shut (O.d.length = k) := ⟨hfit.2⟩
      have HgW : Shut (w1.heap.size < wr.heap.size) := ⟨HI.out.2.2.1⟩
      clear bd rA HI hlb hFi hfit
      obtain ⟨oha, ohc, oh, oda, odc, od⟩ := O
      simp only [MRow.hv, MRow.dv] at *
      subst haa
      go_wp2_with fail
      refine hCF.mono ?_
      rintro e w2 ⟨rfl, hb2⟩
      replace HI2 := Shut.mk (HI2.out.below hb2)
      replace HRA := Shut.mk (HRA.out.below hb2)
      have z0 := cellC v0 hb2
      have z1 := cellC v1 hb2
      have HgW2 : Shut (w1.heap.size < w2.heap.size) := ⟨by have h1 := hb2.size; have h2 := HgW.out; simp at h1; omega⟩
      clear hCF hb2 v0 v1 a0 a1 HgW
      obtain ⟨ob, oo, hoo⟩ := HRA.out.1.some (k := F) (by simpa using hFl)
      simp only at hoo
      subst hoo
      have hdl : oh.length - (F + 1) = (oh.drop (F + 1)).length := by simp
      have hCn : ∀ (a : Option Addr) (c : Nat), (a = some ⟨ob, oo + (F + 1), none⟩ ∨ oh.length = F + 1) → Calls Tryd.prog 32 #[.slice a (oh.length - (F + 1)) c, .bool true] w2 fun e w' => e = .returned (.bool (decide (true ∈ oh.drop (F + 1)))) ∧ w2 = w' := fun a c h => by
        rw [hdl]
        refine containsT_any a c (oh.drop (F + 1)) w2 (by unfold maxLen; simp; omega) ?_
        rcases h with rfl | h
        · refine Lies.mk fun j hj => ?_
          have := HRA.out.1.at (k := F + 1 + j) (u := .bool (oh[F + 1 + j]'(by simp at hj; omega))) (by simp)
          simp only [List.getElem_map, List.getElem_drop]
          rw [← this]
          congr 2
          omega
        · rw [List.drop_of_length_le (by omega)]
          exact Lies.nil _ _
      clear hdl
      have hFn : F < n := by have h1 := HFIT.out.1; simp only [MRow.says] at h1; omega
      obtain ⟨b, hbm⟩ : ∃ b, decide (true ∈ oh.drop (F + 1)) = b := ⟨_, rfl⟩
      simp only [hbm] at hCn
      have HB := Shut.mk hbm
      clear hbm
      by_cases hcc : ohc = F + 1
      all_goals
        go_wp2_with fail
        refine (hCn _ _ (by first | exact .inl rfl | exact .inr (by omega))).mono ?_
        rintro e w3 ⟨rfl, rfl⟩
        clear hCn
        cases b
        · have hc1 : oh.count true = 1 := HCNT.out.2 (of_decide_eq_false HB.out)
          have HC1 := Shut.mk hc1
          obtain ⟨db, do', hdd⟩ := HRA.out.2.1.some (k := 0) (by simp [bs]; have := HDK.out; omega)
          simp only at hdd
          subst hdd
          have hCl := cloneD_any db do' odc od.length od w2 rfl (by have := HDK.out; omega) HRA.out.2.1
          clear hc1
          go_wp2_with fail
          refine hCl.mono ?_
          rintro e w4 ⟨p4, q4, rfl, l4, hb4, hq4, hn4⟩
          have HI4 := HI2.out.below hb4
          have R1 : Shut (KnInv w (w4.setCell ⟨w1.heap.size, F, none⟩ (.slice p4 od.length q4)) w1.heap.size n (A.take (q + 1))) := ⟨by
            rw [HT.out]
            exact HI4.put (r := ⟨some ⟨ob, oo, none⟩, ohc, oh, some ⟨db, do', none⟩, odc, od⟩) HC1.out HFI.out (by have := HDK.out; show 0 < od.length; omega) l4 HRA.out.2.2.2 hq4 (fun c o e => by have := hn4 c o e; have := HgW2.out; omega)⟩
          obtain ⟨_, _, _, bl, j4, j5, _⟩ := HI4
          have c0 := j5.cell hFn
          have cf := j5.frozen F
          generalize (bl[F]?.getD nilB).val = y0 at *
          clear j4 j5 hCl hb4 hn4 l4 HI2 z0 z1
          go_wp2
          go_roundw
          case rel => exact ⟨q + 1, by omega, by go_num, R1⟩
          case measure => simp [intOf]; omega
        · have R1 : Shut (KnInv w w2 w1.heap.size n (A.take (q + 1))) := ⟨by
            rw [HT.out]
            exact HI2.out.pass fun hc => HCNT.out.1 hc (of_decide_eq_true HB.out)⟩
          clear HI2 z0 z1
          go_wp2
          go_roundw
          case rel => exact ⟨q + 1, by omega, by go_num, R1⟩
          case measure => simp [intOf]; omega
    · have HE : Shut (KnInv w wr w1.heap.size n A) := ⟨by have h := HI.out; rwa [List.take_of_length_le (by rw [HA.out]; omega)] at h⟩
      clear HI
      go_wp2
      go_ret2
      obtain ⟨h1, h2, h3, bl, h4, h5, h6, h7, h8⟩ := HE.out
      refine ⟨w1.heap.size, bl, rfl, ?_, h6, fun b hb => (h7 b hb).2, h8, h1⟩
      have := rowIs_lies h5
      have e : (List.range n).map (fun j => (bl[j]?.getD nilB).val) = bl.map Blk.val := by
        apply List.ext_getElem
        · simp [h4]
        · intro i p1 p2
          simp at p2
          simp [p2]
      rwa [e] at this

/-- solve.Known of a right system -/
theorem knownS_good (n k : Nat) (ra : Option Addr) (rc : Nat) (rows : List MRow) (w : World) (hl : Lies w ra (rowCells rows)) (hall : ∀ x ∈ rows, RowIn w x) (hcap : ∀ x ∈ rows, x.h.length ≤ x.hc) (hR : Right n k (rows.map MRow.says)) :
    Calls Tryd.prog 21 #[.agg #[.int .i64 n, .int .i64 k, .slice ra rows.length rc]] w fun e w' => KnAns w w' n (rows.map MRow.says) e :=
  knownS_right n k rows.length ra rc rows _ w hl hall hcap rfl rfl hR

end Go.Proofs.YtkiejflgphjfjadDoor

/-
  The closed fact 'solved': it is true.
-/
namespace Go.Proofs.YtkiejflgphjfjadDoor
open Go.RowKit
set_option linter.unusedVariables false
set_option linter.unusedSimpArgs false

theorem right_nil {n k : Nat} (n1 : 1 ≤ n) (n2 : n ≤ 24) (k1 : 1 ≤ k) (k2 : k ≤ 16) : Right n k [] := ⟨n1, n2, k1, k2, (fun r hr => by cases hr), Sys.nil⟩

/-- a row of two blocks, one byte each, in two blocks of memory laid anew -/
theorem row2_in (w : World) (x y : Bool) (z : UInt8) : RowIn ((w.alloc (.cells #[.bool x, .bool y] 4)).alloc (.cells #[.int .u8 (z.toNat : Int)] 5)) ⟨some ⟨w.heap.size, 0, none⟩, 2, [x, y], some ⟨w.heap.size + 1, 0, none⟩, 1, [z]⟩ := by
  obtain ⟨b0, b1⟩ := alloc2 w (.cells #[.bool x, .bool y] 4) (.cells #[.int .u8 (z.toNat : Int)] 5)
  refine ⟨Lies.of_block b0, Lies.of_block b1, by simp [maxLen], by simp [maxLen]⟩

/-- solve.Add of a row of two blocks -/
theorem add2_any (w : World) (x y : Bool) (z : UInt8) (a : Option Addr) (c m : Nat) (rows : List MRow) (A : List LRow) (hm : A.length = m) (hl : Lies w a (rowCells rows)) (hr : ∀ r ∈ rows, RowIn w r) (hs : rows.map MRow.says = A) (hR : Right 2 1 A) :
    Calls Tryd.prog 30 #[.agg #[.int .i64 2, .int .i64 1, .slice a m c], .agg #[.slice (some ⟨w.heap.size, 0, none⟩) 2 2, .slice (some ⟨w.heap.size + 1, 0, none⟩) 1 1]] ((w.alloc (.cells #[.bool x, .bool y] 4)).alloc (.cells #[.int .u8 (z.toNat : Int)] 5)) fun e w' =>
      AddAnsC ((w.alloc (.cells #[.bool x, .bool y] 4)).alloc (.cells #[.int .u8 (z.toNat : Int)] 5)) w' 2 1 A ([x, y], [z]) e := by
  have hb : Below w.heap.size w ((w.alloc (.cells #[.bool x, .bool y] 4)).alloc (.cells #[.int .u8 (z.toNat : Int)] 5)) := ((Below.refl _ _).alloc (Nat.le_refl _) _).alloc (by simp) _
  have hml : rows.length = m := by rw [← hm, ← hs]; simp
  exact addS_right 2 1 m a c rows A ⟨some ⟨w.heap.size, 0, none⟩, 2, [x, y], some ⟨w.heap.size + 1, 0, none⟩, 1, [z]⟩ _ _ (hl.below hb (Nat.le_refl _)) (fun r hr' => (hr r hr').below hb) (row2_in w x y z) hml hs rfl hR ⟨rfl, rfl⟩

theorem p1 : addL [] ([true, true], [7]) = some [([true, true], [7])] := by decide
theorem p2 : addL [([true, true], [7])] ([false, true], [3]) = some [([true, false], [4]), ([false, true], [3])] := by decide
theorem p3 : addL [([true, false], [4]), ([false, true], [3])] ([true, false], [4]) = some [([true, false], [4]), ([false, true], [3])] := by decide
theorem p4 : addL [([true, false], [4]), ([false, true], [3])] ([true, false], [5]) = none := by decide
theorem p5 : knownL 2 [([true, false], [4]), ([false, true], [3])] = [[4], [3]] := by decide

end Go.Proofs.YtkiejflgphjfjadDoor

/-
  The closed fact 'solved': it is true.
-/
namespace Go.Proofs.YtkiejflgphjfjadDoor
open Go.RowKit
set_option linter.unusedVariables false
set_option linter.unusedSimpArgs false

theorem add2_some (w : World) (x y : Bool) (z : UInt8) (a : Option Addr) (c m m' : Nat) (rows : List MRow) (A P : List LRow) (bb : Bool) (hm : A.length = m) (hl : Lies w a (rowCells rows)) (hr : ∀ r ∈ rows, RowIn w r) (hs : rows.map MRow.says = A) (hR : Right 2 1 A) (hP : addL A ([x, y], [z]) = some P) (hm' : P.length = m') (hbb : decide (P.length = A.length + 1) = bb) :
    Calls Tryd.prog 30 #[.agg #[.int .i64 2, .int .i64 1, .slice a m c], .agg #[.slice (some ⟨w.heap.size, 0, none⟩) 2 2, .slice (some ⟨w.heap.size + 1, 0, none⟩) 1 1]] ((w.alloc (.cells #[.bool x, .bool y] 4)).alloc (.cells #[.int .u8 (z.toNat : Int)] 5)) fun e w' =>
      ∃ (a' : Option Addr) (c' : Nat) (rows' : List MRow), e = .returned (.tuple #[.agg #[.int .i64 2, .int .i64 1, .slice a' m' c'], .bool bb, .int .i64 0]) ∧ Lies w' a' (rowCells rows') ∧ (∀ r ∈ rows', RowIn w' r ∧ r.h.length ≤ r.hc) ∧ rows'.map MRow.says = P ∧ (∀ b o, a' = some ⟨b, o, none⟩ → w.heap.size ≤ b) ∧ Below w.heap.size w w' := by
  have hb : Below w.heap.size w ((w.alloc (.cells #[.bool x, .bool y] 4)).alloc (.cells #[.int .u8 (z.toNat : Int)] 5)) := ((Below.refl _ _).alloc (Nat.le_refl _) _).alloc (by simp) _
  refine (add2_any w x y z a c m rows A hm hl hr hs hR).mono ?_
  rintro e w' ⟨hb1, ⟨h0, _⟩ | ⟨P', a', c', rows', h1, rfl, h3, h4, h5, h6⟩⟩
  · rw [hP] at h0; cases h0
  · rw [hP] at h1
    cases h1
    have hlen : rows'.length = m' := by rw [← hm', ← h5]; simp
    refine ⟨a', c', rows', by rw [hlen, hbb]; rfl, h3, h4, h5, fun b o e => Nat.le_trans hb.size (h6 b o e), hb.trans (hb1.mono hb.size)⟩

theorem add2_none (w : World) (x y : Bool) (z : UInt8) (a : Option Addr) (c m : Nat) (rows : List MRow) (A : List LRow) (hm : A.length = m) (hl : Lies w a (rowCells rows)) (hr : ∀ r ∈ rows, RowIn w r) (hs : rows.map MRow.says = A) (hR : Right 2 1 A) (hP : addL A ([x, y], [z]) = none) :
    Calls Tryd.prog 30 #[.agg #[.int .i64 2, .int .i64 1, .slice a m c], .agg #[.slice (some ⟨w.heap.size, 0, none⟩) 2 2, .slice (some ⟨w.heap.size + 1, 0, none⟩) 1 1]] ((w.alloc (.cells #[.bool x, .bool y] 4)).alloc (.cells #[.int .u8 (z.toNat : Int)] 5)) fun e w' =>
      e = .returned (.tuple #[.agg #[.int .i64 0, .int .i64 0, .slice none 0 0], .bool false, .int .i64 9]) ∧ Below w.heap.size w w' := by
  have hb : Below w.heap.size w ((w.alloc (.cells #[.bool x, .bool y] 4)).alloc (.cells #[.int .u8 (z.toNat : Int)] 5)) := ((Below.refl _ _).alloc (Nat.le_refl _) _).alloc (by simp) _
  refine (add2_any w x y z a c m rows A hm hl hr hs hR).mono ?_
  rintro e w' ⟨hb1, ⟨h0, rfl⟩ | ⟨P', a', c', rows', h1, rfl, h3, h4, h5, h6⟩⟩
  · exact ⟨rfl, hb.trans (hb1.mono hb.size)⟩
  · rw [hP] at h1; cases h1

/-- a system in a box -/
def SysBox (w : World) (b n k : Nat) (a : Option Addr) (m c : Nat) (rows : List MRow) (A : List LRow) : Prop :=
  w.heap[b]? = some (.cells #[.int .i64 n, .int .i64 k, .slice a m c] 56 (0, 0)) ∧ Lies w a (rowCells rows) ∧ (∀ r ∈ rows, RowIn w r ∧ r.h.length ≤ r.hc) ∧ rows.map MRow.says = A

theorem SysBox.below {w w' : World} {b n k m c : Nat} {a : Option Addr} {rows : List MRow} {A : List LRow} (h : SysBox w b n k a m c rows A) (hb : Below w.heap.size w w') : SysBox w' b n k a m c rows A :=
  ⟨blk_below h.1 hb, h.2.1.below hb (Nat.le_refl _), fun r hr => ⟨(h.2.2.1 r hr).1.below hb, (h.2.2.1 r hr).2⟩, h.2.2.2⟩

theorem SysBox.cells {w : World} {b n k m c : Nat} {a : Option Addr} {rows : List MRow} {A : List LRow} (h : SysBox w b n k a m c rows A) : w.cell? ⟨b, 0, none⟩ = some (.int .i64 n) ∧ w.cell? ⟨b, 1, none⟩ = some (.int .i64 k) ∧ w.cell? ⟨b, 2, none⟩ = some (.slice a m c) ∧ ∀ j, w.frozen? ⟨b, j, none⟩ = false := by
  have x0 := cell_blk h.1 0
  have x1 := cell_blk h.1 1
  have x2 := cell_blk h.1 2
  simp at x0 x1 x2
  exact ⟨x0, x1, x2, fun j => frozen_blk h.1 j⟩

/-- another one is put into the box -/
theorem SysBox.put {w : World} {b n k m m' c c' : Nat} {a a' : Option Addr} {rows rows' : List MRow} {A P : List LRow} (h : SysBox w b n k a m c rows A) (hl : Lies w a' (rowCells rows')) (hr : ∀ r ∈ rows', RowIn w r ∧ r.h.length ≤ r.hc) (hs : rows'.map MRow.says = P) (hne : ∀ c o, a' = some ⟨c, o, none⟩ → c ≠ b) (hP : Right n k P) :
    SysBox (((w.setCell ⟨b, 0, none⟩ (.int .i64 n)).setCell ⟨b, 1, none⟩ (.int .i64 k)).setCell ⟨b, 2, none⟩ (.slice a' m' c')) b n k a' m' c' rows' P := by
  have gr := grown_trans (grown_trans (grown_setCell w b 0 (.int .i64 n)) (grown_setCell _ b 1 (.int .i64 k))) (grown_setCell _ b 2 (.slice a' m' c'))
  refine ⟨?_, lies_grown gr hl hne, fun r hr' => ?_, hs⟩
  · have e := heap_set (o := 2) (v := .slice a' m' c') (heap_set (o := 1) (v := .int .i64 k) (heap_set (o := 0) (v := .int .i64 n) h.1))
    rw [e]
    simp
  · have hf := hP.fits _ (by rw [← hs]; exact List.mem_map_of_mem hr')
    have h1 := hf.1
    have h2 := hf.2
    have k1 := hP.k1
    have n1 := hP.n1
    simp only [MRow.says] at h1 h2
    exact ⟨(hr r hr').1.far (by omega) (by omega) h.1 (boxy3 _ _ _ _ _) gr, (hr r hr').2⟩

theorem boxB {w w1 : World} (hb : Below w.heap.size w w1) (o : Obj) : Below w.heap.size w (w1.alloc o) := hb.alloc hb.size o

/-- the system that 'solved' makes -/
theorem r2 : Right 2 1 [([true, true], [7])] := (addL_right (right_nil (by decide) (by decide) (by decide) (by decide)) ⟨rfl, rfl⟩ p1).1
theorem r3 : Right 2 1 [([true, false], [4]), ([false, true], [3])] := (addL_right r2 ⟨rfl, rfl⟩ p2).1

end Go.Proofs.YtkiejflgphjfjadDoor

/-
  solve.with: its contract.
-/
namespace Go.Proofs.YtkiejflgphjfjadDoor
open Go.RowKit
set_option linter.unusedVariables false
set_option linter.unusedSimpArgs false

theorem mask_lies {w : World} {g nb i : Nat} (h : w.rowIs g 4 nb (inAt (chosen nb i))) : Lies w (some ⟨g, 0, none⟩) ((maskL nb i).map Value.bool) := by
  have := rowIs_lies h
  have e : (maskL nb i).map Value.bool = (List.range nb).map (inAt (chosen nb i)) := by
    unfold maskL
    rw [List.map_map]
    apply List.map_congr_left
    intro j _
    simp [inAt, mask]
  rw [e]
  exact this

theorem alloc4' (w : World) (o0 o1 o2 o3 : Obj) : ((((w.alloc o0).alloc o1).alloc o2).alloc o3).heap[w.heap.size]? = some o0 ∧ ((((w.alloc o0).alloc o1).alloc o2).alloc o3).heap[w.heap.size + 1]? = some o1 ∧
    ((((w.alloc o0).alloc o1).alloc o2).alloc o3).heap[w.heap.size + 2]? = some o2 ∧ ((((w.alloc o0).alloc o1).alloc o2).alloc o3).heap[w.heap.size + 3]? = some o3 := by
  simp only [heap_alloc_eq, size_alloc_eq]
  refine ⟨?_, ?_, ?_, ?_⟩
  · rw [if_neg (by omega), if_neg (by omega), if_neg (by omega), if_pos (by first | omega | trivial)]
  · rw [if_neg (by omega), if_neg (by omega), if_pos (by first | omega | trivial)]
  · rw [if_neg (by omega), if_pos (by first | omega | trivial)]
  · rw [if_pos (by first | omega | trivial)]

/-- a symbol that Check refuses -/
theorem with_chk (nb k m : Nat) (a : Option Addr) (c : Nat) (B K id : Int) (da : Option Addr) (dm dc : Nat) (w : World) (hB : I64 B) (hK : I64 K) (hd : dm ≤ maxLen) (h : chkS B K id dm ≠ 0) :
    Calls Tryd.prog 20 #[.agg #[.int .i64 nb, .int .i64 k, .slice a m c], .agg #[.int .i64 B, .int .i64 K], .agg #[.int .i64 id, .slice da dm dc]] w fun e w' => e = .returned (.tuple #[.agg #[.int .i64 0, .int .i64 0, .slice none 0 0], .int .i64 (chkS B K id dm)]) ∧ Below w.heap.size w w' := by
  obtain ⟨blk0, blk1, blk2, blk3⟩ := alloc4' w (.cells #[.int .i64 nb, .int .i64 k, .slice a m c] 56) (.cells #[.int .i64 B, .int .i64 K] 23) (.cells #[.int .i64 id, .slice da dm dc] 37) (.cells #[.int .i64 0, .int .i64 0, .slice none 0 0] 56)
  obtain ⟨W, hW⟩ : ∃ W, (((w.alloc (.cells #[.int .i64 nb, .int .i64 k, .slice a m c] 56)).alloc (.cells #[.int .i64 B, .int .i64 K] 23)).alloc (.cells #[.int .i64 id, .slice da dm dc] 37)).alloc (.cells #[.int .i64 0, .int .i64 0, .slice none 0 0] 56) = W := ⟨_, rfl⟩
  have hBl : Below w.heap.size w W := by rw [← hW]; exact ((((Below.refl _ _).alloc (Nat.le_refl _) _).alloc (by simp) _).alloc (by simp; omega) _).alloc (by simp; omega) _
  rw [hW] at blk0 blk1 blk2 blk3
  have p0 := cell_blk blk1 0
  have p1 := cell_blk blk1 1
  have y0 := cell_blk blk2 0
  have y1 := cell_blk blk2 1
  simp at p0 p1 y0 y1
  rw [← hW] at p0 p1 y0 y1
  have hC := codeCheck_any B K id da dm dc W hB hK hd
  obtain ⟨q, hq⟩ : ∃ q, chkS B K id dm = q := ⟨_, rfl⟩
  rw [hq] at hC h ⊢
  have h1 : (q != 0) = true := by simpa using h
  have HW := Shut.mk hW
  have HQ := Shut.mk blk3
  clear blk0 blk1 blk2 blk3 hW hq h
  go_enter Tryd.func20, Tryd.ntmps20
  go_wp2_with fail
  rw [HW.out]
  refine hC.mono ?_
  rintro e w1 ⟨rfl, hb⟩
  have b3 := blk_below HQ.out hb
  have z0 := cell_blk b3 0
  have z1 := cell_blk b3 1
  have z2 := cell_blk b3 2
  simp at z0 z1 z2
  have f0 := frozen_blk b3 0
  have f1 := frozen_blk b3 1
  have f2 := frozen_blk b3 2
  have hb1 := hBl.trans (hb.mono hBl.size)
  clear hC hb p0 p1 y0 y1 b3 HW hBl
  go_wp2
  obtain ⟨u0, u1, u2⟩ := set3 z0 z1 z2 (.int .i64 0) (.int .i64 0) (.slice none 0 0)
  have hbF := ((hb1.setCell (p := ⟨w.heap.size + 3, 0, none⟩) (by simp) (.int .i64 0)).setCell (p := ⟨w.heap.size + 3, 1, none⟩) (by simp) (.int .i64 0)).setCell (p := ⟨w.heap.size + 3, 2, none⟩) (by simp) (.slice none 0 0)
  generalize ((w1.setCell ⟨w.heap.size + 3, 0, none⟩ (.int .i64 0)).setCell ⟨w.heap.size + 3, 1, none⟩ (.int .i64 0)).setCell ⟨w.heap.size + 3, 2, none⟩ (.slice none 0 0) = w9 at *
  refine bodyPost_ret (v := .tuple #[.agg #[.int .i64 0, .int .i64 0, .slice none 0 0], .int .i64 q]) (by simp [results, Tryd.results20, go_sem, u0, u1, u2]) rfl ?_
  exact ⟨rfl, hbF⟩

set_option maxHeartbeats 1000000 in
/-- a symbol that Check takes -/
theorem with_good (n nb k m i : Nat) (a : Option Addr) (c : Nat) (rows : List MRow) (A : List LRow) (B K : Int) (da : Option Addr) (dc : Nat) (d : List UInt8) (w : World) (g : Good B K n k nb) (hB : I64 B) (hK : I64 K) (hl : Lies w a (rowCells rows)) (hall : ∀ x ∈ rows, RowIn w x) (hmm : rows.length = m) (hAA : rows.map MRow.says = A) (hR : Right nb k A)
    (hd : Lies w da (bs d)) (hdk : d.length = k) (hi : i ≤ 9999) (hL : Laid w) (hc : chkS B K i k = 0) :
    Calls Tryd.prog 20 #[.agg #[.int .i64 nb, .int .i64 k, .slice a m c], .agg #[.int .i64 B, .int .i64 K], .agg #[.int .i64 i, .slice da k dc]] w fun e w' =>
      (addL A (maskL nb i, d) = none ∧ e = .returned (.tuple #[.agg #[.int .i64 0, .int .i64 0, .slice none 0 0], .int .i64 9]) ∨
        ∃ (P : List LRow) (a' : Option Addr) (c' : Nat) (rows' : List MRow), addL A (maskL nb i, d) = some P ∧ e = .returned (.tuple #[.agg #[.int .i64 nb, .int .i64 k, .slice a' rows'.length c'], .int .i64 0]) ∧ Lies w' a' (rowCells rows') ∧ (∀ x ∈ rows', RowIn w' x ∧ x.h.length ≤ x.hc) ∧ rows'.map MRow.says = P ∧ ∀ b o, a' = some ⟨b, o, none⟩ → w.heap.size ≤ b) ∧ Below w.heap.size w w' := by
  obtain ⟨blk0, blk1, blk2, blk3⟩ := alloc4' w (.cells #[.int .i64 nb, .int .i64 k, .slice a m c] 56) (.cells #[.int .i64 B, .int .i64 K] 23) (.cells #[.int .i64 i, .slice da k dc] 37) (.cells #[.int .i64 0, .int .i64 0, .slice none 0 0] 56)
  obtain ⟨W, hW⟩ : ∃ W, (((w.alloc (.cells #[.int .i64 nb, .int .i64 k, .slice a m c] 56)).alloc (.cells #[.int .i64 B, .int .i64 K] 23)).alloc (.cells #[.int .i64 i, .slice da k dc] 37)).alloc (.cells #[.int .i64 0, .int .i64 0, .slice none 0 0] 56) = W := ⟨_, rfl⟩
  have hBl : Below w.heap.size w W := by rw [← hW]; exact ((((Below.refl _ _).alloc (Nat.le_refl _) _).alloc (by simp) _).alloc (by simp; omega) _).alloc (by simp; omega) _
  have hsz : W.heap.size = w.heap.size + 4 := by rw [← hW]; simp
  rw [hW] at blk0 blk1 blk2 blk3
  have p0 := cell_blk blk1 0
  have p1 := cell_blk blk1 1
  have y0 := cell_blk blk2 0
  have y1 := cell_blk blk2 1
  simp at p0 p1 y0 y1
  rw [← hW] at p0 p1 y0 y1
  have n1 := hR.n1
  have n2 := hR.n2
  have k2 := hR.k2
  have hC := codeCheck_any B K i da k dc W hB hK (by unfold maxLen; omega)
  rw [hc] at hC
  have HW := Shut.mk hW
  have HQ := Shut.mk (And.intro blk0 (And.intro blk2 blk3))
  have HI := Shut.mk (And.intro hl (And.intro hall (And.intro hmm (And.intro hAA hR))))
  have HD := Shut.mk (And.intro hd hdk)
  have HLD := Shut.mk hL
  have HSZ := Shut.mk hsz
  clear blk0 blk1 blk2 blk3 hW hl hall hmm hAA hR hd hdk hL hc hsz
  go_enter Tryd.func20, Tryd.ntmps20
  go_wp2_with fail
  rw [HW.out]
  refine hC.mono ?_
  rintro e w1 ⟨rfl, hb⟩
  replace HQ := Shut.mk (And.intro (blk_below HQ.out.1 hb) (And.intro (blk_below HQ.out.2.1 hb) (blk_below HQ.out.2.2 hb)))
  have HS1 : Shut (w.heap.size + 3 < w1.heap.size) := ⟨by have := hb.size; rw [HSZ.out] at this; omega⟩
  have hb1 := hBl.trans (hb.mono hBl.size)
  clear hC hb p0 p1 y0 y1 HW hBl
  have y0 := cell_blk HQ.out.2.1 0
  have s0 := cell_blk HQ.out.1 0
  simp at y0 s0
  have hO := of_any i nb w1 hi n1 n2 (HLD.out.below hb1)
  go_wp2_with fail
  refine hO.mono ?_
  rintro e w2 ⟨g2, rfl, hg2, hr2, hb2⟩
  have hlm := mask_lies hr2
  replace HQ := Shut.mk (And.intro (blk_below HQ.out.1 hb2) (And.intro (blk_below HQ.out.2.1 hb2) (blk_below HQ.out.2.2 hb2)))
  have HS2 : Shut (w.heap.size + 3 < w2.heap.size) := ⟨Nat.lt_of_lt_of_le HS1.out hb2.size⟩
  replace hb1 := hb1.trans (hb2.mono hb1.size)
  clear hO hr2 hb2 y0 s0 hg2
  have y1 := cell_blk HQ.out.2.1 1
  have s0 := cell_blk HQ.out.1 0
  have s1 := cell_blk HQ.out.1 1
  have s2 := cell_blk HQ.out.1 2
  simp at y1 s0 s1 s2
  have hA := addS_right nb k m a c rows A ⟨some ⟨g2, 0, none⟩, nb, maskL nb i, da, dc, d⟩ (maskL nb i, d) w2 (HI.out.1.below hb1 (Nat.le_refl _)) (fun x hx => (HI.out.2.1 x hx).below hb1) ⟨hlm, HD.out.1.below hb1 (Nat.le_refl _), by simp only [maskL_length]; unfold maxLen; omega, by simp only [HD.out.2]; unfold maxLen; omega⟩ HI.out.2.2.1 HI.out.2.2.2.1 rfl HI.out.2.2.2.2 ⟨maskL_length nb i, HD.out.2⟩
  simp only [MRow.hv, MRow.dv, maskL_length, HD.out.2] at hA
  clear hlm
  go_wp2_with fail
  refine hA.mono ?_
  rintro e w3 ⟨hb3, hcase⟩
  replace HQ := Shut.mk (And.intro (blk_below HQ.out.1 hb3) (And.intro (blk_below HQ.out.2.1 hb3) (blk_below HQ.out.2.2 hb3)))
  have HS3 : Shut (w.heap.size + 3 < w3.heap.size) := ⟨Nat.lt_of_lt_of_le HS2.out hb3.size⟩
  replace hb1 := hb1.trans (hb3.mono hb1.size)
  clear hA y1 s0 s1 s2 hb3
  have s0 := cell_blk HQ.out.1 0
  have s1 := cell_blk HQ.out.1 1
  have s2 := cell_blk HQ.out.1 2
  have z0 := cell_blk HQ.out.2.2 0
  have z1 := cell_blk HQ.out.2.2 1
  have z2 := cell_blk HQ.out.2.2 2
  simp at s0 s1 s2 z0 z1 z2
  have f0 := frozen_blk HQ.out.1 0
  have f1 := frozen_blk HQ.out.1 1
  have f2 := frozen_blk HQ.out.1 2
  have q0 := frozen_blk HQ.out.2.2 0
  have q1 := frozen_blk HQ.out.2.2 1
  have q2 := frozen_blk HQ.out.2.2 2
  rcases hcase with ⟨hno, rfl⟩ | ⟨P, a', c', rows', hP, rfl, hl3, hr3, hs3, hn3⟩
  · have HNO := Shut.mk hno
    clear hno
    go_wp2
    have hA1 := ((hb1.setCell (p := ⟨w.heap.size, 0, none⟩) (by simp) (.int .i64 0)).setCell (p := ⟨w.heap.size, 1, none⟩) (by simp) (.int .i64 0)).setCell (p := ⟨w.heap.size, 2, none⟩) (by simp) (.slice none 0 0)
    have z0' : (((w3.setCell ⟨w.heap.size, 0, none⟩ (.int .i64 0)).setCell ⟨w.heap.size, 1, none⟩ (.int .i64 0)).setCell ⟨w.heap.size, 2, none⟩ (.slice none 0 0)).cell? ⟨w.heap.size + 3, 0, none⟩ = some (.int .i64 0) := by rw [World.cell?_setCell_other _ _ _ _ (by intro e; injection e; omega), World.cell?_setCell_other _ _ _ _ (by intro e; injection e; omega), World.cell?_setCell_other _ _ _ _ (by intro e; injection e; omega)]; exact z0
    have z1' : (((w3.setCell ⟨w.heap.size, 0, none⟩ (.int .i64 0)).setCell ⟨w.heap.size, 1, none⟩ (.int .i64 0)).setCell ⟨w.heap.size, 2, none⟩ (.slice none 0 0)).cell? ⟨w.heap.size + 3, 1, none⟩ = some (.int .i64 0) := by rw [World.cell?_setCell_other _ _ _ _ (by intro e; injection e; omega), World.cell?_setCell_other _ _ _ _ (by intro e; injection e; omega), World.cell?_setCell_other _ _ _ _ (by intro e; injection e; omega)]; exact z1
    have z2' : (((w3.setCell ⟨w.heap.size, 0, none⟩ (.int .i64 0)).setCell ⟨w.heap.size, 1, none⟩ (.int .i64 0)).setCell ⟨w.heap.size, 2, none⟩ (.slice none 0 0)).cell? ⟨w.heap.size + 3, 2, none⟩ = some (.slice none 0 0) := by rw [World.cell?_setCell_other _ _ _ _ (by intro e; injection e; omega), World.cell?_setCell_other _ _ _ _ (by intro e; injection e; omega), World.cell?_setCell_other _ _ _ _ (by intro e; injection e; omega)]; exact z2
    clear s0 s1 s2 z0 z1 z2 f0 f1 f2 q0 q1 q2 HQ
    generalize ((w3.setCell ⟨w.heap.size, 0, none⟩ (.int .i64 0)).setCell ⟨w.heap.size, 1, none⟩ (.int .i64 0)).setCell ⟨w.heap.size, 2, none⟩ (.slice none 0 0) = wA at *
    obtain ⟨u0, u1, u2⟩ := set3 z0' z1' z2' (.int .i64 0) (.int .i64 0) (.slice none 0 0)
    have hbF := ((hA1.setCell (p := ⟨w.heap.size + 3, 0, none⟩) (by simp) (.int .i64 0)).setCell (p := ⟨w.heap.size + 3, 1, none⟩) (by simp) (.int .i64 0)).setCell (p := ⟨w.heap.size + 3, 2, none⟩) (by simp) (.slice none 0 0)
    generalize ((wA.setCell ⟨w.heap.size + 3, 0, none⟩ (.int .i64 0)).setCell ⟨w.heap.size + 3, 1, none⟩ (.int .i64 0)).setCell ⟨w.heap.size + 3, 2, none⟩ (.slice none 0 0) = w9 at *
    refine bodyPost_ret (v := .tuple #[.agg #[.int .i64 0, .int .i64 0, .slice none 0 0], .int .i64 9]) (by simp [results, Tryd.results20, go_sem, u0, u1, u2]) rfl ?_
    exact ⟨.inl ⟨HNO.out, rfl⟩, hbF⟩
  · have hfit : ∀ x ∈ rows', 0 < x.h.length ∧ 0 < x.d.length := fun x hx => by
      have hRP := (addL_right HI.out.2.2.2.2 ⟨maskL_length nb i, HD.out.2⟩ hP).1
      have h := hRP.fits _ (by rw [← hs3]; exact List.mem_map_of_mem hx)
      have h1 := h.1
      have h2 := h.2
      have h3 := hRP.n1
      have h4 := hRP.k1
      simp only [MRow.says] at h1 h2
      omega
    have HX := Shut.mk (And.intro hP (And.intro hl3 (And.intro hr3 (And.intro hs3 (And.intro hn3 hfit)))))
    obtain ⟨m', hm'⟩ : ∃ m', rows'.length = m' := ⟨_, rfl⟩
    have HM' := Shut.mk hm'
    rw [hm']
    clear hP hl3 hr3 hs3 hn3 hfit hm'
    go_wp2
    obtain ⟨rs, hrs⟩ : ∃ rs, Value.slice a' m' c' = rs := ⟨_, rfl⟩
    rw [hrs]
    have hA1 := ((hb1.setCell (p := ⟨w.heap.size, 0, none⟩) (by simp) (.int .i64 nb)).setCell (p := ⟨w.heap.size, 1, none⟩) (by simp) (.int .i64 k)).setCell (p := ⟨w.heap.size, 2, none⟩) (by simp) rs
    have gr1 := grown_trans (grown_trans (grown_setCell w3 w.heap.size 0 (.int .i64 nb)) (grown_setCell _ w.heap.size 1 (.int .i64 k))) (grown_setCell _ w.heap.size 2 rs)
    have z0' : (((w3.setCell ⟨w.heap.size, 0, none⟩ (.int .i64 nb)).setCell ⟨w.heap.size, 1, none⟩ (.int .i64 k)).setCell ⟨w.heap.size, 2, none⟩ rs).cell? ⟨w.heap.size + 3, 0, none⟩ = some (.int .i64 0) := by rw [World.cell?_setCell_other _ _ _ _ (by intro e; injection e; omega), World.cell?_setCell_other _ _ _ _ (by intro e; injection e; omega), World.cell?_setCell_other _ _ _ _ (by intro e; injection e; omega)]; exact z0
    have z1' : (((w3.setCell ⟨w.heap.size, 0, none⟩ (.int .i64 nb)).setCell ⟨w.heap.size, 1, none⟩ (.int .i64 k)).setCell ⟨w.heap.size, 2, none⟩ rs).cell? ⟨w.heap.size + 3, 1, none⟩ = some (.int .i64 0) := by rw [World.cell?_setCell_other _ _ _ _ (by intro e; injection e; omega), World.cell?_setCell_other _ _ _ _ (by intro e; injection e; omega), World.cell?_setCell_other _ _ _ _ (by intro e; injection e; omega)]; exact z1
    have z2' : (((w3.setCell ⟨w.heap.size, 0, none⟩ (.int .i64 nb)).setCell ⟨w.heap.size, 1, none⟩ (.int .i64 k)).setCell ⟨w.heap.size, 2, none⟩ rs).cell? ⟨w.heap.size + 3, 2, none⟩ = some (.slice none 0 0) := by rw [World.cell?_setCell_other _ _ _ _ (by intro e; injection e; omega), World.cell?_setCell_other _ _ _ _ (by intro e; injection e; omega), World.cell?_setCell_other _ _ _ _ (by intro e; injection e; omega)]; exact z2
    have b3 := block_set (o := 2) (v := rs) (block_set (o := 1) (v := .int .i64 k) (block_set (o := 0) (v := .int .i64 nb) HQ.out.2.2 (show w.heap.size + 3 ≠ w.heap.size by omega)) (show w.heap.size + 3 ≠ w.heap.size by omega)) (show w.heap.size + 3 ≠ w.heap.size by omega)
    have HRA : Shut (Lies (((w3.setCell ⟨w.heap.size, 0, none⟩ (.int .i64 nb)).setCell ⟨w.heap.size, 1, none⟩ (.int .i64 k)).setCell ⟨w.heap.size, 2, none⟩ rs) a' (rowCells rows') ∧ ∀ x ∈ rows', RowIn (((w3.setCell ⟨w.heap.size, 0, none⟩ (.int .i64 nb)).setCell ⟨w.heap.size, 1, none⟩ (.int .i64 k)).setCell ⟨w.heap.size, 2, none⟩ rs) x) := ⟨lies_grown gr1 HX.out.2.1 fun b o e => by have := HX.out.2.2.2.2.1 b o e; have := HS2.out; omega, fun x hx => (HX.out.2.2.1 x hx).1.far (HX.out.2.2.2.2.2 x hx).1 (HX.out.2.2.2.2.2 x hx).2 HQ.out.1 (boxy3 _ _ _ _ _) gr1⟩
    clear s0 s1 s2 z0 z1 z2 f0 f1 f2 q0 q1 q2 HQ gr1
    generalize ((w3.setCell ⟨w.heap.size, 0, none⟩ (.int .i64 nb)).setCell ⟨w.heap.size, 1, none⟩ (.int .i64 k)).setCell ⟨w.heap.size, 2, none⟩ rs = wA at *
    obtain ⟨u0, u1, u2⟩ := set3 z0' z1' z2' (.int .i64 nb) (.int .i64 k) rs
    have gr2 := grown_trans (grown_trans (grown_setCell wA (w.heap.size + 3) 0 (.int .i64 nb)) (grown_setCell _ (w.heap.size + 3) 1 (.int .i64 k))) (grown_setCell _ (w.heap.size + 3) 2 rs)
    have hbF := ((hA1.setCell (p := ⟨w.heap.size + 3, 0, none⟩) (by simp) (.int .i64 nb)).setCell (p := ⟨w.heap.size + 3, 1, none⟩) (by simp) (.int .i64 k)).setCell (p := ⟨w.heap.size + 3, 2, none⟩) (by simp) rs
    have HRB : Shut (Lies (((wA.setCell ⟨w.heap.size + 3, 0, none⟩ (.int .i64 nb)).setCell ⟨w.heap.size + 3, 1, none⟩ (.int .i64 k)).setCell ⟨w.heap.size + 3, 2, none⟩ rs) a' (rowCells rows') ∧ ∀ x ∈ rows', RowIn (((wA.setCell ⟨w.heap.size + 3, 0, none⟩ (.int .i64 nb)).setCell ⟨w.heap.size + 3, 1, none⟩ (.int .i64 k)).setCell ⟨w.heap.size + 3, 2, none⟩ rs) x) := ⟨lies_grown gr2 HRA.out.1 fun b o e => by have := HX.out.2.2.2.2.1 b o e; have := HS2.out; omega, fun x hx => (HRA.out.2 x hx).far (HX.out.2.2.2.2.2 x hx).1 (HX.out.2.2.2.2.2 x hx).2 b3 (boxy3 _ _ _ _ _) gr2⟩
    clear gr2 z0' z1' z2' b3 HRA
    generalize ((wA.setCell ⟨w.heap.size + 3, 0, none⟩ (.int .i64 nb)).setCell ⟨w.heap.size + 3, 1, none⟩ (.int .i64 k)).setCell ⟨w.heap.size + 3, 2, none⟩ rs = w9 at *
    refine bodyPost_ret (v := .tuple #[.agg #[.int .i64 nb, .int .i64 k, rs], .int .i64 0]) (by simp [results, Tryd.results20, go_sem, u0, u1, u2]) rfl ?_
    refine ⟨.inr ⟨P, a', c', rows', HX.out.1, by rw [← hrs, HM'.out], HRB.out.1, fun x hx => ⟨HRB.out.2 x hx, (HX.out.2.2.1 x hx).2⟩, HX.out.2.2.2.1, fun b o e => by have := HX.out.2.2.2.2.1 b o e; have := HS2.out; omega⟩, hbF⟩

end Go.Proofs.YtkiejflgphjfjadDoor
