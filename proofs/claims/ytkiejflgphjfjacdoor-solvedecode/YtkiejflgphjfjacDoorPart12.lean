import Derived.Test.YtkiejflgphjfjacDoorPart11
import Derived.Test.YtkiejflgphjfjacDoorPart3
import Derived.Test.YtkiejflgphjfjacDoorPart1
import Derived.Test.YtkiejflgphjfjacDoorPart6
/-
  solve.Known: its contract.
-/
namespace Go.Proofs.YtkiejflgphjfjacDoor
open Go.RowKit
set_option linter.unusedVariables false
set_option linter.unusedSimpArgs false

/-- where Check says no -/
theorem knownS_chk (s : MSys) (w : World) (hs : SysIn w s) (h : chkSys s.B s.K (s.rows.map MRow.says) ≠ 0) :
    Calls Tryd.prog 26 #[.agg #[.int .i64 s.B, .int .i64 s.K, .slice s.ra s.rows.length s.rc]] w fun e w' => e = .returned (.tuple #[.slice none 0 0, .int .i64 (chkSys s.B s.K (s.rows.map MRow.says))]) ∧ Below w.heap.size w w' := by
  have hB : Below w.heap.size w (w.alloc (.cells #[.int .i64 s.B, .int .i64 s.K, .slice s.ra s.rows.length s.rc] 53)) := (Below.refl _ _).alloc (Nat.le_refl _) _
  obtain ⟨x0, x1, x2⟩ := Box3.mk w (.int .i64 s.B) (.int .i64 s.K) (.slice s.ra s.rows.length s.rc) 53
  have hC := checkS_any s _ (hs.below hB)
  obtain ⟨q, hq⟩ : ∃ q, chkSys s.B s.K (s.rows.map MRow.says) = q := ⟨_, rfl⟩
  rw [hq] at hC h ⊢
  have h1 : (q != 0) = true := by simpa using h
  clear hs hq h
  obtain ⟨B, K, ra, rc, rows⟩ := s
  simp only at *
  go_enter Tryd.func26, Tryd.ntmps26
  go_wp2_with fail
  refine hC.mono ?_
  rintro e w1 ⟨rfl, hb⟩
  have hb1 := hB.trans (hb.mono hB.size)
  clear hC hb x0 x1 x2 hB
  go_wp2
  go_ret2
  exact ⟨rfl, hb1⟩

/-- the list in the making -/
def KnInv (w wr : World) (g n : Nat) (A : List LRow) : Prop :=
  Below w.heap.size w wr ∧ w.heap.size ≤ g ∧ g < wr.heap.size ∧ ∃ bl : List Blk, bl.length = n ∧ wr.rowIs g 36 n (fun j => (bl[j]?.getD nilB).val) ∧ AllIn wr bl ∧
    (∀ b ∈ bl, (∀ c o, b.a = some ⟨c, o, none⟩ → c ≠ g) ∧ b.l.length ≤ b.cap ∧ (b.l = [] → b = nilB)) ∧ bl.map Blk.l = knownL n A

theorem KnInv.start {w W0 : World} {n : Nat} (hb : Below w.heap.size w W0) : KnInv w (W0.alloc (.cells (madeCells #[Value.slice none 0 0] n) 36)) W0.heap.size n [] := by
  refine ⟨hb.alloc hb.size _, hb.size, by simp, List.replicate n nilB, by simp, ?_, ?_, ?_, ?_⟩
  · refine (World.rowIs_made W0 _ n _).congr fun j hj => ?_
    simp [hj, nilB, Blk.val]
  · intro b hb'
    obtain rfl := List.eq_of_mem_replicate hb'
    exact ⟨Lies.nil _ _, by simp [nilB, maxLen]⟩
  · intro b hb'
    obtain rfl := List.eq_of_mem_replicate hb'
    exact ⟨(fun c o e => by cases e), Nat.le_refl _, fun _ => rfl⟩
  · simp [knownL, nilB]

theorem KnInv.below {w wr w' : World} {g n : Nat} {A : List LRow} (h : KnInv w wr g n A) (hb : Below wr.heap.size wr w') : KnInv w w' g n A := by
  obtain ⟨h1, h2, h3, bl, h4, h5, h6, h7⟩ := h
  exact ⟨h1.trans (hb.mono h1.size), h2, by have := hb.size; omega, bl, h4, rowIs_below h5 hb h3, h6.below hb, h7⟩

/-- a row that has one block alone -/
theorem KnInv.put {w wr : World} {g n F q : Nat} {p : Option Addr} {A : List LRow} {r : MRow} (h : KnInv w wr g n A) (hc : r.h.count true = 1) (hF : firstI r.h = F) (hd : 0 < r.d.length) (hl : Lies wr p (bs r.d)) (hm : r.d.length ≤ maxLen) (hq : r.d.length ≤ q) (hp : ∀ c o, p = some ⟨c, o, none⟩ → c ≠ g) :
    KnInv w (wr.setCell ⟨g, F, none⟩ (.slice p r.d.length q)) g n (A ++ [r.says]) := by
  obtain ⟨h1, h2, h3, bl, h4, h5, h6, h7, h8⟩ := h
  have gr := grown_setCell wr g F (.slice p r.d.length q)
  refine ⟨h1.setCell (p := ⟨g, F, none⟩) (by simpa using h2) _, h2, by simpa using h3, bl.set F ⟨p, q, r.d⟩, by simpa using h4, ?_, ?_, ?_, ?_⟩
  · refine (h5.set F _).congr fun j hj => ?_
    by_cases e : j = F
    · subst e
      simp [h4, hj, Blk.val]
    · rw [if_neg e, List.getElem?_set_ne (Ne.symm e)]
  · intro b hb'
    rcases List.mem_or_eq_of_mem_set hb' with hm' | rfl
    · exact ⟨lies_grown gr (h6 b hm').1 (h7 b hm').1, (h6 b hm').2⟩
    · exact ⟨lies_grown gr hl hp, hm⟩
  · intro b hb'
    rcases List.mem_or_eq_of_mem_set hb' with hm' | rfl
    · exact h7 b hm'
    · exact ⟨hp, hq, fun e => by simp only at e; rw [e] at hd; simp at hd⟩
  · rw [knownL_snoc, kSet, show r.says.1.count true = 1 from hc, if_pos rfl, List.map_set, h8]
    show _ = (knownL n A).set (firstI r.h).toNat r.d
    rw [hF]
    simp

theorem KnInv.pass {w wr : World} {g n : Nat} {A : List LRow} {r : MRow} (h : KnInv w wr g n A) (hc : ¬ r.h.count true = 1) : KnInv w wr g n (A ++ [r.says]) := by
  obtain ⟨h1, h2, h3, bl, h4, h5, h6, h7, h8⟩ := h
  refine ⟨h1, h2, h3, bl, h4, h5, h6, h7, ?_⟩
  rw [knownL_snoc, kSet, if_neg (by exact hc), h8]

/-- what Known answers of right rows -/
def KnAns (w w' : World) (n : Nat) (A : List LRow) (e : Ending) : Prop :=
  ∃ (g : Nat) (bl : List Blk), e = .returned (.tuple #[.slice (some ⟨g, 0, none⟩) n n, .int .i64 0]) ∧ Lies w' (some ⟨g, 0, none⟩) (bl.map Blk.val) ∧ AllIn w' bl ∧ (∀ b ∈ bl, b.l.length ≤ b.cap ∧ (b.l = [] → b = nilB)) ∧ bl.map Blk.l = knownL n A ∧ Below w.heap.size w w'

set_option maxRecDepth 4000 in
set_option maxHeartbeats 2000000 in
theorem knownS_right (n k m : Nat) (ra : Option Addr) (rc : Nat) (rows : List MRow) (A : List LRow) (w : World) (hl : Lies w ra (rowCells rows)) (hall : ∀ x ∈ rows, RowIn w x) (hcap : ∀ x ∈ rows, x.h.length ≤ x.hc) (hmm : rows.length = m) (hAA : rows.map MRow.says = A) (hR : Right n k A) :
    Calls Tryd.prog 26 #[.agg #[.int .i64 n, .int .i64 k, .slice ra m rc]] w fun e w' => KnAns w w' n A e := by
  have hB : Below w.heap.size w (w.alloc (.cells #[.int .i64 n, .int .i64 k, .slice ra m rc] 53)) := (Below.refl _ _).alloc (Nat.le_refl _) _
  obtain ⟨x0, x1, x2⟩ := Box3.mk w (.int .i64 n) (.int .i64 k) (.slice ra m rc) 53
  have n1 := hR.n1
  have n2 := hR.n2
  have k1 := hR.k1
  have k2 := hR.k2
  have hAl : A.length = m := by rw [← hAA]; simpa using hmm
  have hmr : m ≤ n := by have := hR.few; omega
  have hm : m ≤ 24 := by omega
  have hC := checkS_rows n k ra rc rows _ ⟨n1, n2⟩ ⟨k1, k2⟩ (by omega) (hl.below hB (Nat.le_refl _)) (fun x hx => (hall x hx).below hB)
  rw [hmm, hAA, chk_of_right hR] at hC
  have hmk := run_make_row' (P := Tryd.prog) 48 36 (.slice none 0 0) 24 Tryd.underlying48 infoBlk rfl .i64 .i64 n (by omega) (by omega)
  have HMM := Shut.mk hmm
  have HAA := Shut.mk hAA
  have HA := Shut.mk hAl
  have HRT := Shut.mk hR
  have HL := Shut.mk (And.intro hl (And.intro hall hcap))
  clear hmm hAA hAl hR hall hcap
  go_enter Tryd.func26, Tryd.ntmps26
  go_wp2_with fail
  refine hC.mono ?_
  rintro e w1 ⟨rfl, hb⟩
  have y0 := cellC x0 hb
  have y1 := cellC x1 hb
  have y2 := cellC x2 hb
  have hb1 := hB.trans (hb.mono hB.size)
  have H0 := Shut.mk (KnInv.start (n := n) hb1)
  have y2' : (w1.alloc (.cells (madeCells #[Value.slice none 0 0] n) 36)).cell? ⟨w.heap.size, 2, none⟩ = some (.slice ra m rc) := cellA' y2 _
  clear hC hb x0 x1 x2 hB
  go_wp2
  clear y0 y1 y2 y2' hmk hl
  generalize w1.alloc (.cells (madeCells #[Value.slice none 0 0] n) 36) = W2 at *
  go_loopw [20] (fun v wr => ∃ q : Nat, q ≤ m ∧ v = .int .i64 q ∧ Shut (KnInv w wr w1.heap.size n (A.take q))) (fun v _ => m - (intOf v).toNat)
  case atStart => exact ⟨0, Nat.zero_le _, rfl, H0⟩
  case round =>
    clear H0 hb1
    obtain ⟨q, hq, rfl, HI⟩ := hrel
    by_cases hlt : q < m
    · have hqR : q < rows.length := by rw [HMM.out]; exact hlt
      have hqA : q < A.length := by rw [HA.out]; exact hlt
      have hlb := HL.out.1.below HI.out.1 (Nat.le_refl _)
      obtain ⟨ab, ao, haa⟩ := hlb.some (k := 2 * q) (by rw [rowCells_length]; omega)
      rw [haa] at hlb
      obtain ⟨a0, a1⟩ := row_at hlb hqR
      have rA := (HL.out.2.1 _ (List.getElem_mem hqR)).below HI.out.1
      have hcp := HL.out.2.2 _ (List.getElem_mem hqR)
      have HS : Shut (rows[q].says = A[q]) := ⟨by simp [← HAA.out]⟩
      have HT : Shut (A.take (q + 1) = A.take q ++ [rows[q].says]) := ⟨by rw [HS.out]; exact List.take_succ_eq_append_getElem hqA⟩
      have hfit := HRT.out.fits _ (List.getElem_mem hqA)
      rw [← HS.out] at hfit
      obtain ⟨F, hFi⟩ : ∃ F : Nat, firstI rows[q].h = F := by
        obtain ⟨j, hj⟩ := HRT.out.sys.lead _ (List.mem_map_of_mem (List.getElem_mem hqA))
        rw [← HS.out] at hj
        exact ⟨j, firstI_lead.2 hj⟩
      generalize rows[q]'hqR = O at *
      have bd : Below wr.heap.size wr (wr.alloc (.cells #[O.hv, O.dv] 62)) := (Below.refl _ _).alloc (Nat.le_refl _) _
      obtain ⟨v0, v1⟩ := Box2.mk wr O.hv O.dv 62
      have hCF := first_any O _ (rA.below bd)
      rw [hFi] at hCF
      have HI2 := Shut.mk (HI.out.below bd)
      have HRA := Shut.mk (rA.below bd)
      have HFI := Shut.mk hFi
      have HFIT := Shut.mk hfit
      have HCNT : Shut (O.h.count true = 1 ↔ ¬ true ∈ O.h.drop (F + 1)) := ⟨count_one hFi⟩
      have hFl : F < O.h.length := by have h1 := firstI_lt O.h; omega
      have hO24 : O.h.length ≤ 24 := by have := hfit.1; simp only [MRow.says] at this; omega
      have HDK : Shut (O.d.length = k) := ⟨hfit.2⟩
      have HgW : Shut (w1.heap.size < wr.heap.size) := ⟨HI.out.2.2.1⟩
      clear bd rA HI hlb hFi hfit
      obtain ⟨oha, ohc, oh, oda, odc, od⟩ := O
      simp only [MRow.hv, MRow.dv] at *
      subst haa
      go_wp2_with fail
      refine hCF.mono ?_
      rintro e w2 ⟨rfl, hb2⟩
      replace HI2 := Shut.mk (HI2.out.below hb2)
      replace HRA := Shut.mk (HRA.out.below hb2)
      have z0 := cellC v0 hb2
      have z1 := cellC v1 hb2
      have HgW2 : Shut (w1.heap.size < w2.heap.size) := ⟨by have h1 := hb2.size; have h2 := HgW.out; simp at h1; omega⟩
      clear hCF hb2 v0 v1 a0 a1 HgW
      obtain ⟨ob, oo, hoo⟩ := HRA.out.1.some (k := F) (by simpa using hFl)
      simp only at hoo
      subst hoo
      have hdl : oh.length - (F + 1) = (oh.drop (F + 1)).length := by simp
      have hCn : ∀ (a : Option Addr) (c : Nat), (a = some ⟨ob, oo + (F + 1), none⟩ ∨ oh.length = F + 1) → Calls Tryd.prog 54 #[.slice a (oh.length - (F + 1)) c, .bool true] w2 fun e w' => e = .returned (.bool (decide (true ∈ oh.drop (F + 1)))) ∧ w2 = w' := fun a c h => by
        rw [hdl]
        refine containsT_any a c (oh.drop (F + 1)) w2 (by unfold maxLen; simp; omega) ?_
        rcases h with rfl | h
        · refine Lies.mk fun j hj => ?_
          have := HRA.out.1.at (k := F + 1 + j) (u := .bool (oh[F + 1 + j]'(by simp at hj; omega))) (by simp)
          simp only [List.getElem_map, List.getElem_drop]
          rw [← this]
          congr 2
          omega
        · rw [List.drop_of_length_le (by omega)]
          exact Lies.nil _ _
      clear hdl
      have hFn : F < n := by have h1 := HFIT.out.1; simp only [MRow.says] at h1; omega
      obtain ⟨b, hbm⟩ : ∃ b, decide (true ∈ oh.drop (F + 1)) = b := ⟨_, rfl⟩
      simp only [hbm] at hCn
      have HB := Shut.mk hbm
      clear hbm
      by_cases hcc : ohc = F + 1
      all_goals
        go_wp2_with fail
        refine (hCn _ _ (by first | exact .inl rfl | exact .inr (by omega))).mono ?_
        rintro e w3 ⟨rfl, rfl⟩
        clear hCn
        cases b
        · have hc1 : oh.count true = 1 := HCNT.out.2 (of_decide_eq_false HB.out)
          have HC1 := Shut.mk hc1
          obtain ⟨db, do', hdd⟩ := HRA.out.2.1.some (k := 0) (by simp [bs]; have := HDK.out; omega)
          simp only at hdd
          subst hdd
          have hCl := cloneD_any db do' odc od.length od w2 rfl (by have := HDK.out; omega) HRA.out.2.1
          clear hc1
          go_wp2_with fail
          refine hCl.mono ?_
          rintro e w4 ⟨p4, q4, rfl, l4, hb4, hq4, hn4⟩
          have HI4 := HI2.out.below hb4
          have R1 : Shut (KnInv w (w4.setCell ⟨w1.heap.size, F, none⟩ (.slice p4 od.length q4)) w1.heap.size n (A.take (q + 1))) := ⟨by
            rw [HT.out]
            exact HI4.put (r := ⟨some ⟨ob, oo, none⟩, ohc, oh, some ⟨db, do', none⟩, odc, od⟩) HC1.out HFI.out (by have := HDK.out; show 0 < od.length; omega) l4 HRA.out.2.2.2 hq4 (fun c o e => by have := hn4 c o e; have := HgW2.out; omega)⟩
          obtain ⟨_, _, _, bl, j4, j5, _⟩ := HI4
          have c0 := j5.cell hFn
          have cf := j5.frozen F
          generalize (bl[F]?.getD nilB).val = y0 at *
          clear j4 j5 hCl hb4 hn4 l4 HI2 z0 z1
          go_wp2
          go_roundw
          case rel => exact ⟨q + 1, by omega, by go_num, R1⟩
          case measure => simp [intOf]; omega
        · have R1 : Shut (KnInv w w2 w1.heap.size n (A.take (q + 1))) := ⟨by
            rw [HT.out]
            exact HI2.out.pass fun hc => HCNT.out.1 hc (of_decide_eq_true HB.out)⟩
          clear HI2 z0 z1
          go_wp2
          go_roundw
          case rel => exact ⟨q + 1, by omega, by go_num, R1⟩
          case measure => simp [intOf]; omega
    · have HE : Shut (KnInv w wr w1.heap.size n A) := ⟨by have h := HI.out; rwa [List.take_of_length_le (by rw [HA.out]; omega)] at h⟩
      clear HI
      go_wp2
      go_ret2
      obtain ⟨h1, h2, h3, bl, h4, h5, h6, h7, h8⟩ := HE.out
      refine ⟨w1.heap.size, bl, rfl, ?_, h6, fun b hb => (h7 b hb).2, h8, h1⟩
      have := rowIs_lies h5
      have e : (List.range n).map (fun j => (bl[j]?.getD nilB).val) = bl.map Blk.val := by
        apply List.ext_getElem
        · simp [h4]
        · intro i p1 p2
          simp at p2
          simp [p2]
      rwa [e] at this

/-- solve.Known of a right system -/
theorem knownS_good (n k : Nat) (ra : Option Addr) (rc : Nat) (rows : List MRow) (w : World) (hl : Lies w ra (rowCells rows)) (hall : ∀ x ∈ rows, RowIn w x) (hcap : ∀ x ∈ rows, x.h.length ≤ x.hc) (hR : Right n k (rows.map MRow.says)) :
    Calls Tryd.prog 26 #[.agg #[.int .i64 n, .int .i64 k, .slice ra rows.length rc]] w fun e w' => KnAns w w' n (rows.map MRow.says) e :=
  knownS_right n k rows.length ra rc rows _ w hl hall hcap rfl rfl hR

end Go.Proofs.YtkiejflgphjfjacDoor

/-
  The closed fact 'solved': it is true.
-/
namespace Go.Proofs.YtkiejflgphjfjacDoor
open Go.RowKit
set_option linter.unusedVariables false
set_option linter.unusedSimpArgs false

theorem right_nil {n k : Nat} (n1 : 1 ≤ n) (n2 : n ≤ 24) (k1 : 1 ≤ k) (k2 : k ≤ 16) : Right n k [] := ⟨n1, n2, k1, k2, (fun r hr => by cases hr), Sys.nil⟩

/-- a row of two blocks, one byte each, in two blocks of memory laid anew -/
theorem row2_in (w : World) (x y : Bool) (z : UInt8) : RowIn ((w.alloc (.cells #[.bool x, .bool y] 4)).alloc (.cells #[.int .u8 (z.toNat : Int)] 5)) ⟨some ⟨w.heap.size, 0, none⟩, 2, [x, y], some ⟨w.heap.size + 1, 0, none⟩, 1, [z]⟩ := by
  obtain ⟨b0, b1⟩ := alloc2 w (.cells #[.bool x, .bool y] 4) (.cells #[.int .u8 (z.toNat : Int)] 5)
  refine ⟨Lies.of_block b0, Lies.of_block b1, by simp [maxLen], by simp [maxLen]⟩

/-- solve.Add of a row of two blocks -/
theorem add2_any (w : World) (x y : Bool) (z : UInt8) (a : Option Addr) (c m : Nat) (rows : List MRow) (A : List LRow) (hm : A.length = m) (hl : Lies w a (rowCells rows)) (hr : ∀ r ∈ rows, RowIn w r) (hs : rows.map MRow.says = A) (hR : Right 2 1 A) :
    Calls Tryd.prog 25 #[.agg #[.int .i64 2, .int .i64 1, .slice a m c], .agg #[.slice (some ⟨w.heap.size, 0, none⟩) 2 2, .slice (some ⟨w.heap.size + 1, 0, none⟩) 1 1]] ((w.alloc (.cells #[.bool x, .bool y] 4)).alloc (.cells #[.int .u8 (z.toNat : Int)] 5)) fun e w' =>
      AddAnsC ((w.alloc (.cells #[.bool x, .bool y] 4)).alloc (.cells #[.int .u8 (z.toNat : Int)] 5)) w' 2 1 A ([x, y], [z]) e := by
  have hb : Below w.heap.size w ((w.alloc (.cells #[.bool x, .bool y] 4)).alloc (.cells #[.int .u8 (z.toNat : Int)] 5)) := ((Below.refl _ _).alloc (Nat.le_refl _) _).alloc (by simp) _
  have hml : rows.length = m := by rw [← hm, ← hs]; simp
  exact addS_right 2 1 m a c rows A ⟨some ⟨w.heap.size, 0, none⟩, 2, [x, y], some ⟨w.heap.size + 1, 0, none⟩, 1, [z]⟩ _ _ (hl.below hb (Nat.le_refl _)) (fun r hr' => (hr r hr').below hb) (row2_in w x y z) hml hs rfl hR ⟨rfl, rfl⟩

theorem p1 : addL [] ([true, true], [7]) = some [([true, true], [7])] := by decide
theorem p2 : addL [([true, true], [7])] ([false, true], [3]) = some [([true, false], [4]), ([false, true], [3])] := by decide
theorem p3 : addL [([true, false], [4]), ([false, true], [3])] ([true, false], [4]) = some [([true, false], [4]), ([false, true], [3])] := by decide
theorem p4 : addL [([true, false], [4]), ([false, true], [3])] ([true, false], [5]) = none := by decide
theorem p5 : knownL 2 [([true, false], [4]), ([false, true], [3])] = [[4], [3]] := by decide

end Go.Proofs.YtkiejflgphjfjacDoor

/-
  The closed fact 'solved': it is true.
-/
namespace Go.Proofs.YtkiejflgphjfjacDoor
open Go.RowKit
set_option linter.unusedVariables false
set_option linter.unusedSimpArgs false

theorem add2_some (w : World) (x y : Bool) (z : UInt8) (a : Option Addr) (c m m' : Nat) (rows : List MRow) (A P : List LRow) (bb : Bool) (hm : A.length = m) (hl : Lies w a (rowCells rows)) (hr : ∀ r ∈ rows, RowIn w r) (hs : rows.map MRow.says = A) (hR : Right 2 1 A) (hP : addL A ([x, y], [z]) = some P) (hm' : P.length = m') (hbb : decide (P.length = A.length + 1) = bb) :
    Calls Tryd.prog 25 #[.agg #[.int .i64 2, .int .i64 1, .slice a m c], .agg #[.slice (some ⟨w.heap.size, 0, none⟩) 2 2, .slice (some ⟨w.heap.size + 1, 0, none⟩) 1 1]] ((w.alloc (.cells #[.bool x, .bool y] 4)).alloc (.cells #[.int .u8 (z.toNat : Int)] 5)) fun e w' =>
      ∃ (a' : Option Addr) (c' : Nat) (rows' : List MRow), e = .returned (.tuple #[.agg #[.int .i64 2, .int .i64 1, .slice a' m' c'], .bool bb, .int .i64 0]) ∧ Lies w' a' (rowCells rows') ∧ (∀ r ∈ rows', RowIn w' r ∧ r.h.length ≤ r.hc) ∧ rows'.map MRow.says = P ∧ (∀ b o, a' = some ⟨b, o, none⟩ → w.heap.size ≤ b) ∧ Below w.heap.size w w' := by
  have hb : Below w.heap.size w ((w.alloc (.cells #[.bool x, .bool y] 4)).alloc (.cells #[.int .u8 (z.toNat : Int)] 5)) := ((Below.refl _ _).alloc (Nat.le_refl _) _).alloc (by simp) _
  refine (add2_any w x y z a c m rows A hm hl hr hs hR).mono ?_
  rintro e w' ⟨hb1, ⟨h0, _⟩ | ⟨P', a', c', rows', h1, rfl, h3, h4, h5, h6⟩⟩
  · rw [hP] at h0; cases h0
  · rw [hP] at h1
    cases h1
    have hlen : rows'.length = m' := by rw [← hm', ← h5]; simp
    refine ⟨a', c', rows', by rw [hlen, hbb]; rfl, h3, h4, h5, fun b o e => Nat.le_trans hb.size (h6 b o e), hb.trans (hb1.mono hb.size)⟩

theorem add2_none (w : World) (x y : Bool) (z : UInt8) (a : Option Addr) (c m : Nat) (rows : List MRow) (A : List LRow) (hm : A.length = m) (hl : Lies w a (rowCells rows)) (hr : ∀ r ∈ rows, RowIn w r) (hs : rows.map MRow.says = A) (hR : Right 2 1 A) (hP : addL A ([x, y], [z]) = none) :
    Calls Tryd.prog 25 #[.agg #[.int .i64 2, .int .i64 1, .slice a m c], .agg #[.slice (some ⟨w.heap.size, 0, none⟩) 2 2, .slice (some ⟨w.heap.size + 1, 0, none⟩) 1 1]] ((w.alloc (.cells #[.bool x, .bool y] 4)).alloc (.cells #[.int .u8 (z.toNat : Int)] 5)) fun e w' =>
      e = .returned (.tuple #[.agg #[.int .i64 0, .int .i64 0, .slice none 0 0], .bool false, .int .i64 9]) ∧ Below w.heap.size w w' := by
  have hb : Below w.heap.size w ((w.alloc (.cells #[.bool x, .bool y] 4)).alloc (.cells #[.int .u8 (z.toNat : Int)] 5)) := ((Below.refl _ _).alloc (Nat.le_refl _) _).alloc (by simp) _
  refine (add2_any w x y z a c m rows A hm hl hr hs hR).mono ?_
  rintro e w' ⟨hb1, ⟨h0, rfl⟩ | ⟨P', a', c', rows', h1, rfl, h3, h4, h5, h6⟩⟩
  · exact ⟨rfl, hb.trans (hb1.mono hb.size)⟩
  · rw [hP] at h1; cases h1

/-- a system in a box -/
def SysBox (w : World) (b n k : Nat) (a : Option Addr) (m c : Nat) (rows : List MRow) (A : List LRow) : Prop :=
  w.heap[b]? = some (.cells #[.int .i64 n, .int .i64 k, .slice a m c] 53 (0, 0)) ∧ Lies w a (rowCells rows) ∧ (∀ r ∈ rows, RowIn w r ∧ r.h.length ≤ r.hc) ∧ rows.map MRow.says = A

theorem SysBox.below {w w' : World} {b n k m c : Nat} {a : Option Addr} {rows : List MRow} {A : List LRow} (h : SysBox w b n k a m c rows A) (hb : Below w.heap.size w w') : SysBox w' b n k a m c rows A :=
  ⟨blk_below h.1 hb, h.2.1.below hb (Nat.le_refl _), fun r hr => ⟨(h.2.2.1 r hr).1.below hb, (h.2.2.1 r hr).2⟩, h.2.2.2⟩

theorem SysBox.cells {w : World} {b n k m c : Nat} {a : Option Addr} {rows : List MRow} {A : List LRow} (h : SysBox w b n k a m c rows A) : w.cell? ⟨b, 0, none⟩ = some (.int .i64 n) ∧ w.cell? ⟨b, 1, none⟩ = some (.int .i64 k) ∧ w.cell? ⟨b, 2, none⟩ = some (.slice a m c) ∧ ∀ j, w.frozen? ⟨b, j, none⟩ = false := by
  have x0 := cell_blk h.1 0
  have x1 := cell_blk h.1 1
  have x2 := cell_blk h.1 2
  simp at x0 x1 x2
  exact ⟨x0, x1, x2, fun j => frozen_blk h.1 j⟩

/-- another one is put into the box -/
theorem SysBox.put {w : World} {b n k m m' c c' : Nat} {a a' : Option Addr} {rows rows' : List MRow} {A P : List LRow} (h : SysBox w b n k a m c rows A) (hl : Lies w a' (rowCells rows')) (hr : ∀ r ∈ rows', RowIn w r ∧ r.h.length ≤ r.hc) (hs : rows'.map MRow.says = P) (hne : ∀ c o, a' = some ⟨c, o, none⟩ → c ≠ b) (hP : Right n k P) :
    SysBox (((w.setCell ⟨b, 0, none⟩ (.int .i64 n)).setCell ⟨b, 1, none⟩ (.int .i64 k)).setCell ⟨b, 2, none⟩ (.slice a' m' c')) b n k a' m' c' rows' P := by
  have gr := grown_trans (grown_trans (grown_setCell w b 0 (.int .i64 n)) (grown_setCell _ b 1 (.int .i64 k))) (grown_setCell _ b 2 (.slice a' m' c'))
  refine ⟨?_, lies_grown gr hl hne, fun r hr' => ?_, hs⟩
  · have e := heap_set (o := 2) (v := .slice a' m' c') (heap_set (o := 1) (v := .int .i64 k) (heap_set (o := 0) (v := .int .i64 n) h.1))
    rw [e]
    simp
  · have hf := hP.fits _ (by rw [← hs]; exact List.mem_map_of_mem hr')
    have h1 := hf.1
    have h2 := hf.2
    have k1 := hP.k1
    have n1 := hP.n1
    simp only [MRow.says] at h1 h2
    exact ⟨(hr r hr').1.far (by omega) (by omega) h.1 (boxy3 _ _ _ _ _) gr, (hr r hr').2⟩

theorem boxB {w w1 : World} (hb : Below w.heap.size w w1) (o : Obj) : Below w.heap.size w (w1.alloc o) := hb.alloc hb.size o

/-- the system that 'solved' makes -/
theorem r2 : Right 2 1 [([true, true], [7])] := (addL_right (right_nil (by decide) (by decide) (by decide) (by decide)) ⟨rfl, rfl⟩ p1).1
theorem r3 : Right 2 1 [([true, false], [4]), ([false, true], [3])] := (addL_right r2 ⟨rfl, rfl⟩ p2).1

set_option maxHeartbeats 2000000 in
set_option maxRecDepth 8000 in
theorem solved_any (w : World) : Calls Tryd.prog 11 #[] w fun e w' => e = .returned (.bool true) ∧ Below w.heap.size w w' := by
  have hchk : chkSys 2 1 [] = 0 := chk_of_right (n := 2) (k := 1) (right_nil (by decide) (by decide) (by decide) (by decide))
  have hN := new_any 2 1 w (.agg #[.int .i64 2, .int .i64 1, .slice none 0 0]) (by rw [if_pos hchk])
  rw [hchk] at hN
  clear hchk
  go_enter Tryd.func11, Tryd.ntmps11
  go_wp2_with fail
  refine hN.mono ?_
  rintro e w1 ⟨rfl, hb1⟩
  have HS : Shut (SysBox (w1.alloc (.cells #[.int .i64 2, .int .i64 1, .slice none 0 0] 53)) w1.heap.size 2 1 none 0 0 [] []) := ⟨by rw [heap_alloc_eq, if_pos rfl]; rfl, Lies.nil _ _, (fun r hr => by cases hr), rfl⟩
  have hB := boxB hb1 (.cells #[.int .i64 2, .int .i64 1, .slice none 0 0] 53)
  have HBB : Shut (w.heap.size ≤ w1.heap.size ∧ w1.heap.size < (w1.alloc (.cells #[.int .i64 2, .int .i64 1, .slice none 0 0] 53)).heap.size) := ⟨hb1.size, by simp⟩
  clear hN hb1
  go_upto_region 2 with fail
  generalize w1.alloc (.cells #[.int .i64 2, .int .i64 1, .slice none 0 0] 53) = W1 at *
  generalize w1.heap.size = b at *
  obtain ⟨x0, x1, x2, xf⟩ := HS.out.cells
  replace x0 : _ = some (Value.int .i64 2) := x0
  replace x1 : _ = some (Value.int .i64 1) := x1
  have hA := add2_some W1 true true 7 none 0 0 1 [] [] [([true, true], [7])] true rfl HS.out.2.1 (fun r hr => (HS.out.2.2.1 r hr).1) HS.out.2.2.2 (right_nil (by decide) (by decide) (by decide) (by decide)) p1 rfl rfl
  clear xf
  go_wp2_with fail
  refine hA.mono ?_
  rintro e V1 ⟨a1, c1, rows1, rfl, l1, h1, s1, n1, d1⟩
  replace HS := Shut.mk (HS.out.below d1)
  replace hB := hB.trans (d1.mono hB.size)
  replace HBB : Shut (w.heap.size ≤ b ∧ b < V1.heap.size ∧ ∀ c o, a1 = some ⟨c, o, none⟩ → c ≠ b) := ⟨HBB.out.1, Nat.lt_of_lt_of_le HBB.out.2 d1.size, fun c o e => by have := n1 c o e; have := HBB.out.2; omega⟩
  clear hA x0 x1 x2 d1 n1
  obtain ⟨y0, y1, y2, yf⟩ := HS.out.cells
  have f0 := yf 0
  have f1 := yf 1
  have f2 := yf 2
  replace HS := Shut.mk (HS.out.put (m' := 1) (c' := c1) l1 h1 s1 HBB.out.2.2 r2)
  replace hB := ((hB.setCell (p := ⟨b, 0, none⟩) (by simpa using HBB.out.1) (.int .i64 2)).setCell (p := ⟨b, 1, none⟩) (by simpa using HBB.out.1) (.int .i64 1)).setCell (p := ⟨b, 2, none⟩) (by simpa using HBB.out.1) (.slice a1 1 c1)
  replace HBB : Shut (w.heap.size ≤ b ∧ b < (((V1.setCell ⟨b, 0, none⟩ (.int .i64 2)).setCell ⟨b, 1, none⟩ (.int .i64 1)).setCell ⟨b, 2, none⟩ (.slice a1 1 c1)).heap.size) := ⟨HBB.out.1, by simpa using HBB.out.2.1⟩
  clear yf l1 h1 s1
  go_upto_region 3 with fail
  replace HS : Shut (SysBox (((V1.setCell ⟨b, 0, none⟩ (.int .i64 2)).setCell ⟨b, 1, none⟩ (.int .i64 1)).setCell ⟨b, 2, none⟩ (.slice a1 1 c1)) b 2 1 a1 1 c1 rows1 [([true, true], [7])]) := HS
  clear y0 y1 y2 f0 f1 f2
  generalize ((V1.setCell ⟨b, 0, none⟩ (.int .i64 2)).setCell ⟨b, 1, none⟩ (.int .i64 1)).setCell ⟨b, 2, none⟩ (.slice a1 1 c1) = W2 at *
  obtain ⟨x0, x1, x2, xf⟩ := HS.out.cells
  replace x0 : _ = some (Value.int .i64 2) := x0
  replace x1 : _ = some (Value.int .i64 1) := x1
  have hA := add2_some W2 false true 3 a1 c1 1 2 rows1 [([true, true], [7])] [([true, false], [4]), ([false, true], [3])] true rfl HS.out.2.1 (fun r hr => (HS.out.2.2.1 r hr).1) HS.out.2.2.2 r2 p2 rfl rfl
  clear xf
  go_wp2_with fail
  refine hA.mono ?_
  rintro e V2 ⟨a2, c2, rows2, rfl, l2, h2, s2, n2, d2⟩
  replace HS := Shut.mk (HS.out.below d2)
  replace hB := hB.trans (d2.mono hB.size)
  replace HBB : Shut (w.heap.size ≤ b ∧ b < V2.heap.size ∧ ∀ c o, a2 = some ⟨c, o, none⟩ → c ≠ b) := ⟨HBB.out.1, Nat.lt_of_lt_of_le HBB.out.2 d2.size, fun c o e => by have := n2 c o e; have := HBB.out.2; omega⟩
  clear hA x0 x1 x2 d2 n2
  obtain ⟨y0, y1, y2, yf⟩ := HS.out.cells
  have f0 := yf 0
  have f1 := yf 1
  have f2 := yf 2
  replace HS := Shut.mk (HS.out.put (m' := 2) (c' := c2) l2 h2 s2 HBB.out.2.2 r3)
  replace hB := ((hB.setCell (p := ⟨b, 0, none⟩) (by simpa using HBB.out.1) (.int .i64 2)).setCell (p := ⟨b, 1, none⟩) (by simpa using HBB.out.1) (.int .i64 1)).setCell (p := ⟨b, 2, none⟩) (by simpa using HBB.out.1) (.slice a2 2 c2)
  replace HBB : Shut (w.heap.size ≤ b ∧ b < (((V2.setCell ⟨b, 0, none⟩ (.int .i64 2)).setCell ⟨b, 1, none⟩ (.int .i64 1)).setCell ⟨b, 2, none⟩ (.slice a2 2 c2)).heap.size) := ⟨HBB.out.1, by simpa using HBB.out.2.1⟩
  clear yf l2 h2 s2
  go_upto_region 4 with fail
  replace HS : Shut (SysBox (((V2.setCell ⟨b, 0, none⟩ (.int .i64 2)).setCell ⟨b, 1, none⟩ (.int .i64 1)).setCell ⟨b, 2, none⟩ (.slice a2 2 c2)) b 2 1 a2 2 c2 rows2 [([true, false], [4]), ([false, true], [3])]) := HS
  clear y0 y1 y2 f0 f1 f2
  generalize ((V2.setCell ⟨b, 0, none⟩ (.int .i64 2)).setCell ⟨b, 1, none⟩ (.int .i64 1)).setCell ⟨b, 2, none⟩ (.slice a2 2 c2) = W3 at *
  obtain ⟨x0, x1, x2, xf⟩ := HS.out.cells
  replace x0 : _ = some (Value.int .i64 2) := x0
  replace x1 : _ = some (Value.int .i64 1) := x1
  have hA := add2_some W3 true false 4 a2 c2 2 2 rows2 [([true, false], [4]), ([false, true], [3])] [([true, false], [4]), ([false, true], [3])] false rfl HS.out.2.1 (fun r hr => (HS.out.2.2.1 r hr).1) HS.out.2.2.2 r3 p3 rfl rfl
  clear xf
  go_wp2_with fail
  refine hA.mono ?_
  rintro e V3 ⟨a3, c3, rows3, rfl, l3, h3, s3, n3, d3⟩
  replace HS := Shut.mk (HS.out.below d3)
  replace hB := hB.trans (d3.mono hB.size)
  have bA : Below V3.heap.size V3 (V3.alloc (.cells #[.int .i64 2, .int .i64 1, .slice a3 2 c3] 53)) := (Below.refl _ _).alloc (Nat.le_refl _) _
  replace HS := Shut.mk (HS.out.below bA)
  replace hB := hB.trans (bA.mono hB.size)
  clear hA x0 x1 x2 d3 n3 bA l3 h3 s3
  go_upto_region 5 with fail
  generalize V3.alloc (.cells #[.int .i64 2, .int .i64 1, .slice a3 2 c3] 53) = W4 at *
  obtain ⟨x0, x1, x2, xf⟩ := HS.out.cells
  replace x0 : _ = some (Value.int .i64 2) := x0
  replace x1 : _ = some (Value.int .i64 1) := x1
  have hA := add2_none W4 true false 5 a2 c2 2 rows2 [([true, false], [4]), ([false, true], [3])] rfl HS.out.2.1 (fun r hr => (HS.out.2.2.1 r hr).1) HS.out.2.2.2 r3 p4
  clear xf
  go_wp2_with fail
  refine hA.mono ?_
  rintro e V4 ⟨rfl, d4⟩
  replace HS := Shut.mk (HS.out.below d4)
  replace hB := hB.trans (d4.mono hB.size)
  have bA : Below V4.heap.size V4 (V4.alloc (.cells #[.int .i64 0, .int .i64 0, .slice none 0 0] 53)) := (Below.refl _ _).alloc (Nat.le_refl _) _
  replace HS := Shut.mk (HS.out.below bA)
  replace hB := hB.trans (bA.mono hB.size)
  clear hA x0 x1 x2 d4 bA
  go_upto_region 6 with fail
  generalize V4.alloc (.cells #[.int .i64 0, .int .i64 0, .slice none 0 0] 53) = W5 at *
  obtain ⟨x0, x1, x2, xf⟩ := HS.out.cells
  replace x0 : _ = some (Value.int .i64 2) := x0
  replace x1 : _ = some (Value.int .i64 1) := x1
  have hK := knownS_right 2 1 2 a2 c2 rows2 [([true, false], [4]), ([false, true], [3])] W5 HS.out.2.1 (fun r hr => (HS.out.2.2.1 r hr).1) (fun r hr => (HS.out.2.2.1 r hr).2) (by have := congrArg List.length HS.out.2.2.2; simpa using this) HS.out.2.2.2 r3
  clear xf
  go_wp2_with fail
  refine hK.mono ?_
  rintro e V5 ⟨g, bl, rfl, hl, hall, _, hkn, d5⟩
  rw [p5] at hkn
  replace hB := hB.trans (d5.mono hB.size)
  obtain ⟨B0, B1, rfl⟩ : ∃ B0 B1, bl = [B0, B1] := by
    match bl, hkn with
    | [B0, B1], _ => exact ⟨B0, B1, rfl⟩
    | [], h => simp at h
    | [_], h => simp at h
    | _ :: _ :: _ :: _, h => simp at h
  simp only [List.map_cons, List.map_nil, List.cons.injEq, and_true] at hkn
  have k0 := hl.at (k := 0) (u := .slice B0.a 1 B0.cap) (by simp [Blk.val, hkn.1])
  have k1 := hl.at (k := 1) (u := .slice B1.a 1 B1.cap) (by simp [Blk.val, hkn.2])
  have lB0 := (hall B0 (by simp)).1
  have lB1 := (hall B1 (by simp)).1
  rw [hkn.1] at lB0
  rw [hkn.2] at lB1
  simp at k0 k1
  clear hK x0 x1 x2 d5 HS HBB hkn hall hl
  have bA : Below V5.heap.size V5 (V5.alloc (.cells #[.int .u8 4] 5)) := (Below.refl _ _).alloc (Nat.le_refl _) _
  have hE := equalBlock (w := V5.alloc (.cells #[.int .u8 4] 5)) B0.a (some ⟨V5.heap.size, 0, none⟩) B0.cap 1 [4] [4] (by simp [maxLen]) (by simp [maxLen]) (lB0.alloc _) (Lies.alloc_new V5 #[.int .u8 4] 5)
  rw [decide_eq_true rfl] at hE
  simp only [List.length_cons, List.length_nil, Nat.zero_add] at hE
  go_wp2_with fail
  refine hE.mono ?_
  rintro e V6 ⟨rfl, n6, rfl⟩
  replace bA := bA.trans ((bdn (V5.alloc (.cells #[.int .u8 4] 5)) n6 _).mono bA.size)
  replace k1 := cellC k1 bA
  replace lB1 := lB1.below bA (Nat.le_refl _)
  replace hB := hB.trans (bA.mono hB.size)
  clear bA hE k0 lB0
  generalize (V5.alloc (.cells #[.int .u8 4] 5)).drewN n6 = V7 at *
  have bA : Below V7.heap.size V7 (V7.alloc (.cells #[.int .u8 3] 5)) := (Below.refl _ _).alloc (Nat.le_refl _) _
  have hE := equalBlock (w := V7.alloc (.cells #[.int .u8 3] 5)) B1.a (some ⟨V7.heap.size, 0, none⟩) B1.cap 1 [3] [3] (by simp [maxLen]) (by simp [maxLen]) (lB1.alloc _) (Lies.alloc_new V7 #[.int .u8 3] 5)
  rw [decide_eq_true rfl] at hE
  simp only [List.length_cons, List.length_nil, Nat.zero_add] at hE
  go_wp2_with fail
  refine hE.mono ?_
  rintro e V8 ⟨rfl, n8, rfl⟩
  replace bA := bA.trans ((bdn (V7.alloc (.cells #[.int .u8 3] 5)) n8 _).mono bA.size)
  replace hB := hB.trans (bA.mono hB.size)
  clear bA hE k1 lB1
  generalize (V7.alloc (.cells #[.int .u8 3] 5)).drewN n8 = V9 at *
  go_wp2
  go_ret
  exact ⟨rfl, hB⟩

end Go.Proofs.YtkiejflgphjfjacDoor

/-
  pick.next and pick.howMany: the contract of each.
-/
namespace Go.Proofs.YtkiejflgphjfjacDoor
open Go.RowKit
set_option linter.unusedVariables false
set_option linter.unusedSimpArgs false

/-- the variable's cells -/
def limV : List Value := [.int .i64 8192, .int .i64 40960, .int .i64 51882, .int .i64 57344, .int .i64 60621]

/-- the program's limits are laid as its text lays them -/
def Laid (w : World) : Prop := Lies w (some ⟨0, 0, none⟩) limV

theorem Laid.below {w w' : World} (h : Laid w) (hb : Below w.heap.size w w') : Laid w' := Lies.below hb h (Nat.le_refl _)

theorem next_any (x : Nat) (w : World) (hx : x < 65536) :
    Calls Tryd.prog 46 #[.int .i64 x] w fun e w' => e = .returned (.int .i64 (nx x : Nat)) ∧ w = w' := by
  go_enter Tryd.func46, Tryd.ntmps46
  go_wp2
  go_ret
  exact ⟨ret_int (by simp [nx]), rfl⟩

theorem howMany_any (x b : Nat) (w : World) (hx : x < 65536) (hb : b ≤ 24) (hL : Laid w) :
    Calls Tryd.prog 47 #[.int .i64 x, .int .i64 b] w fun e w' => e = .returned (.int .i64 (many b x : Nat)) ∧ w = w' := by
  have c0 := Lies.at hL (k := 0) rfl
  have c1 := Lies.at hL (k := 1) rfl
  have c2 := Lies.at hL (k := 2) rfl
  have c3 := Lies.at hL (k := 3) rfl
  have c4 := Lies.at hL (k := 4) rfl
  have i0 : ∀ W : World, (Instr.index 106 (.agg #[.int .i64 8192, .int .i64 40960, .int .i64 51882, .int .i64 57344, .int .i64 60621]) (.int .i64 0)).run Tryd.prog W = .ok (.int .i64 8192) W := fun _ => by kernel_rfl
  have i1 : ∀ W : World, (Instr.index 106 (.agg #[.int .i64 8192, .int .i64 40960, .int .i64 51882, .int .i64 57344, .int .i64 60621]) (.int .i64 1)).run Tryd.prog W = .ok (.int .i64 40960) W := fun _ => by kernel_rfl
  have i2 : ∀ W : World, (Instr.index 106 (.agg #[.int .i64 8192, .int .i64 40960, .int .i64 51882, .int .i64 57344, .int .i64 60621]) (.int .i64 2)).run Tryd.prog W = .ok (.int .i64 51882) W := fun _ => by kernel_rfl
  have i3 : ∀ W : World, (Instr.index 106 (.agg #[.int .i64 8192, .int .i64 40960, .int .i64 51882, .int .i64 57344, .int .i64 60621]) (.int .i64 3)).run Tryd.prog W = .ok (.int .i64 57344) W := fun _ => by kernel_rfl
  have i4 : ∀ W : World, (Instr.index 106 (.agg #[.int .i64 8192, .int .i64 40960, .int .i64 51882, .int .i64 57344, .int .i64 60621]) (.int .i64 4)).run Tryd.prog W = .ok (.int .i64 60621) W := fun _ => by kernel_rfl
  go_enter Tryd.func47, Tryd.ntmps47
  clear hL
  go_wp2
  clear c0 c1 c2 c3 c4
  go_loopw [8] (fun i wr => ∃ k : Nat, k ≤ 5 ∧ i = .int .i64 k ∧ wr = w ∧ Hid (∀ j, j < k → lim.getD j 0 ≤ x)) (fun i _ => 5 - (intOf i).toNat)
  case atStart => exact ⟨0, Nat.zero_le _, rfl, rfl, fun j hj => by omega⟩
  case round =>
    obtain ⟨k, hk, rfl, rfl, HL⟩ := hrel
    by_cases hlt : k < 5
    · by_cases hx2 : x < lim.getD k 0
      · have HM : Hid (many b x = min (k + 1) b) := many_at hlt HL.out hx2
        have h5 : k = 0 ∨ k = 1 ∨ k = 2 ∨ k = 3 ∨ k = 4 := by omega
        clear hlt hk HL
        obtain ⟨L, hLk⟩ : ∃ L : Int, L = lim.getD k 0 := ⟨_, rfl⟩
        have hx3 : (x : Int) < L := by omega
        have hi : ∀ W : World, (Instr.index 106 (.agg #[.int .i64 8192, .int .i64 40960, .int .i64 51882, .int .i64 57344, .int .i64 60621]) (.int .i64 k)).run Tryd.prog W = .ok (.int .i64 L) W := by
          rcases h5 with rfl | rfl | rfl | rfl | rfl
          · rw [hLk]; exact i0
          · rw [hLk]; exact i1
          · rw [hLk]; exact i2
          · rw [hLk]; exact i3
          · rw [hLk]; exact i4
        have hk5 : (k : Int) < 5 := by omega
        clear i0 i1 i2 i3 i4 hLk hx2 h5 hx
        go_wp2
        all_goals go_ret
        all_goals exact ⟨ret_int (by rw [HM.out]; omega), rfl⟩
      · have HN : Hid (∀ j, j < k + 1 → lim.getD j 0 ≤ x) := fun j hj => by
          by_cases e : j = k
          · subst e; omega
          · exact HL.out j (by omega)
        have h5 : k = 0 ∨ k = 1 ∨ k = 2 ∨ k = 3 ∨ k = 4 := by omega
        clear hlt hk HL
        obtain ⟨L, hLk⟩ : ∃ L : Int, L = lim.getD k 0 := ⟨_, rfl⟩
        have hx3 : L ≤ (x : Int) := by omega
        have hi : ∀ W : World, (Instr.index 106 (.agg #[.int .i64 8192, .int .i64 40960, .int .i64 51882, .int .i64 57344, .int .i64 60621]) (.int .i64 k)).run Tryd.prog W = .ok (.int .i64 L) W := by
          rcases h5 with rfl | rfl | rfl | rfl | rfl
          · rw [hLk]; exact i0
          · rw [hLk]; exact i1
          · rw [hLk]; exact i2
          · rw [hLk]; exact i3
          · rw [hLk]; exact i4
        have hk5 : (k : Int) < 5 := by omega
        clear i0 i1 i2 i3 i4 hLk hx2 hx
        go_wp2
        go_roundw
        case rel => exact ⟨k + 1, by omega, by go_num, trivial, HN⟩
        case measure => simp [intOf]; omega
    · obtain rfl : k = 5 := by omega
      have HM : Hid (many b x = max (b / 2) 1) := many_end HL.out
      clear hlt hk HL
      go_wp2
      all_goals go_ret
      all_goals exact ⟨ret_int (by rw [HM.out]; omega), rfl⟩

end Go.Proofs.YtkiejflgphjfjacDoor
