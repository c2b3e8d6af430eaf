import Derived.Test.YtakkajjoeimkdaaGreatDoorPart5
import Derived.Test.YtakkajjoeimkdaaGreatDoorPart9
import Derived.Test.YtakkajjoeimkdaaGreatDoorPart10
import Derived.Shelf.Abstract
import Derived.Test.YtakkajjoeimkdaaGreatDoorPart1
import Derived.Laws.BytesString
import Derived.Laws.Cells
namespace Go.Proofs.YtakkajjoeimkdaaGreatDoor
open Go.RowKit
set_option linter.unusedVariables false
set_option linter.unusedSimpArgs false

theorem indexT_any (a : Option Addr) (cap : Nat) (h : List Bool) (w : World) (hx : h.length ≤ maxLen) (hla : Lies w a (h.map Value.bool)) :
  Calls Tryz.prog 191 #[.slice a h.length cap, .bool true] w fun e w' => e = .returned (.int .i64 (firstI h)) ∧ w = w' := by
 unfold maxLen at hx
 go_enter Tryz.func191, Tryz.ntmps191
 go_wp2
 go_loopw [8] (fun i wr => ∃ k : Nat, k ≤ h.length ∧ i = .int .i64 k ∧ wr = w ∧ Shut (∀ j (hj : j < h.length), j < k → h[j] = false)) (fun i _ => h.length - (intOf i).toNat)
 case atStart => exact ⟨0, Nat.zero_le _, rfl, rfl, ⟨fun j _ hj => by omega⟩⟩
 case round =>
  obtain ⟨k, hk, rfl, rfl, HN⟩ := hrel
  by_cases hlt : k < h.length
  ·obtain ⟨b1, o1, rfl⟩ := hla.some (k := k) (by simpa using hlt)
   have c1 : wr.cell? ⟨b1, o1 + k, none⟩ = some (.bool h[k]) := hla.at (by simp [hlt])
   clear hla
   cases hx : h[k]
   ·have HN2 : Shut (∀ j (hj : j < h.length), j < k + 1 → h[j] = false) := ⟨fun j hj hjk => by
     by_cases e : j = k
     ·subst e; exact hx
     ·exact HN.out j hj (by omega)⟩
    rw [hx] at c1
    clear hx HN
    go_wp2
    go_roundw
    case rel => exact ⟨k + 1, by omega, by go_num, trivial, HN2⟩
    case measure => simp [intOf]; omega
   ·have HF : Shut (firstI h = k) := ⟨firstI_at hlt hx fun j hj => HN.out j (by omega) hj⟩
    rw [hx] at c1
    clear hx HN
    go_wp2
    go_ret
    exact ⟨ret_int HF.out.symm, rfl⟩
  ·have HF : Shut (firstI h = -1) := ⟨firstI_none fun j hj => HN.out j hj (by omega)⟩
   clear hla HN
   go_wp2
   go_ret
   exact ⟨ret_int HF.out.symm, rfl⟩

theorem firstI_mem (h : List Bool) : decide (0 ≤ firstI h) = decide (true ∈ h) := by
 rcases firstI_range h with e | ⟨m, e, hm, ht, _⟩
 ·rw [e]
  rw [decide_eq_false (by omega)]
  symm
  refine decide_eq_false fun hm => ?_
  obtain ⟨i, hi, hx⟩ := List.getElem_of_mem hm
  have := (firstI_no (r := (h, []))).1 e i
  rw [LRow.v_has hi] at this
  simp only at this
  rw [hx] at this
  cases this
 ·rw [e]
  rw [decide_eq_true (by omega)]
  symm
  refine decide_eq_true ?_
  rw [List.getD_eq_getElem?_getD, List.getElem?_eq_getElem hm] at ht
  simp only [Option.getD_some] at ht
  rw [← ht]
  exact List.getElem_mem hm

theorem containsT_any (a : Option Addr) (cap : Nat) (h : List Bool) (w : World) (hx : h.length ≤ maxLen) (hla : Lies w a (h.map Value.bool)) :
  Calls Tryz.prog 163 #[.slice a h.length cap, .bool true] w fun e w' => e = .returned (.bool (decide (true ∈ h))) ∧ w = w' := by
 have HM := Shut.mk (firstI_mem h)
 go_enter Tryz.func163, Tryz.ntmps163
 go_wp2_with fail
 refine (indexT_any a cap h w hx hla).mono ?_
 rintro e w1 ⟨rfl, rfl⟩
 clear hla hx
 generalize firstI h = q at *
 go_wp2
 all_goals go_ret
 all_goals exact ⟨retB HM.out, rfl⟩

theorem first_any (r : MRow) (w : World) (hr : RowIn w r) : Calls Tryz.prog 162 #[.agg #[r.hv, r.dv]] w fun e w' => e = .returned (.int .i64 (firstI r.h)) ∧ Below w.heap.size w w' := by
 obtain ⟨h1, h2, h3, h4⟩ := hr
 have hla := h1.alloc (.cells #[r.hv, r.dv] 237)
 have hb : Below w.heap.size w (w.alloc (.cells #[r.hv, r.dv] 237)) := (Below.refl _ _).alloc (Nat.le_refl _) _
 have hI := indexT_any r.ha r.hc r.h _ h3 hla
 clear h1 h2 h4 h3 hla
 unfold MRow.hv at *
 obtain ⟨ha, hc, h, da, dc, d⟩ := r
 simp only at *
 generalize MRow.dv ⟨ha, hc, h, da, dc, d⟩ = dv at *
 go_enter Tryz.func162, Tryz.ntmps162
 go_wp2_with fail
 refine hI.mono ?_
 rintro e w1 ⟨rfl, rfl⟩
 obtain ⟨q, hq⟩ : ∃ q, firstI h = q := ⟨_, rfl⟩
 rw [hq]
 have HQ := Shut.mk hq
 clear hI hq
 go_wp2
 go_ret
 exact ⟨ret_int HQ.out.symm, hb⟩

theorem fits_any (B K : Int) (ra : Option Addr) (m rc : Nat) (r : MRow) (w : World) (hr : RowIn w r) :
  Calls Tryz.prog 184 #[.agg #[.int .i64 B, .int .i64 K, .slice ra m rc], .agg #[r.hv, r.dv]] w fun e w' => e = .returned (.bool (decide ((r.h.length : Int) = B ∧ (r.d.length : Int) = K))) ∧ Below w.heap.size w w' := by
 obtain ⟨_, _, h3, h4⟩ := hr
 obtain ⟨ha, hc, rh, da, dc, rd⟩ := r
 simp only [MRow.hv, MRow.dv] at *
 unfold maxLen at h3 h4
 have hb : Below w.heap.size w ((w.alloc (.cells #[.int .i64 B, .int .i64 K, .slice ra m rc] 203)).alloc (.cells #[.slice ha rh.length hc, .slice da rd.length dc] 237)) := ((Below.refl _ _).alloc (Nat.le_refl _) _).alloc (by simp) _
 by_cases e1 : (rh.length : Int) = B
 ·have f1 : ((rh.length : Int) == B) = true := by simpa using e1
  by_cases e2 : (rd.length : Int) = K
  ·have f2 : ((rd.length : Int) == K) = true := by simpa using e2
   rw [decide_eq_true ⟨e1, e2⟩]
   clear e1 e2
   go_enter Tryz.func184, Tryz.ntmps184
   go_wp2
   go_ret
   exact ⟨rfl, hb⟩
  ·have f2 : ((rd.length : Int) == K) = false := by simpa using e2
   rw [decide_eq_false fun hh => e2 hh.2]
   clear e1 e2
   go_enter Tryz.func184, Tryz.ntmps184
   go_wp2
   go_ret
   exact ⟨rfl, hb⟩
 ·have f1 : ((rh.length : Int) == B) = false := by simpa using e1
  rw [decide_eq_false fun hh => e1 hh.1]
  clear e1
  go_enter Tryz.func184, Tryz.ntmps184
  go_wp2
  go_ret
  exact ⟨rfl, hb⟩

theorem holders_any (a : Option Addr) (cap : Nat) (l : List MRow) (c n : Nat) (w : World) (hl : l.length ≤ 25) (ha : Lies w a (rowCells l)) (hall : ∀ r ∈ l, RowIn w r) (hn : ∀ r ∈ l, r.h.length = n) (hc : c < n) (hn2 : n ≤ 24) :
  Calls Tryz.prog 185 #[.slice a l.length cap, .int .i64 c] w fun e w' => e = .returned (.int .i64 (holdL (l.map MRow.says) c : Nat)) ∧ Below w.heap.size w w' := by
 go_enter Tryz.func185, Tryz.ntmps185
 go_wp2
 go_loopw [5, 10] (fun v i wr => ∃ q : Nat, q ≤ l.length ∧ i = .int .i64 q ∧ v = .int .i64 (holdL ((l.map MRow.says).take q) c : Nat) ∧ Below w.heap.size w wr) (fun _ i _ => l.length - (intOf i).toNat)
 case atStart => exact ⟨0, Nat.zero_le _, rfl, rfl, Below.refl _ _⟩
 case round =>
  obtain ⟨q, hq, rfl, rfl, hb⟩ := hrel
  by_cases hlt : q < l.length
  ·obtain ⟨b1, o1, rfl⟩ := ha.some (k := 2 * q) (by rw [rowCells_length]; omega)
   obtain ⟨c0, c1⟩ := row_at (ha.below hb (Nat.le_refl _)) hlt
   have hr := (hall _ (List.getElem_mem hlt)).below hb
   have hrn := hn _ (List.getElem_mem hlt)
   have HT : Shut (holdL ((l.map MRow.says).take (q + 1)) c = holdL ((l.map MRow.says).take q) c + if l[q].h.getD c false = true then 1 else 0) := ⟨by
    rw [List.take_succ_eq_append_getElem (by simpa using hlt)]
    unfold holdL
    rw [List.countP_append]
    simp [MRow.says, List.countP_cons]⟩
   have hcl : holdL ((l.map MRow.says).take q) c ≤ 25 := Nat.le_trans List.countP_le_length (by simp; omega)
   generalize l[q]'hlt = R at *
   generalize holdL ((l.map MRow.says).take q) c = cn at *
   obtain ⟨rha, rhc, rh, rda, rdc, rd⟩ := R
   simp only [MRow.hv, MRow.dv] at *
   have bd : Below wr.heap.size wr (wr.alloc (.cells #[.slice rha rh.length rhc, .slice rda rd.length rdc] 237)) := (Below.refl _ _).alloc (Nat.le_refl _) _
   have hcr : c < rh.length := by omega
   obtain ⟨b2, o2, hx⟩ := hr.1.some (k := c) (by simpa using hcr)
   simp only at hx
   subst hx
   have c2 : wr.cell? ⟨b2, o2 + c, none⟩ = some (.bool rh[c]) := hr.1.at (by simp [hcr])
   have HG : Shut (rh.getD c false = rh[c]) := ⟨by rw [List.getD_eq_getElem?_getD, List.getElem?_eq_getElem hcr]; rfl⟩
   have c2' := cellC c2 bd
   rw [HG.out] at HT
   have hb3 := hb.trans (bd.mono hb.size)
   have hr24 : rh.length ≤ 24 := by omega
   clear HG hr ha hall hn c2 hrn
   cases hx : rh[c]
   ·rw [hx] at c2' HT
    clear hx
    go_wp2
    go_roundw
    case rel => exact ⟨q + 1, by omega, by go_num, by rw [HT.out]; rfl, hb3⟩
    case measure => simp [intOf]; omega
   ·rw [hx] at c2' HT
    clear hx
    go_wp2
    go_roundw
    case rel => exact ⟨q + 1, by omega, by go_num, by rw [HT.out]; go_num, hb3⟩
    case measure => simp [intOf]; omega
  ·have HE : Shut (holdL ((l.map MRow.says).take q) c = holdL (l.map MRow.says) c) := ⟨by rw [List.take_of_length_le (by simp; omega)]⟩
   rw [HE.out]
   clear HE ha hall hn
   go_wp2
   go_ret
   exact ⟨rfl, hb⟩

def aheadI (A : List LRow) (q : Nat) : Int := if q = 0 then -1 else firstI (A[q - 1]?.getD ([], [])).1

theorem firstI_ge (h : List Bool) : -1 ≤ firstI h := by
 rcases firstI_range h with e | ⟨m, e, _⟩ <;> omega

theorem aheadI_ge (A : List LRow) (q : Nat) : -1 ≤ aheadI A q := by
 unfold aheadI
 split
 ·omega
 ·exact firstI_ge _

theorem firstI_lt (h : List Bool) : firstI h < h.length ∨ h.length = 0 ∧ firstI h = -1 := by
 rcases firstI_range h with e | ⟨m, e, hm, _⟩
 ·rcases Nat.eq_zero_or_pos h.length with h0 | h0 <;> omega
 ·omega

theorem checkS_range (B K : Int) (ra : Option Addr) (n rc : Nat) (w : World) (h : ¬ (1 ≤ B ∧ B ≤ 24 ∧ 1 ≤ K ∧ K ≤ 16)) :
  Calls Tryz.prog 159 #[.agg #[.int .i64 B, .int .i64 K, .slice ra n rc]] w fun e w' => e = .returned (.int .i64 3) ∧ Below w.heap.size w w' := by
 have hb : Below w.heap.size w (w.alloc (.cells #[.int .i64 B, .int .i64 K, .slice ra n rc] 203)) := (Below.refl _ _).alloc (Nat.le_refl _) _
 obtain ⟨x0, x1, x2⟩ := Box3.mk w (.int .i64 B) (.int .i64 K) (.slice ra n rc) 203
 by_cases h1 : B < 1
 ·clear h
  go_enter Tryz.func159, Tryz.ntmps159
  go_wp2
  go_ret
  exact ⟨rfl, hb⟩
 ·by_cases h2 : 24 < B
  ·clear h
   go_enter Tryz.func159, Tryz.ntmps159
   go_wp2
   go_ret
   exact ⟨rfl, hb⟩
  ·by_cases h3 : K < 1
   ·clear h
    go_enter Tryz.func159, Tryz.ntmps159
    go_wp2
    go_ret
    exact ⟨rfl, hb⟩
   ·have h4 : 16 < K := by omega
    clear h
    go_enter Tryz.func159, Tryz.ntmps159
    go_wp2
    go_ret
    exact ⟨rfl, hb⟩

theorem checkS_many (B K : Int) (ra : Option Addr) (n rc : Nat) (w : World) (h : 1 ≤ B ∧ B ≤ 24 ∧ 1 ≤ K ∧ K ≤ 16) (hn : n ≤ maxLen) (h2 : B < n) :
  Calls Tryz.prog 159 #[.agg #[.int .i64 B, .int .i64 K, .slice ra n rc]] w fun e w' => e = .returned (.int .i64 2) ∧ Below w.heap.size w w' := by
 unfold maxLen at hn
 have hb : Below w.heap.size w (w.alloc (.cells #[.int .i64 B, .int .i64 K, .slice ra n rc] 203)) := (Below.refl _ _).alloc (Nat.le_refl _) _
 obtain ⟨x0, x1, x2⟩ := Box3.mk w (.int .i64 B) (.int .i64 K) (.slice ra n rc) 203
 obtain ⟨h1, h3, h4, h5⟩ := h
 have g1 : ¬ B < 1 := by omega
 have g2 : ¬ 24 < B := by omega
 have g3 : ¬ K < 1 := by omega
 have g4 : ¬ 16 < K := by omega
 go_enter Tryz.func159, Tryz.ntmps159
 go_wp2
 go_ret
 exact ⟨rfl, hb⟩

set_option maxRecDepth 4000 in
set_option maxHeartbeats 2000000 in
theorem checkS_rows (n k : Nat) (ra : Option Addr) (rc : Nat) (rows : List MRow) (w : World) (h1 : 1 ≤ n ∧ n ≤ 24) (h2 : 1 ≤ k ∧ k ≤ 16) (hm : rows.length ≤ n) (hl : Lies w ra (rowCells rows)) (hr : ∀ r ∈ rows, RowIn w r) :
  Calls Tryz.prog 159 #[.agg #[.int .i64 n, .int .i64 k, .slice ra rows.length rc]] w fun e w' => e = .returned (.int .i64 (chkSys n k (rows.map MRow.says))) ∧ Below w.heap.size w w' := by
 have hb : Below w.heap.size w (w.alloc (.cells #[.int .i64 n, .int .i64 k, .slice ra rows.length rc] 203)) := (Below.refl _ _).alloc (Nat.le_refl _) _
 obtain ⟨x0, x1, x2⟩ := Box3.mk w (.int .i64 n) (.int .i64 k) (.slice ra rows.length rc) 203
 have HR : Shut (1 ≤ (n : Int) ∧ (n : Int) ≤ 24 ∧ 1 ≤ (k : Int) ∧ (k : Int) ≤ 16) := ⟨by omega⟩
 obtain ⟨h3, h4⟩ := h1
 obtain ⟨h5, h6⟩ := h2
 have g1 : ¬ n < 1 := by omega
 have g2 : ¬ 24 < n := by omega
 have g3 : ¬ k < 1 := by omega
 have g4 : ¬ 16 < k := by omega
 have hm' : ¬ (n : Int) < rows.length := by omega
 have hmN : ¬ n < rows.length := by omega
 have HM := Shut.mk hm'
 go_enter Tryz.func159, Tryz.ntmps159
 go_wp2
 replace hl := hl.below hb (Nat.le_refl _)
 replace hr : ∀ r ∈ rows, RowIn _ r := fun r hr' => (hr r hr').below hb
 obtain ⟨W0, hW0⟩ : ∃ W0, w.alloc (.cells #[.int .i64 n, .int .i64 k, .slice ra rows.length rc] 203) = W0 := ⟨_, rfl⟩
 rw [hW0] at hb hl x0 x1 x2 ⊢
 rw [hW0] at hr
 clear hW0
 go_loopw [36] (fun m wr => ∃ q : Nat, q ≤ rows.length ∧ m = .int .i64 q ∧ Shut (∀ r ∈ rows.take q, Fits n k r.says) ∧ Below W0.heap.size W0 wr) (fun m _ => rows.length - (intOf m).toNat)
 case atStart => exact ⟨0, Nat.zero_le _, rfl, ⟨fun i hi => by simp at hi⟩, Below.refl _ _⟩
 case round =>
  obtain ⟨q, hq, rfl, HE, hbr⟩ := hrel
  by_cases hlt : q < rows.length
  ·obtain ⟨ab, ao, rfl⟩ := hl.some (k := 2 * q) (by rw [rowCells_length]; omega)
   obtain ⟨a0, a1⟩ := row_at (hl.below hbr (Nat.le_refl _)) hlt
   have rA := (hr _ (List.getElem_mem hlt)).below hbr
   have HN : Shut (Fits n k rows[q].says → ∀ r ∈ rows.take (q + 1), Fits n k r.says) := ⟨fun hf r hr' => by
    rw [List.take_succ_eq_append_getElem hlt] at hr'
    rcases List.mem_append.1 hr' with h | h
    ·exact HE.out r h
    ·simp at h; rw [h]; exact hf⟩
   have HX : Shut (¬ Fits n k rows[q].says → chkSys n k (rows.map MRow.says) = 4) := ⟨fun hf => chkSys_form HR.out (by simpa using HM.out) (i := q) (by simpa using hlt) fun ho => hf ⟨by have := ho.1; simp [hlt] at this; omega, by have := ho.2.1; simp [hlt] at this; omega⟩⟩
   generalize rows[q]'hlt = R at *
   have bd : Below wr.heap.size wr (wr.alloc (.cells #[R.hv, R.dv] 237)) := (Below.refl _ _).alloc (Nat.le_refl _) _
   obtain ⟨v0, v1⟩ := Box2.mk wr R.hv R.dv 237
   have y0 := cellC (cellC x0 hbr) bd
   have y1 := cellC (cellC x1 hbr) bd
   have y2 := cellC (cellC x2 hbr) bd
   have hF := fits_any n k (some ⟨ab, ao, none⟩) rows.length rc R _ (rA.below bd)
   have hb2 := hbr.trans (bd.mono hbr.size)
   clear HE bd rA hbr
   obtain ⟨ha, hc, rh, da, dc, rd⟩ := R
   simp only [MRow.hv, MRow.dv] at *
   go_wp2_with fail
   refine hF.mono ?_
   rintro e w2 ⟨rfl, hbF⟩
   have hb3 := hb2.trans (hbF.mono hb2.size)
   clear hF hbF hb2 y0 y1 y2 v0 v1 a0 a1
   by_cases hf : (rh.length : Int) = n ∧ (rd.length : Int) = k
   ·rw [decide_eq_true hf]
    have HN2 := Shut.mk (HN.out ⟨by show rh.length = n; omega, by show rd.length = k; omega⟩)
    clear HN HX hf
    go_wp2
    go_roundw
    case rel => exact ⟨q + 1, by omega, by go_num, HN2, hb3⟩
    case measure => simp [intOf]; omega
   ·rw [decide_eq_false hf]
    have HX2 := Shut.mk (HX.out fun hh => hf ⟨by have h := hh.1; simp only [MRow.says] at h; omega, by have h := hh.2; simp only [MRow.says] at h; omega⟩)
    clear HN HX hf
    go_wp2
    go_ret
    exact ⟨ret_int HX2.out.symm, hb.trans (hb3.mono hb.size)⟩
  ·have HA : Shut (∀ r ∈ rows, Fits n k r.says) := ⟨by have h := HE.out; rwa [List.take_of_length_le (by omega)] at h⟩
   have z2 := cellC x2 hbr
   clear HE
   go_wp2
   obtain ⟨W1, rfl⟩ : ∃ W1, W1 = wr := ⟨wr, rfl⟩
   clear hq hlt
   go_loopw [5, 48] (fun ah m wr => ∃ q : Nat, q ≤ rows.length ∧ m = .int .i64 q ∧ ah = .int .i64 (aheadI (rows.map MRow.says) q) ∧ Shut (∀ i, i < q → RowOk n k (rows.map MRow.says) i) ∧ Below W0.heap.size W0 wr) (fun _ m _ => rows.length - (intOf m).toNat)
   case atStart => exact ⟨0, Nat.zero_le _, rfl, rfl, ⟨fun i hi => by omega⟩, hbr⟩
   case round =>
    clear hbr z2
    obtain ⟨q, hq, rfl, rfl, HE, hbr⟩ := hrel
    have HAG := Shut.mk (aheadI_ge (rows.map MRow.says) q)
    by_cases hlt : q < rows.length
    ·obtain ⟨ab, ao, rfl⟩ := hl.some (k := 2 * q) (by rw [rowCells_length]; omega)
     obtain ⟨a0, a1⟩ := row_at (hl.below hbr (Nat.le_refl _)) hlt
     have rA := (hr _ (List.getElem_mem hlt)).below hbr
     have HQ : Shut ((rows.map MRow.says)[q]?.getD ([], []) = rows[q].says) := ⟨by simp [hlt]⟩
     have HF := Shut.mk (HA.out _ (List.getElem_mem hlt))
     have HAH : Shut (aheadI (rows.map MRow.says) (q + 1) = firstI rows[q].h) := ⟨by simp [aheadI, hlt, MRow.says]⟩
     have HNO : Shut (firstI rows[q].h ≤ aheadI (rows.map MRow.says) q → chkSys n k (rows.map MRow.says) = 4) := ⟨fun hle => chkSys_form HR.out (by simpa using HM.out) (i := q) (by simpa using hlt) fun ho => by
      have o1 := ho.2.2.1
      have o2 := ho.2.2.2.1
      rw [HQ.out] at o1 o2
      simp only [MRow.says] at o1 o2 hle
      unfold aheadI at hle
      split at hle
      ·omega
      ·have := o2 (by omega)
       omega⟩
     have HHO : Shut (∀ F : Nat, firstI rows[q].h = F → holdL (rows.map MRow.says) F ≠ 1 → chkSys n k (rows.map MRow.says) = 4) := ⟨fun F hF hne => chkSys_form HR.out (by simpa using HM.out) (i := q) (by simpa using hlt) fun ho => by
      refine hne ((hold_one (i := q) (by simpa using hlt) ?_).2 ?_)
      ·rw [List.getElem_map]
       exact (firstI_lead (r := rows[q].says).1 hF).1
      ·intro j hj hji
       have o3 := ho.2.2.2.2 j hj hji
       rw [HQ.out, getD_get hj] at o3
       simp only [MRow.says] at o3
       rw [hF] at o3
       simpa using o3⟩
     have HOK : Shut (∀ F : Nat, firstI rows[q].h = F → aheadI (rows.map MRow.says) q < F → holdL (rows.map MRow.says) F = 1 → ∀ i, i < q + 1 → RowOk n k (rows.map MRow.says) i) := ⟨fun F hF hgt h1 i hi => by
      by_cases e : i = q
      ·subst e
       refine ⟨by rw [HQ.out]; have := HF.out.1; omega, by rw [HQ.out]; have := HF.out.2; omega, by rw [HQ.out]; simp only [MRow.says]; omega, ?_, ?_⟩
       ·intro h0
        rw [HQ.out]
        simp only [MRow.says]
        unfold aheadI at hgt
        rw [if_neg (by omega)] at hgt
        rw [hF]
        exact hgt
       ·intro j hj hji
        have := (hold_one (A := rows.map MRow.says) (i := i) (f := F) (by simpa using hlt) (by rw [List.getElem_map]; exact (firstI_lead (r := rows[i].says).1 hF).1)).1 h1 j hj hji
        rw [HQ.out, getD_get hj]
        simp only [MRow.says]
        rw [hF]
        simpa using this
      ·exact HE.out i (by omega)⟩
     have hRN : ∀ r ∈ rows, r.h.length = n := fun r hr' => (HA.out r hr').1
     generalize rows[q]'hlt = R at *
     have bd : Below wr.heap.size wr (wr.alloc (.cells #[R.hv, R.dv] 237)) := (Below.refl _ _).alloc (Nat.le_refl _) _
     obtain ⟨v0, v1⟩ := Box2.mk wr R.hv R.dv 237
     have hC := first_any R _ (rA.below bd)
     have hb2 := hbr.trans (bd.mono hbr.size)
     have HFN := Shut.mk HF.out.1
     clear HE bd hbr HQ HF
     have hlen := firstI_lt R.h
     obtain ⟨ha, hc, rh, da, dc, rd⟩ := R
     simp only [MRow.hv, MRow.dv, MRow.says] at *
     rw [HFN.out] at hlen
     generalize aheadI (rows.map MRow.says) q = ah at *
     go_wp2_with fail
     refine hC.mono ?_
     rintro e w2 ⟨rfl, hbF⟩
     have hb3 := hb2.trans (hbF.mono hb2.size)
     clear hC hbF hb2 v0 v1 a0 a1 rA
     by_cases hle : firstI rh ≤ ah
     ·have HX := Shut.mk (HNO.out hle)
      clear HNO HHO HOK HAH hlen hl hr hRN
      generalize firstI rh = F at *
      go_wp2
      go_ret
      exact ⟨ret_int HX.out.symm, hb.trans (hb3.mono hb.size)⟩
     ·have HGE := HAG.out
      obtain ⟨F, hF⟩ : ∃ F : Nat, firstI rh = F := ⟨(firstI rh).toNat, by omega⟩
      have hFn : F < n := by omega
      have HH := holders_any (some ⟨ab, ao, none⟩) rc rows F n w2 (by omega) (hl.below hb3 (Nat.le_refl _)) (fun r hr' => (hr r hr').below hb3) hRN hFn h4
      replace HHO := Shut.mk (HHO.out F hF)
      replace HOK := Shut.mk (HOK.out F hF (by omega))
      have y2 := cellC x2 hb3
      rw [hF] at hle HAH ⊢
      clear HNO hF hlen hl hr hRN HGE
      go_wp2_with fail
      refine HH.mono ?_
      rintro e w3 ⟨rfl, hb4⟩
      have hb5 := hb3.trans (hb4.mono hb3.size)
      clear HH hb4 hb3 y2
      by_cases hone : holdL (rows.map MRow.says) F = 1
      ·have HN := Shut.mk (HOK.out hone)
       have e1 : (((holdL (rows.map MRow.says) F : Nat) : Int) != 1) = false := by simp [hone]
       clear hone HOK HHO
       generalize holdL (rows.map MRow.says) F = cn at *
       go_wp2
       go_roundw
       case rel => exact ⟨q + 1, by omega, by go_num, by rw [HAH.out], HN, hb5⟩
       case measure => simp [intOf]; omega
      ·have HX := Shut.mk (HHO.out hone)
       have e1 : (((holdL (rows.map MRow.says) F : Nat) : Int) != 1) = true := by simp; omega
       clear hone HOK HHO
       generalize holdL (rows.map MRow.says) F = cn at *
       go_wp2
       go_ret
       exact ⟨ret_int HX.out.symm, hb.trans (hb5.mono hb.size)⟩
    ·have HX : Shut (chkSys n k (rows.map MRow.says) = 0) := ⟨chkSys_ok HR.out (by simpa using HM.out) fun i hi => HE.out i (by simp at hi; omega)⟩
     clear HE HA hl hr HAG
     generalize aheadI (rows.map MRow.says) q = ah at *
     go_wp2
     go_ret
     exact ⟨ret_int HX.out.symm, hb.trans (hbr.mono hb.size)⟩

theorem checkS_any (s : MSys) (w : World) (hs : SysIn w s) :
  Calls Tryz.prog 159 #[.agg #[.int .i64 s.B, .int .i64 s.K, .slice s.ra s.rows.length s.rc]] w fun e w' => e = .returned (.int .i64 (chkSys s.B s.K (s.rows.map MRow.says))) ∧ Below w.heap.size w w' := by
 by_cases h1 : 1 ≤ s.B ∧ s.B ≤ 24 ∧ 1 ≤ s.K ∧ s.K ≤ 16
 ·by_cases h2 : s.B < s.rows.length
  ·rw [chkSys_many h1 (by simpa using h2)]
   exact checkS_many _ _ _ _ _ w h1 hs.2.2 h2
  ·obtain ⟨B, K, ra, rc, rows⟩ := s
   simp only at *
   obtain ⟨n, rfl⟩ : ∃ n : Nat, B = n := ⟨B.toNat, by omega⟩
   obtain ⟨k, rfl⟩ : ∃ k : Nat, K = k := ⟨K.toNat, by omega⟩
   exact checkS_rows n k ra rc rows w (by omega) (by omega) (by omega) hs.1 hs.2.1
 ·rw [chkSys_range h1]
  exact checkS_range _ _ _ _ _ w h1

theorem insert1_any (r : MRow) (f gk : Nat) (w : World) (hr : RowIn w r) (hk : w.cell? ⟨gk, 0, none⟩ = some (.int .i64 f)) :
  Calls Tryz.prog 209 #[.agg #[r.hv, r.dv], .pointer (some ⟨gk, 0, none⟩)] w fun e w' => e = .returned (.bool (decide ((f : Int) < firstI r.h))) ∧ Below w.heap.size w w' := by
 have hb : Below w.heap.size w (w.alloc (.cells #[r.hv, r.dv] 237)) := (Below.refl _ _).alloc (Nat.le_refl _) _
 obtain ⟨v0, v1⟩ := Box2.mk w r.hv r.dv 237
 have hk' := cellC hk hb
 have hr' := hr.below hb
 go_enter Tryz.func209, Tryz.ntmps209
 obtain ⟨ha, hc, rh, da, dc, rd⟩ := r
 simp only [MRow.hv, MRow.dv] at *
 go_upto_region 1 with fail
 obtain ⟨w2, hw2⟩ : ∃ w2, w.alloc (.cells #[.slice ha rh.length hc, .slice da rd.length dc] 237) = w2 := ⟨_, rfl⟩
 rw [hw2] at v0 v1 hk' hr' hb ⊢
 have t0 : ∀ u : Above w2, u.w.cell? ⟨w.heap.size, 0, none⟩ = some (.slice ha rh.length hc) := fun u => u.cell v0
 have t1 : ∀ u : Above w2, u.w.cell? ⟨w.heap.size, 1, none⟩ = some (.slice da rd.length dc) := fun u => u.cell v1
 have t2 : ∀ u : Above w2, u.w.cell? ⟨gk, 0, none⟩ = some (.int .i64 f) := fun u => u.cell hk'
 have hF : ∀ u : Above w2, Calls Tryz.prog 162 #[.agg #[.slice ha rh.length hc, .slice da rd.length dc]] u.w fun e w' => e = .returned (.int .i64 (firstI rh)) ∧ Below u.w.heap.size u.w w' := fun u => first_any ⟨ha, hc, rh, da, dc, rd⟩ u.w (hr'.below u.below)
 have ne : Nonempty (Above w2) := ⟨Above.start w2⟩
 clear hk hr hk' hr' v0 v1 hw2
 obtain ⟨F, hFF⟩ : ∃ F, firstI rh = F := ⟨_, rfl⟩
 rw [hFF] at hF
 have HFF := Shut.mk hFF
 clear hFF
 refine wp_region_above (by kernel_rfl) (by kernel_rfl) ?_
 repeat (go_big_quiet_step ((go_at_call 162; exact Calls.above (hF _))))
 refine wpQuiet_nil ?_
 rintro _ ⟨u, rfl⟩
 have hbu := hb.trans (u.below.mono hb.size)
 clear t0 t1 t2 hF hb
 generalize u.w = w3 at *
 go_wp2
 all_goals
  go_ret
  exact ⟨retB (by rw [HFF.out]), hbu⟩

theorem entersIns1 : ∀ args w, (callFunc 209 args).run Tryz.prog w = .ok (.enter 209 args) w := enters_of Tryz.func209 (by kernel_rfl) rfl

def idxUp (f : Nat) (A : List LRow) : Int := if posL A f < A.length then (posL A f : Nat) else -1

theorem idxUp_at {f : Nat} {A : List LRow} {k : Nat} (hk : k < A.length) (ht : (f : Int) < firstI A[k].1) (hn : ∀ j (hj : j < k), ¬ (f : Int) < firstI (A[j]'(by omega)).1) : idxUp f A = k := by
 have e : posL A f = k := by
  unfold posL
  rw [List.findIdx_eq hk]
  exact ⟨by simpa using ht, fun j hj => by simpa using hn j hj⟩
 rw [idxUp, e, if_pos hk]

theorem idxUp_none {f : Nat} {A : List LRow} (hn : ∀ j (hj : j < A.length), ¬ (f : Int) < firstI A[j].1) : idxUp f A = -1 := by
 rw [idxUp, if_neg]
 intro hl
 have := List.findIdx_getElem (w := hl)
 simp only [decide_eq_true_eq] at this
 exact hn _ hl this

set_option maxHeartbeats 400000 in
theorem indexUp_any (a : Option Addr) (cap : Nat) (l : List MRow) (f gk : Nat) (w : World) (hl : l.length ≤ 25) (ha : Lies w a (rowCells l)) (hall : ∀ r ∈ l, RowIn w r) (hk : w.cell? ⟨gk, 0, none⟩ = some (.int .i64 f)) :
  Calls Tryz.prog 210 #[.slice a l.length cap, .func (.func 209) #[] #[.pointer (some ⟨gk, 0, none⟩)]] w fun e w' => e = .returned (.int .i64 (idxUp f (l.map MRow.says))) ∧ Below w.heap.size w w' := by
 have eg := entersIns1
 go_enter Tryz.func210, Tryz.ntmps210
 go_wp2
 go_loopw [8] (fun i wr => ∃ q : Nat, q ≤ l.length ∧ i = .int .i64 q ∧ Below w.heap.size w wr ∧ Shut (∀ j (hj : j < l.length), j < q → firstI l[j].h ≤ (f : Int))) (fun i _ => l.length - (intOf i).toNat)
 case atStart => exact ⟨0, Nat.zero_le _, rfl, Below.refl _ _, ⟨fun j _ hj => by omega⟩⟩
 case round =>
  obtain ⟨q, hq, rfl, hb, HN⟩ := hrel
  by_cases hlt : q < l.length
  ·obtain ⟨b1, o1, rfl⟩ := ha.some (k := 2 * q) (by rw [rowCells_length]; omega)
   obtain ⟨c0, c1⟩ := row_at (ha.below hb (Nat.le_refl _)) hlt
   have hA := insert1_any l[q] f gk wr ((hall _ (List.getElem_mem hlt)).below hb) (cellC hk hb)
   have HT : Shut ((f : Int) < firstI l[q].h → idxUp f (l.map MRow.says) = q) := ⟨fun h => idxUp_at (by simpa using hlt) (by simpa [MRow.says] using h) fun j hj => by have := HN.out j (by omega) hj; simpa [MRow.says] using this⟩
   have HF : Shut (¬ (f : Int) < firstI l[q].h → ∀ j (hj : j < l.length), j < q + 1 → firstI l[j].h ≤ (f : Int)) := ⟨fun h j hj hjq => by
    by_cases e : j = q
    ·subst e; omega
    ·exact HN.out j hj (by omega)⟩
   generalize l[q]'hlt = R at *
   obtain ⟨rha, rhc, rh, rda, rdc, rd⟩ := R
   simp only [MRow.hv, MRow.dv] at *
   clear ha hall HN
   by_cases hx : (f : Int) < firstI rh
   ·rw [decide_eq_true hx] at hA
    have HX := Shut.mk (HT.out hx)
    clear HF HT hx
    go_wp2_with fail
    refine hA.mono ?_
    rintro e w2 ⟨rfl, hb2⟩
    have hb3 := hb.trans (hb2.mono hb.size)
    clear hA c0 c1 hb2
    go_wp2
    go_ret
    exact ⟨ret_int HX.out.symm, hb3⟩
   ·rw [decide_eq_false hx] at hA
    have HN2 := Shut.mk (HF.out hx)
    clear HF HT hx
    go_wp2_with fail
    refine hA.mono ?_
    rintro e w2 ⟨rfl, hb2⟩
    have hb3 := hb.trans (hb2.mono hb.size)
    clear hA c0 c1 hb2
    go_wp2
    go_roundw
    case rel => exact ⟨q + 1, by omega, by go_num, hb3, HN2⟩
    case measure => simp [intOf]; omega
  ·have HX : Shut (idxUp f (l.map MRow.says) = -1) := ⟨idxUp_none fun j hj => by
    have hj' : j < l.length := by simpa using hj
    have := HN.out j hj' (by omega)
    simpa [MRow.says] using this⟩
   clear HN ha
   go_wp2
   go_ret
   exact ⟨ret_int HX.out.symm, hb⟩

def mixL (p : LRow) (A : List LRow) (q : Nat) : List LRow := (A.take q).map (clrL p) ++ A.drop q

theorem mixL_next {p : LRow} {A : List LRow} {q : Nat} (hq : q < A.length) : mixL p A (q + 1) = (mixL p A q).set q (clrL p A[q]) := by
 unfold mixL
 have l : ((A.take q).map (clrL p)).length = q := by simp; omega
 rw [List.set_append_right _ _ (by omega), l, Nat.sub_self, List.drop_eq_getElem_cons hq, List.set_cons_zero, List.take_succ_eq_append_getElem hq, List.map_append]
 simp only [List.map_cons, List.map_nil, List.append_assoc, List.cons_append, List.nil_append]

theorem mixL_at {p : LRow} {A : List LRow} {q : Nat} (hq : q < A.length) : (mixL p A q)[q]? = some A[q] := by
 unfold mixL
 have l : ((A.take q).map (clrL p)).length = q := by simp; omega
 rw [List.getElem?_append_right (by omega), l, Nat.sub_self, List.getElem?_drop]
 simp [hq]

theorem mixL_set {p : LRow} {A : List LRow} {q : Nat} (hq : q < A.length) (h : clrL p A[q] = A[q]) : mixL p A (q + 1) = mixL p A q := by
 rw [mixL_next hq, h]
 apply List.ext_getElem?
 intro j
 by_cases e : j = q
 ·subst e
  have hl : j < (mixL p A j).length := by
   have := mixL_at (p := p) hq
   exact (List.getElem?_eq_some_iff.1 this).1
  rw [List.getElem?_set_self hl, mixL_at hq]
 ·rw [List.getElem?_set_ne (Ne.symm e)]

def InsInv (W0 wr : World) (g n k m b f : Nat) (r : MRow) (A : List LRow) (H : Nat → Option Obj) (q : Nat) : Prop :=
 ∃ R : List MRow, R.length = m ∧ CopyAt W0 wr g n k R ∧ Good3 wr g n k r ∧ wr.cell? ⟨b, 0, none⟩ = some r.hv ∧ wr.cell? ⟨b, 1, none⟩ = some r.dv ∧ wr.cell? ⟨b + 1, 0, none⟩ = some (.int .i64 f) ∧ R.map MRow.says = mixL r.says A q ∧ b ≤ wr.heap.size ∧ ∀ c, c < b → c ≠ g → wr.heap[c]? = H c

theorem InsInv.below {W0 wr w' : World} {g n k m b f q : Nat} {r : MRow} {A : List LRow} {H : Nat → Option Obj} (h : InsInv W0 wr g n k m b f r A H q) (hb : Below wr.heap.size wr w') : InsInv W0 w' g n k m b f r A H q := by
 obtain ⟨R, h1, h2, h3, h4, h5, h6, h7, h8, h9⟩ := h
 exact ⟨R, h1, h2.below hb, h3.below hb, cellC h4 hb, cellC h5 hb, cellC h6 hb, h7, Nat.le_trans h8 hb.size, fun c hc hne => (hb.block c (by omega)).trans (h9 c hc hne)⟩

theorem InsInv.put {W0 wr : World} {g n k m b f q : Nat} {r t : MRow} {A : List LRow} {H : Nat → Option Obj} (h : InsInv W0 wr g n k m b f r A H q) (hA : A.length = m) (hq : q < A.length) (hbg : g < b) (ht : Own3 wr g n k t) (hs : t.says = clrL r.says A[q]) :
  InsInv W0 ((wr.setCell ⟨g, q * 2, none⟩ t.hv).setCell ⟨g, q * 2 + 1, none⟩ t.dv) g n k m b f r A H (q + 1) := by
 obtain ⟨R, h1, ⟨c1, c2, c3, c4, c5⟩, h3, h4, h5, h6, h7, h8, h9⟩ := h
 refine ⟨R.set q t, by simpa using h1, ⟨(c1.setCell (p := ⟨g, q * 2, none⟩) (by simpa using c2) _).setCell (p := ⟨g, q * 2 + 1, none⟩) (by simpa using c2) _, c2, by simpa using c3, c4.set (by omega) t, ?_⟩, h3.set.set, cell_far2 h4 (by omega), cell_far2 h5 (by omega), cell_far2 h6 (by omega), ?_, by simpa using h8, fun c hc hne => by rw [Below.heap_setCell _ _ _ _ (by simpa using hne), Below.heap_setCell _ _ _ _ (by simpa using hne)]; exact h9 c hc hne⟩
 ·intro x hx
  rcases List.mem_or_eq_of_mem_set hx with hm | rfl
  ·exact (c5 x hm).set.set
  ·exact ht.set.set
 ·rw [List.map_set, h7, mixL_next hq, hs]

theorem InsInv.stay {W0 wr : World} {g n k m b f q : Nat} {r : MRow} {A : List LRow} {H : Nat → Option Obj} (h : InsInv W0 wr g n k m b f r A H q) (hq : q < A.length) (hs : clrL r.says A[q] = A[q]) : InsInv W0 wr g n k m b f r A H (q + 1) := by
 obtain ⟨R, h1, h2, h3, h4, h5, h6, h7, h8⟩ := h
 exact ⟨R, h1, h2, h3, h4, h5, h6, by rw [h7, mixL_set hq hs], h8⟩

set_option maxHeartbeats 2000000 in
theorem insert_any (W0 w : World) (g n k m f : Nat) (R : List MRow) (r : MRow) (hC : CopyAt W0 w g n k R) (hr : Good3 w g n k r) (hf : firstI r.h = f) (hR : R.length = m) (hm : m ≤ 24) (n1 : 1 ≤ n) (n2 : n ≤ 24) (k1 : 1 ≤ k) (k2 : k ≤ 16) :
  Calls Tryz.prog 190 #[.slice (some ⟨g, 0, none⟩) m m, .agg #[r.hv, r.dv], .int .i64 f] w fun e w' =>
   ∃ (g' c' : Nat) (R' : List MRow), e = .returned (.slice (some ⟨g', 0, none⟩) (m + 1) c') ∧ Lies w' (some ⟨g', 0, none⟩) (rowCells R') ∧ (∀ x ∈ R', RowIn w' x ∧ x.h.length ≤ x.hc) ∧ R'.length = m + 1 ∧
    R'.map MRow.says = ((R.map MRow.says).map (clrL r.says)).take (posL ((R.map MRow.says).map (clrL r.says)) f) ++ r.says :: ((R.map MRow.says).map (clrL r.says)).drop (posL ((R.map MRow.says).map (clrL r.says)) f) ∧ Below W0.heap.size W0 w' ∧ w.heap.size ≤ w'.heap.size ∧ (∀ c, c < w.heap.size → c ≠ g → w'.heap[c]? = w.heap[c]?) ∧ w.heap.size ≤ g' := by
 obtain ⟨blk0, blk1⟩ := alloc2 w (.cells #[r.hv, r.dv] 237) (.cells #[.int .i64 f] 3)
 obtain ⟨W1, hW1⟩ : ∃ W1, (w.alloc (.cells #[r.hv, r.dv] 237)).alloc (.cells #[.int .i64 f] 3) = W1 := ⟨_, rfl⟩
 have hB : Below w.heap.size w W1 := by rw [← hW1]; exact ((Below.refl _ _).alloc (Nat.le_refl _) _).alloc (by simp) _
 rw [hW1] at blk0 blk1
 have H0 : Shut (InsInv W0 W1 g n k m w.heap.size f r (R.map MRow.says) (fun c => w.heap[c]?) 0) := ⟨R, hR, hC.below hB, hr.below hB, by simp [World.cell?, blk0], by simp [World.cell?, blk0], by simp [World.cell?, blk1], by simp [mixL], hB.size, fun c hc _ => hB.block c hc⟩
 have hg : g < w.heap.size := hC.2.2.1
 have hfn : f < n := by
  have h1 := firstI_lt r.h
  have h2 := hr.2.1.1
  simp only [MRow.says] at h2
  omega
 obtain ⟨A, hA⟩ : ∃ A, R.map MRow.says = A := ⟨_, rfl⟩
 have hAl : A.length = m := by rw [← hA]; simpa using hR
 rw [hA] at H0 ⊢
 have HFT : Shut (∀ s : LRow, clrL r.says s = if s.1.getD f false = true then LRow.add s r.says else s) := ⟨fun s => by
  unfold clrL
  rw [show firstI r.says.1 = f from hf]
  rfl⟩
 have HF := Shut.mk hf
 have HG := Shut.mk hg
 have HA := Shut.mk hAl
 have HW := Shut.mk hW1
 have HRF := Shut.mk hr.2.1
 clear blk0 blk1 hC hr hf hB hg hW1 hAl hA hR
 obtain ⟨rha, rhc, rh, rda, rdc, rd⟩ := r
 simp only [MRow.hv, MRow.dv] at *
 go_enter Tryz.func190, Tryz.ntmps190
 go_wp2
 rw [HW.out]
 go_loopw [13] (fun v wr => ∃ q : Nat, q ≤ m ∧ v = .int .i64 q ∧ Shut (InsInv W0 wr g n k m w.heap.size f ⟨rha, rhc, rh, rda, rdc, rd⟩ A (fun c => w.heap[c]?) q)) (fun v _ => m - (intOf v).toNat)
 case atStart => exact ⟨0, Nat.zero_le _, rfl, H0⟩
 case round =>
  clear H0
  obtain ⟨q, hq, rfl, HI⟩ := hrel
  by_cases hlt : q < m
  ·obtain ⟨R', h1, h2, h3, h4, h5, h6, h7, _⟩ := HI.out
   have hqA : q < A.length := by rw [HA.out]; exact hlt
   have hqR : q < R'.length := by omega
   obtain ⟨a0, a1⟩ := h2.2.2.2.1.cells hqR
   have hO := h2.2.2.2.2 _ (List.getElem_mem hqR)
   have HS : Shut (R'[q].says = A[q]) := ⟨by
    have e := congrArg (fun x => x[q]?) h7
    simp only [List.getElem?_map, List.getElem?_eq_getElem hqR, Option.map_some, mixL_at hqA, Option.some.injEq] at e
    exact e⟩
   generalize R'[q]'hqR = O at *
   have bd : Below wr.heap.size wr (wr.alloc (.cells #[O.hv, O.dv] 237)) := (Below.refl _ _).alloc (Nat.le_refl _) _
   obtain ⟨v0, v1⟩ := Box2.mk wr O.hv O.dv 237
   have HI2 := Shut.mk (HI.out.below bd)
   have hO2 := hO.below bd
   have hr2 := h3.below bd
   have u4 := cellC h4 bd
   have u5 := cellC h5 bd
   have u6 := cellC h6 bd
   have HgW : Shut (g < wr.heap.size) := ⟨h2.2.2.1⟩
   have hOl : O.h.length = n := hO.1.2.1.1
   have HOl := Shut.mk hOl
   have hO24 : O.h.length ≤ 24 := by omega
   have hfO : f < O.h.length := by omega
   obtain ⟨ob, oo, hoo⟩ := hO2.1.1.1.some (k := f) (by simpa using hfO)
   have c2 : (wr.alloc (.cells #[O.hv, O.dv] 237)).cell? ⟨ob, oo + f, none⟩ = some (.bool O.h[f]) := by
    have h := hO2.1.1.1
    rw [hoo] at h
    exact h.at (by simp [hfO])
   have HGD : Shut (A[q].1.getD f false = O.h[f]) := ⟨by rw [← HS.out]; show O.h.getD f false = _; rw [List.getD_eq_getElem?_getD, List.getElem?_eq_getElem hfO]; rfl⟩
   clear h1 h2 h3 h4 h5 h6 h7 hO HI bd hOl
   obtain ⟨oha, ohc, oh, oda, odc, od⟩ := O
   simp only [MRow.hv, MRow.dv] at *
   subst hoo
   cases hx : oh[f]
   ·rw [hx] at c2 HGD
    have R1 := Shut.mk (HI2.out.stay hqA (by rw [HFT.out, if_neg (by rw [HGD.out]; simp)]))
    clear hx HI2 hO2 hr2 HGD
    go_wp2
    go_roundw
    case rel => exact ⟨q + 1, by omega, by go_num, R1⟩
    case measure => simp [intOf]; omega
   ·rw [hx] at c2 HGD
    have hP := plus_any ⟨some ⟨ob, oo, none⟩, ohc, oh, oda, odc, od⟩ ⟨rha, rhc, rh, rda, rdc, rd⟩ n k _ hO2.1.1 hr2.1 hO2.1.2.1 hr2.2.1 n1 n2 k1 k2
    simp only [MRow.hv, MRow.dv] at hP
    have HFO := Shut.mk hO2.1.2.1
    clear hx hO2 hr2
    go_wp2_with fail
    refine hP.mono ?_
    rintro e w4 ⟨t, rfl, hN, hTs, hb4⟩
    have HI3 := HI2.out.below hb4
    have hOt : Own3 w4 g n k t := hN.own (by rw [hTs]; exact LRow.fits_add HFO.out HRF.out) (by have := HgW.out; simp; omega)
    have R1 := Shut.mk (HI3.put HA.out hqA HG.out hOt (by rw [hTs, HFT.out, if_pos HGD.out, HS.out]))
    obtain ⟨R3, r1, r2, r3, r4, r5, r6, r7, r8⟩ := HI3
    obtain ⟨c0, c1⟩ := r2.2.2.2.1.cells (j := q) (by omega)
    have cf0 := r2.2.2.2.1.2 (q * 2)
    have cf1 := r2.2.2.2.1.2 (q * 2 + 1)
    generalize (R3[q]'(by omega)).hv = y0 at *
    generalize (R3[q]'(by omega)).dv = y1 at *
    clear r1 r2 r3 r4 r5 r6 r7 r8 hP hN hTs hb4 HI2 hOt HGD u4 u5 u6 v0 v1 a0 a1
    obtain ⟨tha, thc, th, tda, tdc, td⟩ := t
    simp only [MRow.hv, MRow.dv] at *
    go_wp2
    go_roundw
    case rel => exact ⟨q + 1, by omega, by go_num, R1⟩
    case measure => simp [intOf]; omega
  ·obtain rfl : q = m := by omega
   obtain ⟨R', h1, h2, h3, h4, h5, h6, h7, h8, h9⟩ := HI.out
   have HKP := Shut.mk (And.intro h8 h9)
   have e7 : R'.map MRow.says = A.map (clrL (MRow.mk rha rhc rh rda rdc rd).says) := by
    rw [h7, mixL, List.take_of_length_le (by rw [HA.out]; exact Nat.le_refl _), List.drop_of_length_le (by rw [HA.out]; exact Nat.le_refl _), List.append_nil]
   have hIx := indexUp_any (some ⟨g, 0, none⟩) q R' f (w.heap.size + 1) wr (by omega) h2.2.2.2.1.1 (fun x hx => (h2.2.2.2.2 x hx).1.1) h6
   rw [h1, e7] at hIx
   have hW := h2.1
   have HE7 := Shut.mk e7
   have HH := Shut.mk (And.intro h1 (And.intro h2 h3))
   obtain ⟨pos, hpos⟩ : ∃ pos, posL (A.map (clrL (MRow.mk rha rhc rh rda rdc rd).says)) f = pos := ⟨_, rfl⟩
   have hpl : pos ≤ q := by rw [← hpos]; have := posL_le (A.map (clrL (MRow.mk rha rhc rh rda rdc rd).says)) f; rw [List.length_map, HA.out] at this; exact this
   have HPOS := Shut.mk hpos
   have HIX : Shut (idxUp f (A.map (clrL (MRow.mk rha rhc rh rda rdc rd).says)) = if pos < q then (pos : Int) else -1) := ⟨by unfold idxUp; rw [hpos, List.length_map, HA.out]⟩
   clear h1 h2 h3 e7 h7 h8 h9 HI hpos hlt hq
   go_wp2_with fail
   refine hIx.mono ?_
   rintro e w2 ⟨rfl, hb2⟩
   have HK2 : Shut (w.heap.size ≤ w2.heap.size ∧ ∀ c, c < w.heap.size → c ≠ g → w2.heap[c]? = w.heap[c]?) := ⟨Nat.le_trans HKP.out.1 hb2.size, fun c hc hne => (hb2.block c (Nat.lt_of_lt_of_le hc HKP.out.1)).trans (HKP.out.2 c hc hne)⟩
   rw [HIX.out]
   have u4 := cellC h4 hb2
   have u5 := cellC h5 hb2
   have hCp := rowCopy_any (MRow.mk rha rhc rh rda rdc rd) n k w2 (HH.out.2.2.below hb2).1 HRF.out n1 n2 k1 k2
   simp only [MRow.hv, MRow.dv] at hCp
   have HH2 : Shut (R'.length = q ∧ CopyAt W0 w2 g n k R') := ⟨HH.out.1, HH.out.2.1.below hb2⟩
   clear hIx HIX HH h4 h5 h6 hb2 hW
   by_cases hp : pos < q
   case' pos => rw [if_pos hp]
   case' neg =>
    rw [if_neg hp]
    have hpq : pos = q := by omega
    clear hp
    subst hpq
   all_goals
    go_wp2_with fail
    refine hCp.mono ?_
    rintro e w3 ⟨t, rfl, hN, hTs, hb3⟩
    have hR3 := HH2.out.2.below hb3
    have HK3 : Shut (w.heap.size ≤ w3.heap.size ∧ ∀ c, c < w.heap.size → c ≠ g → w3.heap[c]? = w.heap[c]?) := ⟨Nat.le_trans HK2.out.1 hb3.size, fun c hc hne => (hb3.block c (Nat.lt_of_lt_of_le hc HK2.out.1)).trans (HK2.out.2 c hc hne)⟩
    have HR3 := Shut.mk hR3
    have bd : Below w3.heap.size w3 (w3.alloc (.cells #[t.hv, t.dv] 237)) := (Below.refl _ _).alloc (Nat.le_refl _) _
    have hS := insertS_any g _ w3.heap.size pos R' t _ HH2.out.1 hm hpl (hR3.2.2.2.1.1.below bd (Nat.le_refl _)) (Lies.alloc_new w3 #[t.hv, t.dv] 237)
    have HT := Shut.mk (And.intro hN (And.intro hTs bd))
    clear hCp hN hTs hb3 bd u4 u5 hR3
    obtain ⟨tha, thc, th, tda, tdc, td⟩ := t
    simp only [MRow.hv, MRow.dv] at *
    go_wp2_with fail
    refine hS.mono ?_
    rintro e w4 ⟨g', c', rfl, hl4, hb4, hg4⟩
    have HG4 := Shut.mk hg4
    have bd4 := HT.out.2.2.trans (hb4.mono HT.out.2.2.size)
    have HL := Shut.mk hl4
    clear hS hl4 hb4 hg4
    go_wp2
    go_ret
    refine ⟨g', c', _, rfl, HL.out, ?_, ?_, ?_, HR3.out.1.trans (bd4.mono HR3.out.1.size), Nat.le_trans HK3.out.1 bd4.size, fun c hc hne => (bd4.block c (Nat.lt_of_lt_of_le hc HK3.out.1)).trans (HK3.out.2 c hc hne), Nat.le_trans HK3.out.1 (Nat.le_trans HT.out.2.2.size HG4.out)⟩
    ·intro x hx
     rcases List.mem_append.1 hx with hx | hx
     ·have := HR3.out.2.2.2.2 x (List.mem_of_mem_take hx)
      exact ⟨this.1.1.below bd4, this.2⟩
     ·rcases List.mem_cons.1 hx with rfl | hx
      ·exact ⟨HT.out.1.1.below bd4, HT.out.1.2.2.2⟩
      ·have := HR3.out.2.2.2.2 x (List.mem_of_mem_drop hx)
       exact ⟨this.1.1.below bd4, this.2⟩
    ·have := HH2.out.1
     simp
     omega
    ·rw [List.map_append, List.map_cons, List.map_take, List.map_drop, HE7.out, HT.out.2.1, HPOS.out]

theorem foldl_push (l : List UInt8) (s : ByteArray) : ((l.map fun x => (x.toNat : Int)).foldl (fun r n => r.push (UInt8.ofNat n.toNat)) s).data.toList = s.data.toList ++ l := by
 induction l generalizing s with
 | nil => simp
 | cons x r ih =>
  simp only [List.map_cons, List.foldl_cons]
  rw [ih]
  simp [ByteArray.push]

theorem conv_bytes {w : World} {a : Option Addr} {n c : Nat} {l : List UInt8} (h : Lies w a (bs l)) (hl : l.length = n) :
  (convert 35 9 (.slice a n c)).run Tryz.prog w = .ok (.string ⟨l.toArray⟩) w := by
 rw [run_convert_bytes_string w 35 9 5 a n c Tryz.underlying35 Tryz.underlying5 Tryz.underlying9]
 cases a with
 | none =>
  have : l = [] := by
   cases l with
   | nil => rfl
   | cons x r => obtain ⟨_, _, e, _⟩ := h 0 _ (by simp [bs]; rfl); simp at e
  subst this
  simp [Conv.bytesToString, Sem.run_pure]
  rfl
 | some ad =>
  have hlc : (loadCells ad n).run Tryz.prog w = .ok ((l.map fun x => (x.toNat : Int)).map (Value.int .u8)).toArray w := by
   have hh := run_loadCells_list (P := Tryz.prog) w ad ((l.map fun x => (x.toNat : Int)).map (Value.int .u8)) (fun j v hj => by
    obtain ⟨b, off, e, hc⟩ := h j v (by simpa [bs] using hj)
    simp at e
    subst e
    simpa [Addr.add_lit] using hc)
   simpa [hl] using hh
  rw [run_bytesToString w ad n c _ hlc]
  congr 2
  have := foldl_push l ByteArray.empty
  simp at this
  cases hh : ((l.map fun x => (x.toNat : Int)).foldl (fun r n => r.push (UInt8.ofNat n.toNat)) ByteArray.empty) with
  | mk d =>
   rw [hh] at this
   simp at this
   subst this
   simp

theorem beq_dec (xs ys : List UInt8) : (xs == ys) = decide (xs = ys) := by
 by_cases h : xs = ys
 ·simp [h]
 ·simp [h]

theorem bytesEqual_any (a b : Option Addr) (ca cb : Nat) (xs ys : List UInt8) (w : World) (ha : Lies w a (bs xs)) (hb : Lies w b (bs ys)) :
  Calls Tryz.prog 45 #[.slice a xs.length ca, .slice b ys.length cb] w fun e w' => e = .returned (.bool (decide (xs = ys))) ∧ w = w' := by
 have h1 := conv_bytes (c := ca) ha rfl
 have h2 := conv_bytes (c := cb) hb rfl
 clear ha hb
 go_enter Tryz.func45, Tryz.ntmps45
 go_wp2
 go_ret
 exact ⟨ret_bool (beq_dec xs ys), rfl⟩

theorem same_any (a b : Option Addr) (n m ca cb : Nat) (xs ys : List UInt8) (w : World) (hn : xs.length = n) (hm : ys.length = m) (ha : Lies w a (bs xs)) (hb : Lies w b (bs ys)) :
  Calls Tryz.prog 120 #[.slice a n ca, .slice b m cb] w fun e w' => e = .returned (.bool (decide (xs = ys))) ∧ w = w' := by
 subst hn hm
 go_enter Tryz.func120, Tryz.ntmps120
 go_wp2_with fail
 refine (bytesEqual_any _ _ _ _ xs ys _ ha hb).mono ?_
 rintro e w' ⟨rfl, rfl⟩
 go_wp2
 go_ret
 exact ⟨rfl, rfl⟩

end Go.Proofs.YtakkajjoeimkdaaGreatDoor
