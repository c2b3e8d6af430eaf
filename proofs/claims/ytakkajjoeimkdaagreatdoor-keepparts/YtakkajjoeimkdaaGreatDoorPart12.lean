import Derived.Test.YtakkajjoeimkdaaGreatDoorPart11
import Derived.Test.YtakkajjoeimkdaaGreatDoorPart5
import Derived.Shelf.Abstract
import Derived.Test.YtakkajjoeimkdaaGreatDoorPart1
import Derived.Laws.BytesString
import Derived.Laws.Cells
import Derived.Test.YtakkajjoeimkdaaGreatDoorPart10
import Derived.Test.YtakkajjoeimkdaaGreatDoorPart3
import Derived.Deep.RegionWith
namespace Go.Proofs.YtakkajjoeimkdaaGreatDoor
open Go.RowKit
set_option linter.unusedVariables false
set_option linter.unusedSimpArgs false

theorem insert1_any (r : MRow) (f gk : Nat) (w : World) (hr : RowIn w r) (hk : w.cell? ⟨gk, 0, none⟩ = some (.int .i64 f)) :
  Calls Tryz.prog 209 #[.agg #[r.hv, r.dv], .pointer (some ⟨gk, 0, none⟩)] w fun e w' => e = .returned (.bool (decide ((f : Int) < firstI r.h))) ∧ Below w.heap.size w w' := by
 have hb : Below w.heap.size w (w.alloc (.cells #[r.hv, r.dv] 237)) := (Below.refl _ _).alloc (Nat.le_refl _) _
 obtain ⟨v0, v1⟩ := Box2.mk w r.hv r.dv 237
 have hk' := cellC hk hb
 have hr' := hr.below hb
 go_enter Tryz.func209, Tryz.ntmps209
 obtain ⟨ha, hc, rh, da, dc, rd⟩ := r
 simp only [MRow.hv, MRow.dv] at *
 go_upto_region 1 with fail
 obtain ⟨w2, hw2⟩ : ∃ w2, w.alloc (.cells #[.slice ha rh.length hc, .slice da rd.length dc] 237) = w2 := ⟨_, rfl⟩
 rw [hw2] at v0 v1 hk' hr' hb ⊢
 have t0 : ∀ u : Above w2, u.w.cell? ⟨w.heap.size, 0, none⟩ = some (.slice ha rh.length hc) := fun u => u.cell v0
 have t1 : ∀ u : Above w2, u.w.cell? ⟨w.heap.size, 1, none⟩ = some (.slice da rd.length dc) := fun u => u.cell v1
 have t2 : ∀ u : Above w2, u.w.cell? ⟨gk, 0, none⟩ = some (.int .i64 f) := fun u => u.cell hk'
 have hF : ∀ u : Above w2, Calls Tryz.prog 162 #[.agg #[.slice ha rh.length hc, .slice da rd.length dc]] u.w fun e w' => e = .returned (.int .i64 (firstI rh)) ∧ Below u.w.heap.size u.w w' := fun u => first_any ⟨ha, hc, rh, da, dc, rd⟩ u.w (hr'.below u.below)
 have ne : Nonempty (Above w2) := ⟨Above.start w2⟩
 clear hk hr hk' hr' v0 v1 hw2
 obtain ⟨F, hFF⟩ : ∃ F, firstI rh = F := ⟨_, rfl⟩
 rw [hFF] at hF
 have HFF := Shut.mk hFF
 clear hFF
 refine wp_region_above (by kernel_rfl) (by kernel_rfl) ?_
 repeat (go_big_quiet_step ((go_at_call 162; exact Calls.above (hF _))))
 refine wpQuiet_nil ?_
 rintro _ ⟨u, rfl⟩
 have hbu := hb.trans (u.below.mono hb.size)
 clear t0 t1 t2 hF hb
 generalize u.w = w3 at *
 go_wp2
 all_goals
  go_ret
  exact ⟨retB (by rw [HFF.out]), hbu⟩

theorem entersIns1 : ∀ args w, (callFunc 209 args).run Tryz.prog w = .ok (.enter 209 args) w := enters_of Tryz.func209 (by kernel_rfl) rfl

def idxUp (f : Nat) (A : List LRow) : Int := if posL A f < A.length then (posL A f : Nat) else -1

theorem idxUp_at {f : Nat} {A : List LRow} {k : Nat} (hk : k < A.length) (ht : (f : Int) < firstI A[k].1) (hn : ∀ j (hj : j < k), ¬ (f : Int) < firstI (A[j]'(by omega)).1) : idxUp f A = k := by
 have e : posL A f = k := by
  unfold posL
  rw [List.findIdx_eq hk]
  exact ⟨by simpa using ht, fun j hj => by simpa using hn j hj⟩
 rw [idxUp, e, if_pos hk]

theorem idxUp_none {f : Nat} {A : List LRow} (hn : ∀ j (hj : j < A.length), ¬ (f : Int) < firstI A[j].1) : idxUp f A = -1 := by
 rw [idxUp, if_neg]
 intro hl
 have := List.findIdx_getElem (w := hl)
 simp only [decide_eq_true_eq] at this
 exact hn _ hl this

set_option maxHeartbeats 400000 in
theorem indexUp_any (a : Option Addr) (cap : Nat) (l : List MRow) (f gk : Nat) (w : World) (hl : l.length ≤ 25) (ha : Lies w a (rowCells l)) (hall : ∀ r ∈ l, RowIn w r) (hk : w.cell? ⟨gk, 0, none⟩ = some (.int .i64 f)) :
  Calls Tryz.prog 210 #[.slice a l.length cap, .func (.func 209) #[] #[.pointer (some ⟨gk, 0, none⟩)]] w fun e w' => e = .returned (.int .i64 (idxUp f (l.map MRow.says))) ∧ Below w.heap.size w w' := by
 have eg := entersIns1
 go_enter Tryz.func210, Tryz.ntmps210
 go_wp2
 go_loopw [8] (fun i wr => ∃ q : Nat, q ≤ l.length ∧ i = .int .i64 q ∧ Below w.heap.size w wr ∧ Shut (∀ j (hj : j < l.length), j < q → firstI l[j].h ≤ (f : Int))) (fun i _ => l.length - (intOf i).toNat)
 case atStart => exact ⟨0, Nat.zero_le _, rfl, Below.refl _ _, ⟨fun j _ hj => by omega⟩⟩
 case round =>
  obtain ⟨q, hq, rfl, hb, HN⟩ := hrel
  by_cases hlt : q < l.length
  ·obtain ⟨b1, o1, rfl⟩ := ha.some (k := 2 * q) (by rw [rowCells_length]; omega)
   obtain ⟨c0, c1⟩ := row_at (ha.below hb (Nat.le_refl _)) hlt
   have hA := insert1_any l[q] f gk wr ((hall _ (List.getElem_mem hlt)).below hb) (cellC hk hb)
   have HT : Shut ((f : Int) < firstI l[q].h → idxUp f (l.map MRow.says) = q) := ⟨fun h => idxUp_at (by simpa using hlt) (by simpa [MRow.says] using h) fun j hj => by have := HN.out j (by omega) hj; simpa [MRow.says] using this⟩
   have HF : Shut (¬ (f : Int) < firstI l[q].h → ∀ j (hj : j < l.length), j < q + 1 → firstI l[j].h ≤ (f : Int)) := ⟨fun h j hj hjq => by
    by_cases e : j = q
    ·subst e; omega
    ·exact HN.out j hj (by omega)⟩
   generalize l[q]'hlt = R at *
   obtain ⟨rha, rhc, rh, rda, rdc, rd⟩ := R
   simp only [MRow.hv, MRow.dv] at *
   clear ha hall HN
   by_cases hx : (f : Int) < firstI rh
   ·rw [decide_eq_true hx] at hA
    have HX := Shut.mk (HT.out hx)
    clear HF HT hx
    go_wp2_with fail
    refine hA.mono ?_
    rintro e w2 ⟨rfl, hb2⟩
    have hb3 := hb.trans (hb2.mono hb.size)
    clear hA c0 c1 hb2
    go_wp2
    go_ret
    exact ⟨ret_int HX.out.symm, hb3⟩
   ·rw [decide_eq_false hx] at hA
    have HN2 := Shut.mk (HF.out hx)
    clear HF HT hx
    go_wp2_with fail
    refine hA.mono ?_
    rintro e w2 ⟨rfl, hb2⟩
    have hb3 := hb.trans (hb2.mono hb.size)
    clear hA c0 c1 hb2
    go_wp2
    go_roundw
    case rel => exact ⟨q + 1, by omega, by go_num, hb3, HN2⟩
    case measure => simp [intOf]; omega
  ·have HX : Shut (idxUp f (l.map MRow.says) = -1) := ⟨idxUp_none fun j hj => by
    have hj' : j < l.length := by simpa using hj
    have := HN.out j hj' (by omega)
    simpa [MRow.says] using this⟩
   clear HN ha
   go_wp2
   go_ret
   exact ⟨ret_int HX.out.symm, hb⟩

def mixL (p : LRow) (A : List LRow) (q : Nat) : List LRow := (A.take q).map (clrL p) ++ A.drop q

theorem mixL_next {p : LRow} {A : List LRow} {q : Nat} (hq : q < A.length) : mixL p A (q + 1) = (mixL p A q).set q (clrL p A[q]) := by
 unfold mixL
 have l : ((A.take q).map (clrL p)).length = q := by simp; omega
 rw [List.set_append_right _ _ (by omega), l, Nat.sub_self, List.drop_eq_getElem_cons hq, List.set_cons_zero, List.take_succ_eq_append_getElem hq, List.map_append]
 simp only [List.map_cons, List.map_nil, List.append_assoc, List.cons_append, List.nil_append]

theorem mixL_at {p : LRow} {A : List LRow} {q : Nat} (hq : q < A.length) : (mixL p A q)[q]? = some A[q] := by
 unfold mixL
 have l : ((A.take q).map (clrL p)).length = q := by simp; omega
 rw [List.getElem?_append_right (by omega), l, Nat.sub_self, List.getElem?_drop]
 simp [hq]

theorem mixL_set {p : LRow} {A : List LRow} {q : Nat} (hq : q < A.length) (h : clrL p A[q] = A[q]) : mixL p A (q + 1) = mixL p A q := by
 rw [mixL_next hq, h]
 apply List.ext_getElem?
 intro j
 by_cases e : j = q
 ·subst e
  have hl : j < (mixL p A j).length := by
   have := mixL_at (p := p) hq
   exact (List.getElem?_eq_some_iff.1 this).1
  rw [List.getElem?_set_self hl, mixL_at hq]
 ·rw [List.getElem?_set_ne (Ne.symm e)]

def InsInv (W0 wr : World) (g n k m b f : Nat) (r : MRow) (A : List LRow) (H : Nat → Option Obj) (q : Nat) : Prop :=
 ∃ R : List MRow, R.length = m ∧ CopyAt W0 wr g n k R ∧ Good3 wr g n k r ∧ wr.cell? ⟨b, 0, none⟩ = some r.hv ∧ wr.cell? ⟨b, 1, none⟩ = some r.dv ∧ wr.cell? ⟨b + 1, 0, none⟩ = some (.int .i64 f) ∧ R.map MRow.says = mixL r.says A q ∧ b ≤ wr.heap.size ∧ ∀ c, c < b → c ≠ g → wr.heap[c]? = H c

theorem InsInv.below {W0 wr w' : World} {g n k m b f q : Nat} {r : MRow} {A : List LRow} {H : Nat → Option Obj} (h : InsInv W0 wr g n k m b f r A H q) (hb : Below wr.heap.size wr w') : InsInv W0 w' g n k m b f r A H q := by
 obtain ⟨R, h1, h2, h3, h4, h5, h6, h7, h8, h9⟩ := h
 exact ⟨R, h1, h2.below hb, h3.below hb, cellC h4 hb, cellC h5 hb, cellC h6 hb, h7, Nat.le_trans h8 hb.size, fun c hc hne => (hb.block c (by omega)).trans (h9 c hc hne)⟩

theorem InsInv.put {W0 wr : World} {g n k m b f q : Nat} {r t : MRow} {A : List LRow} {H : Nat → Option Obj} (h : InsInv W0 wr g n k m b f r A H q) (hA : A.length = m) (hq : q < A.length) (hbg : g < b) (ht : Own3 wr g n k t) (hs : t.says = clrL r.says A[q]) :
  InsInv W0 ((wr.setCell ⟨g, q * 2, none⟩ t.hv).setCell ⟨g, q * 2 + 1, none⟩ t.dv) g n k m b f r A H (q + 1) := by
 obtain ⟨R, h1, ⟨c1, c2, c3, c4, c5⟩, h3, h4, h5, h6, h7, h8, h9⟩ := h
 refine ⟨R.set q t, by simpa using h1, ⟨(c1.setCell (p := ⟨g, q * 2, none⟩) (by simpa using c2) _).setCell (p := ⟨g, q * 2 + 1, none⟩) (by simpa using c2) _, c2, by simpa using c3, c4.set (by omega) t, ?_⟩, h3.set.set, cell_far2 h4 (by omega), cell_far2 h5 (by omega), cell_far2 h6 (by omega), ?_, by simpa using h8, fun c hc hne => by rw [Below.heap_setCell _ _ _ _ (by simpa using hne), Below.heap_setCell _ _ _ _ (by simpa using hne)]; exact h9 c hc hne⟩
 ·intro x hx
  rcases List.mem_or_eq_of_mem_set hx with hm | rfl
  ·exact (c5 x hm).set.set
  ·exact ht.set.set
 ·rw [List.map_set, h7, mixL_next hq, hs]

theorem InsInv.stay {W0 wr : World} {g n k m b f q : Nat} {r : MRow} {A : List LRow} {H : Nat → Option Obj} (h : InsInv W0 wr g n k m b f r A H q) (hq : q < A.length) (hs : clrL r.says A[q] = A[q]) : InsInv W0 wr g n k m b f r A H (q + 1) := by
 obtain ⟨R, h1, h2, h3, h4, h5, h6, h7, h8⟩ := h
 exact ⟨R, h1, h2, h3, h4, h5, h6, by rw [h7, mixL_set hq hs], h8⟩

set_option maxHeartbeats 2000000 in
theorem insert_any (W0 w : World) (g n k m f : Nat) (R : List MRow) (r : MRow) (hC : CopyAt W0 w g n k R) (hr : Good3 w g n k r) (hf : firstI r.h = f) (hR : R.length = m) (hm : m ≤ 24) (n1 : 1 ≤ n) (n2 : n ≤ 24) (k1 : 1 ≤ k) (k2 : k ≤ 16) :
  Calls Tryz.prog 190 #[.slice (some ⟨g, 0, none⟩) m m, .agg #[r.hv, r.dv], .int .i64 f] w fun e w' =>
   ∃ (g' c' : Nat) (R' : List MRow), e = .returned (.slice (some ⟨g', 0, none⟩) (m + 1) c') ∧ Lies w' (some ⟨g', 0, none⟩) (rowCells R') ∧ (∀ x ∈ R', RowIn w' x ∧ x.h.length ≤ x.hc) ∧ R'.length = m + 1 ∧
    R'.map MRow.says = ((R.map MRow.says).map (clrL r.says)).take (posL ((R.map MRow.says).map (clrL r.says)) f) ++ r.says :: ((R.map MRow.says).map (clrL r.says)).drop (posL ((R.map MRow.says).map (clrL r.says)) f) ∧ Below W0.heap.size W0 w' ∧ w.heap.size ≤ w'.heap.size ∧ (∀ c, c < w.heap.size → c ≠ g → w'.heap[c]? = w.heap[c]?) ∧ w.heap.size ≤ g' := by
 obtain ⟨blk0, blk1⟩ := alloc2 w (.cells #[r.hv, r.dv] 237) (.cells #[.int .i64 f] 3)
 obtain ⟨W1, hW1⟩ : ∃ W1, (w.alloc (.cells #[r.hv, r.dv] 237)).alloc (.cells #[.int .i64 f] 3) = W1 := ⟨_, rfl⟩
 have hB : Below w.heap.size w W1 := by rw [← hW1]; exact ((Below.refl _ _).alloc (Nat.le_refl _) _).alloc (by simp) _
 rw [hW1] at blk0 blk1
 have H0 : Shut (InsInv W0 W1 g n k m w.heap.size f r (R.map MRow.says) (fun c => w.heap[c]?) 0) := ⟨R, hR, hC.below hB, hr.below hB, by simp [World.cell?, blk0], by simp [World.cell?, blk0], by simp [World.cell?, blk1], by simp [mixL], hB.size, fun c hc _ => hB.block c hc⟩
 have hg : g < w.heap.size := hC.2.2.1
 have hfn : f < n := by
  have h1 := firstI_lt r.h
  have h2 := hr.2.1.1
  simp only [MRow.says] at h2
  omega
 obtain ⟨A, hA⟩ : ∃ A, R.map MRow.says = A := ⟨_, rfl⟩
 have hAl : A.length = m := by rw [← hA]; simpa using hR
 rw [hA] at H0 ⊢
 have HFT : Shut (∀ s : LRow, clrL r.says s = if s.1.getD f false = true then LRow.add s r.says else s) := ⟨fun s => by
  unfold clrL
  rw [show firstI r.says.1 = f from hf]
  rfl⟩
 have HF := Shut.mk hf
 have HG := Shut.mk hg
 have HA := Shut.mk hAl
 have HW := Shut.mk hW1
 have HRF := Shut.mk hr.2.1
 clear blk0 blk1 hC hr hf hB hg hW1 hAl hA hR
 obtain ⟨rha, rhc, rh, rda, rdc, rd⟩ := r
 simp only [MRow.hv, MRow.dv] at *
 go_enter Tryz.func190, Tryz.ntmps190
 go_wp2
 rw [HW.out]
 go_loopw [13] (fun v wr => ∃ q : Nat, q ≤ m ∧ v = .int .i64 q ∧ Shut (InsInv W0 wr g n k m w.heap.size f ⟨rha, rhc, rh, rda, rdc, rd⟩ A (fun c => w.heap[c]?) q)) (fun v _ => m - (intOf v).toNat)
 case atStart => exact ⟨0, Nat.zero_le _, rfl, H0⟩
 case round =>
  clear H0
  obtain ⟨q, hq, rfl, HI⟩ := hrel
  by_cases hlt : q < m
  ·obtain ⟨R', h1, h2, h3, h4, h5, h6, h7, _⟩ := HI.out
   have hqA : q < A.length := by rw [HA.out]; exact hlt
   have hqR : q < R'.length := by omega
   obtain ⟨a0, a1⟩ := h2.2.2.2.1.cells hqR
   have hO := h2.2.2.2.2 _ (List.getElem_mem hqR)
   have HS : Shut (R'[q].says = A[q]) := ⟨by
    have e := congrArg (fun x => x[q]?) h7
    simp only [List.getElem?_map, List.getElem?_eq_getElem hqR, Option.map_some, mixL_at hqA, Option.some.injEq] at e
    exact e⟩
   generalize R'[q]'hqR = O at *
   have bd : Below wr.heap.size wr (wr.alloc (.cells #[O.hv, O.dv] 237)) := (Below.refl _ _).alloc (Nat.le_refl _) _
   obtain ⟨v0, v1⟩ := Box2.mk wr O.hv O.dv 237
   have HI2 := Shut.mk (HI.out.below bd)
   have hO2 := hO.below bd
   have hr2 := h3.below bd
   have u4 := cellC h4 bd
   have u5 := cellC h5 bd
   have u6 := cellC h6 bd
   have HgW : Shut (g < wr.heap.size) := ⟨h2.2.2.1⟩
   have hOl : O.h.length = n := hO.1.2.1.1
   have HOl := Shut.mk hOl
   have hO24 : O.h.length ≤ 24 := by omega
   have hfO : f < O.h.length := by omega
   obtain ⟨ob, oo, hoo⟩ := hO2.1.1.1.some (k := f) (by simpa using hfO)
   have c2 : (wr.alloc (.cells #[O.hv, O.dv] 237)).cell? ⟨ob, oo + f, none⟩ = some (.bool O.h[f]) := by
    have h := hO2.1.1.1
    rw [hoo] at h
    exact h.at (by simp [hfO])
   have HGD : Shut (A[q].1.getD f false = O.h[f]) := ⟨by rw [← HS.out]; show O.h.getD f false = _; rw [List.getD_eq_getElem?_getD, List.getElem?_eq_getElem hfO]; rfl⟩
   clear h1 h2 h3 h4 h5 h6 h7 hO HI bd hOl
   obtain ⟨oha, ohc, oh, oda, odc, od⟩ := O
   simp only [MRow.hv, MRow.dv] at *
   subst hoo
   cases hx : oh[f]
   ·rw [hx] at c2 HGD
    have R1 := Shut.mk (HI2.out.stay hqA (by rw [HFT.out, if_neg (by rw [HGD.out]; simp)]))
    clear hx HI2 hO2 hr2 HGD
    go_wp2
    go_roundw
    case rel => exact ⟨q + 1, by omega, by go_num, R1⟩
    case measure => simp [intOf]; omega
   ·rw [hx] at c2 HGD
    have hP := plus_any ⟨some ⟨ob, oo, none⟩, ohc, oh, oda, odc, od⟩ ⟨rha, rhc, rh, rda, rdc, rd⟩ n k _ hO2.1.1 hr2.1 hO2.1.2.1 hr2.2.1 n1 n2 k1 k2
    simp only [MRow.hv, MRow.dv] at hP
    have HFO := Shut.mk hO2.1.2.1
    clear hx hO2 hr2
    go_wp2_with fail
    refine hP.mono ?_
    rintro e w4 ⟨t, rfl, hN, hTs, hb4⟩
    have HI3 := HI2.out.below hb4
    have hOt : Own3 w4 g n k t := hN.own (by rw [hTs]; exact LRow.fits_add HFO.out HRF.out) (by have := HgW.out; simp; omega)
    have R1 := Shut.mk (HI3.put HA.out hqA HG.out hOt (by rw [hTs, HFT.out, if_pos HGD.out, HS.out]))
    obtain ⟨R3, r1, r2, r3, r4, r5, r6, r7, r8⟩ := HI3
    obtain ⟨c0, c1⟩ := r2.2.2.2.1.cells (j := q) (by omega)
    have cf0 := r2.2.2.2.1.2 (q * 2)
    have cf1 := r2.2.2.2.1.2 (q * 2 + 1)
    generalize (R3[q]'(by omega)).hv = y0 at *
    generalize (R3[q]'(by omega)).dv = y1 at *
    clear r1 r2 r3 r4 r5 r6 r7 r8 hP hN hTs hb4 HI2 hOt HGD u4 u5 u6 v0 v1 a0 a1
    obtain ⟨tha, thc, th, tda, tdc, td⟩ := t
    simp only [MRow.hv, MRow.dv] at *
    go_wp2
    go_roundw
    case rel => exact ⟨q + 1, by omega, by go_num, R1⟩
    case measure => simp [intOf]; omega
  ·obtain rfl : q = m := by omega
   obtain ⟨R', h1, h2, h3, h4, h5, h6, h7, h8, h9⟩ := HI.out
   have HKP := Shut.mk (And.intro h8 h9)
   have e7 : R'.map MRow.says = A.map (clrL (MRow.mk rha rhc rh rda rdc rd).says) := by
    rw [h7, mixL, List.take_of_length_le (by rw [HA.out]; exact Nat.le_refl _), List.drop_of_length_le (by rw [HA.out]; exact Nat.le_refl _), List.append_nil]
   have hIx := indexUp_any (some ⟨g, 0, none⟩) q R' f (w.heap.size + 1) wr (by omega) h2.2.2.2.1.1 (fun x hx => (h2.2.2.2.2 x hx).1.1) h6
   rw [h1, e7] at hIx
   have hW := h2.1
   have HE7 := Shut.mk e7
   have HH := Shut.mk (And.intro h1 (And.intro h2 h3))
   obtain ⟨pos, hpos⟩ : ∃ pos, posL (A.map (clrL (MRow.mk rha rhc rh rda rdc rd).says)) f = pos := ⟨_, rfl⟩
   have hpl : pos ≤ q := by rw [← hpos]; have := posL_le (A.map (clrL (MRow.mk rha rhc rh rda rdc rd).says)) f; rw [List.length_map, HA.out] at this; exact this
   have HPOS := Shut.mk hpos
   have HIX : Shut (idxUp f (A.map (clrL (MRow.mk rha rhc rh rda rdc rd).says)) = if pos < q then (pos : Int) else -1) := ⟨by unfold idxUp; rw [hpos, List.length_map, HA.out]⟩
   clear h1 h2 h3 e7 h7 h8 h9 HI hpos hlt hq
   go_wp2_with fail
   refine hIx.mono ?_
   rintro e w2 ⟨rfl, hb2⟩
   have HK2 : Shut (w.heap.size ≤ w2.heap.size ∧ ∀ c, c < w.heap.size → c ≠ g → w2.heap[c]? = w.heap[c]?) := ⟨Nat.le_trans HKP.out.1 hb2.size, fun c hc hne => (hb2.block c (Nat.lt_of_lt_of_le hc HKP.out.1)).trans (HKP.out.2 c hc hne)⟩
   rw [HIX.out]
   have u4 := cellC h4 hb2
   have u5 := cellC h5 hb2
   have hCp := rowCopy_any (MRow.mk rha rhc rh rda rdc rd) n k w2 (HH.out.2.2.below hb2).1 HRF.out n1 n2 k1 k2
   simp only [MRow.hv, MRow.dv] at hCp
   have HH2 : Shut (R'.length = q ∧ CopyAt W0 w2 g n k R') := ⟨HH.out.1, HH.out.2.1.below hb2⟩
   clear hIx HIX HH h4 h5 h6 hb2 hW
   by_cases hp : pos < q
   case' pos => rw [if_pos hp]
   case' neg =>
    rw [if_neg hp]
    have hpq : pos = q := by omega
    clear hp
    subst hpq
   all_goals
    go_wp2_with fail
    refine hCp.mono ?_
    rintro e w3 ⟨t, rfl, hN, hTs, hb3⟩
    have hR3 := HH2.out.2.below hb3
    have HK3 : Shut (w.heap.size ≤ w3.heap.size ∧ ∀ c, c < w.heap.size → c ≠ g → w3.heap[c]? = w.heap[c]?) := ⟨Nat.le_trans HK2.out.1 hb3.size, fun c hc hne => (hb3.block c (Nat.lt_of_lt_of_le hc HK2.out.1)).trans (HK2.out.2 c hc hne)⟩
    have HR3 := Shut.mk hR3
    have bd : Below w3.heap.size w3 (w3.alloc (.cells #[t.hv, t.dv] 237)) := (Below.refl _ _).alloc (Nat.le_refl _) _
    have hS := insertS_any g _ w3.heap.size pos R' t _ HH2.out.1 hm hpl (hR3.2.2.2.1.1.below bd (Nat.le_refl _)) (Lies.alloc_new w3 #[t.hv, t.dv] 237)
    have HT := Shut.mk (And.intro hN (And.intro hTs bd))
    clear hCp hN hTs hb3 bd u4 u5 hR3
    obtain ⟨tha, thc, th, tda, tdc, td⟩ := t
    simp only [MRow.hv, MRow.dv] at *
    go_wp2_with fail
    refine hS.mono ?_
    rintro e w4 ⟨g', c', rfl, hl4, hb4, hg4⟩
    have HG4 := Shut.mk hg4
    have bd4 := HT.out.2.2.trans (hb4.mono HT.out.2.2.size)
    have HL := Shut.mk hl4
    clear hS hl4 hb4 hg4
    go_wp2
    go_ret
    refine ⟨g', c', _, rfl, HL.out, ?_, ?_, ?_, HR3.out.1.trans (bd4.mono HR3.out.1.size), Nat.le_trans HK3.out.1 bd4.size, fun c hc hne => (bd4.block c (Nat.lt_of_lt_of_le hc HK3.out.1)).trans (HK3.out.2 c hc hne), Nat.le_trans HK3.out.1 (Nat.le_trans HT.out.2.2.size HG4.out)⟩
    ·intro x hx
     rcases List.mem_append.1 hx with hx | hx
     ·have := HR3.out.2.2.2.2 x (List.mem_of_mem_take hx)
      exact ⟨this.1.1.below bd4, this.2⟩
     ·rcases List.mem_cons.1 hx with rfl | hx
      ·exact ⟨HT.out.1.1.below bd4, HT.out.1.2.2.2⟩
      ·have := HR3.out.2.2.2.2 x (List.mem_of_mem_drop hx)
       exact ⟨this.1.1.below bd4, this.2⟩
    ·have := HH2.out.1
     simp
     omega
    ·rw [List.map_append, List.map_cons, List.map_take, List.map_drop, HE7.out, HT.out.2.1, HPOS.out]

theorem foldl_push (l : List UInt8) (s : ByteArray) : ((l.map fun x => (x.toNat : Int)).foldl (fun r n => r.push (UInt8.ofNat n.toNat)) s).data.toList = s.data.toList ++ l := by
 induction l generalizing s with
 | nil => simp
 | cons x r ih =>
  simp only [List.map_cons, List.foldl_cons]
  rw [ih]
  simp [ByteArray.push]

theorem conv_bytes {w : World} {a : Option Addr} {n c : Nat} {l : List UInt8} (h : Lies w a (bs l)) (hl : l.length = n) :
  (convert 35 9 (.slice a n c)).run Tryz.prog w = .ok (.string ⟨l.toArray⟩) w := by
 rw [run_convert_bytes_string w 35 9 5 a n c Tryz.underlying35 Tryz.underlying5 Tryz.underlying9]
 cases a with
 | none =>
  have : l = [] := by
   cases l with
   | nil => rfl
   | cons x r => obtain ⟨_, _, e, _⟩ := h 0 _ (by simp [bs]; rfl); simp at e
  subst this
  simp [Conv.bytesToString, Sem.run_pure]
  rfl
 | some ad =>
  have hlc : (loadCells ad n).run Tryz.prog w = .ok ((l.map fun x => (x.toNat : Int)).map (Value.int .u8)).toArray w := by
   have hh := run_loadCells_list (P := Tryz.prog) w ad ((l.map fun x => (x.toNat : Int)).map (Value.int .u8)) (fun j v hj => by
    obtain ⟨b, off, e, hc⟩ := h j v (by simpa [bs] using hj)
    simp at e
    subst e
    simpa [Addr.add_lit] using hc)
   simpa [hl] using hh
  rw [run_bytesToString w ad n c _ hlc]
  congr 2
  have := foldl_push l ByteArray.empty
  simp at this
  cases hh : ((l.map fun x => (x.toNat : Int)).foldl (fun r n => r.push (UInt8.ofNat n.toNat)) ByteArray.empty) with
  | mk d =>
   rw [hh] at this
   simp at this
   subst this
   simp

theorem beq_dec (xs ys : List UInt8) : (xs == ys) = decide (xs = ys) := by
 by_cases h : xs = ys
 ·simp [h]
 ·simp [h]

theorem bytesEqual_any (a b : Option Addr) (ca cb : Nat) (xs ys : List UInt8) (w : World) (ha : Lies w a (bs xs)) (hb : Lies w b (bs ys)) :
  Calls Tryz.prog 45 #[.slice a xs.length ca, .slice b ys.length cb] w fun e w' => e = .returned (.bool (decide (xs = ys))) ∧ w = w' := by
 have h1 := conv_bytes (c := ca) ha rfl
 have h2 := conv_bytes (c := cb) hb rfl
 clear ha hb
 go_enter Tryz.func45, Tryz.ntmps45
 go_wp2
 go_ret
 exact ⟨ret_bool (beq_dec xs ys), rfl⟩

theorem same_any (a b : Option Addr) (n m ca cb : Nat) (xs ys : List UInt8) (w : World) (hn : xs.length = n) (hm : ys.length = m) (ha : Lies w a (bs xs)) (hb : Lies w b (bs ys)) :
  Calls Tryz.prog 120 #[.slice a n ca, .slice b m cb] w fun e w' => e = .returned (.bool (decide (xs = ys))) ∧ w = w' := by
 subst hn hm
 go_enter Tryz.func120, Tryz.ntmps120
 go_wp2_with fail
 refine (bytesEqual_any _ _ _ _ xs ys _ ha hb).mono ?_
 rintro e w' ⟨rfl, rfl⟩
 go_wp2
 go_ret
 exact ⟨rfl, rfl⟩

theorem empty_in (w : World) (B K : Int) : SysIn w ⟨B, K, none, 0, []⟩ := ⟨Lies.nil _ _, (fun r hr => by cases hr), Nat.zero_le _⟩

theorem new_any (B K : Int) (w : World) (v : Value) (hv : v = if chkSys B K [] = 0 then .agg #[.int .i64 B, .int .i64 K, .slice none 0 0] else .agg #[.int .i64 0, .int .i64 0, .slice none 0 0]) :
  Calls Tryz.prog 133 #[.int .i64 B, .int .i64 K] w fun e w' => e = .returned (.tuple #[v, .int .i64 (chkSys B K [])]) ∧ Below w.heap.size w w' := by
 have HV := Shut.mk hv
 clear hv
 obtain ⟨W, hW⟩ : ∃ W, (w.alloc (.cells #[.int .i64 0, .int .i64 0, .slice none 0 0] 203)).alloc (.cells #[.int .i64 B, .int .i64 K, .slice none 0 0] 203) = W := ⟨_, rfl⟩
 have hB : Below w.heap.size w W := by rw [← hW]; exact ((Below.refl _ _).alloc (Nat.le_refl _) _).alloc (by simp) _
 obtain ⟨blk0, blk1⟩ := alloc2 w (.cells #[.int .i64 0, .int .i64 0, .slice none 0 0] 203) (.cells #[.int .i64 B, .int .i64 K, .slice none 0 0] 203)
 rw [hW] at blk0 blk1
 have hsz : W.heap.size = w.heap.size + 2 := by rw [← hW]; simp
 have x0 : W.cell? ⟨w.heap.size, 0, none⟩ = some (.int .i64 0) := by simp [World.cell?, blk0]
 have x1 : W.cell? ⟨w.heap.size, 1, none⟩ = some (.int .i64 0) := by simp [World.cell?, blk0]
 have x2 : W.cell? ⟨w.heap.size, 2, none⟩ = some (.slice none 0 0) := by simp [World.cell?, blk0]
 have xf : ∀ j, W.frozen? ⟨w.heap.size, j, none⟩ = false := fun j => by simp [World.frozen?, blk0]
 have y0 : W.cell? ⟨w.heap.size + 1, 0, none⟩ = some (.int .i64 B) := by simp [World.cell?, blk1]
 have y1 : W.cell? ⟨w.heap.size + 1, 1, none⟩ = some (.int .i64 K) := by simp [World.cell?, blk1]
 have y2 : W.cell? ⟨w.heap.size + 1, 2, none⟩ = some (.slice none 0 0) := by simp [World.cell?, blk1]
 have hC := checkS_any ⟨B, K, none, 0, []⟩ W (empty_in W B K)
 simp only [List.map_nil, List.length_nil] at hC
 have HW := Shut.mk hW
 have HSZ := Shut.mk hsz
 clear blk0 blk1 hW hsz
 go_enter Tryz.func133, Tryz.ntmps133
 go_wp2_with fail
 rw [HW.out]
 have hsz := HSZ.out
 refine hC.mono ?_
 rintro e w1 ⟨rfl, hb⟩
 replace x0 := cellC x0 hb
 replace x1 := cellC x1 hb
 replace x2 := cellC x2 hb
 replace y0 := cellC y0 hb
 replace y1 := cellC y1 hb
 replace y2 := cellC y2 hb
 have f0 := ((bcell hb).2 w.heap.size 0 (by omega)).trans (xf 0)
 have f1 := ((bcell hb).2 w.heap.size 1 (by omega)).trans (xf 1)
 have f2 := ((bcell hb).2 w.heap.size 2 (by omega)).trans (xf 2)
 replace hb := hB.trans (hb.mono hB.size)
 obtain ⟨q, hq⟩ : ∃ q, chkSys B K [] = q := ⟨_, rfl⟩
 have HQ := Shut.mk hq
 rw [hq]
 clear hC xf hB HW HSZ hsz hq
 by_cases h0 : q = 0
 ·subst h0
  go_wp2
  obtain ⟨z0, z1, z2⟩ := set3 x0 x1 x2 (.int .i64 B) (.int .i64 K) (.slice none 0 0)
  have hbF := ((hb.setCell (p := ⟨w.heap.size, 0, none⟩) (by simp) (.int .i64 B)).setCell (p := ⟨w.heap.size, 1, none⟩) (by simp) (.int .i64 K)).setCell (p := ⟨w.heap.size, 2, none⟩) (by simp) (.slice none 0 0)
  generalize ((w1.setCell ⟨w.heap.size, 0, none⟩ (.int .i64 B)).setCell ⟨w.heap.size, 1, none⟩ (.int .i64 K)).setCell ⟨w.heap.size, 2, none⟩ (.slice none 0 0) = w9 at *
  refine bodyPost_ret (v := .tuple #[.agg #[.int .i64 B, .int .i64 K, .slice none 0 0], .int .i64 0]) (by simp [results, Tryz.results133, go_sem, z0, z1, z2]) rfl ?_
  exact ⟨by rw [HV.out, if_pos HQ.out, HQ.out], hbF⟩
 ·have h1 : (q != 0) = true := by simpa using h0
  have H0 := Shut.mk h0
  clear h0
  go_wp2
  obtain ⟨z0, z1, z2⟩ := set3 x0 x1 x2 (.int .i64 0) (.int .i64 0) (.slice none 0 0)
  have hbF := ((hb.setCell (p := ⟨w.heap.size, 0, none⟩) (by simp) (.int .i64 0)).setCell (p := ⟨w.heap.size, 1, none⟩) (by simp) (.int .i64 0)).setCell (p := ⟨w.heap.size, 2, none⟩) (by simp) (.slice none 0 0)
  generalize ((w1.setCell ⟨w.heap.size, 0, none⟩ (.int .i64 0)).setCell ⟨w.heap.size, 1, none⟩ (.int .i64 0)).setCell ⟨w.heap.size, 2, none⟩ (.slice none 0 0) = w9 at *
  refine bodyPost_ret (v := .tuple #[.agg #[.int .i64 0, .int .i64 0, .slice none 0 0], .int .i64 q]) (by simp [results, Tryz.results133, go_sem, z0, z1, z2]) rfl ?_
  exact ⟨by rw [HV.out, if_neg (by rw [HQ.out]; exact H0.out), HQ.out], hbF⟩

theorem cell_blk {w : World} {b : Nat} {c : Array Value} {t : TypeId} {f : Nat × Nat} (h : w.heap[b]? = some (.cells c t f)) (j : Nat) : w.cell? ⟨b, j, none⟩ = c[j]? := by simp only [World.cell?, h]; simp

theorem frozen_blk {w : World} {b : Nat} {c : Array Value} {t : TypeId} (h : w.heap[b]? = some (.cells c t (0, 0))) (j : Nat) : w.frozen? ⟨b, j, none⟩ = false := by simp only [World.frozen?, h]; simp

theorem blk_lt {w : World} {b : Nat} {x : Obj} (h : w.heap[b]? = some x) : b < w.heap.size := (Array.getElem?_eq_some_iff.1 h).1

theorem blk_below {w w' : World} {b : Nat} {x : Obj} (h : w.heap[b]? = some x) (hb : Below w.heap.size w w') : w'.heap[b]? = some x := (hb.block b (blk_lt h)).trans h

def AddAnsC (w w' : World) (n k : Nat) (A : List LRow) (r : LRow) (e : Ending) : Prop :=
  Below w.heap.size w w' ∧
  ((addL A r = none ∧ e = .returned (.tuple #[.agg #[.int .i64 0, .int .i64 0, .slice none 0 0], .bool false, .int .i64 9])) ∨
   ∃ (P : List LRow) (a : Option Addr) (c : Nat) (rows : List MRow), addL A r = some P ∧ e = .returned (.tuple #[.agg #[.int .i64 n, .int .i64 k, .slice a rows.length c], .bool (decide (P.length = A.length + 1)), .int .i64 0]) ∧
     Lies w' a (rowCells rows) ∧ (∀ x ∈ rows, RowIn w' x ∧ x.h.length ≤ x.hc) ∧ rows.map MRow.says = P ∧ ∀ b o, a = some ⟨b, o, none⟩ → w.heap.size ≤ b)

def AddInv (w wr : World) (n k m g tb : Nat) (sv : Array Value) (R : List MRow) (p : LRow) : Prop :=
  CopyAt w wr g n k R ∧ (∃ r' : MRow, r'.says = p ∧ Good3 wr g n k r' ∧ wr.heap[w.heap.size + 1]? = some (.cells #[r'.hv, r'.dv] 237 (0, 0))) ∧ wr.heap[w.heap.size]? = some (.cells sv 203 (0, 0)) ∧
  wr.heap[w.heap.size + 2]? = some (.cells #[.int .i64 0, .int .i64 0, .slice none 0 0] 203 (0, 0)) ∧ wr.heap[tb]? = some (.cells #[.int .i64 n, .int .i64 k, .slice (some ⟨g, 0, none⟩) m m] 203 (0, 0)) ∧ w.heap.size + 2 < g ∧ g < tb

theorem AddInv.below {w wr w' : World} {n k m g tb : Nat} {sv : Array Value} {R : List MRow} {p : LRow} (h : AddInv w wr n k m g tb sv R p) (hb : Below wr.heap.size wr w') : AddInv w w' n k m g tb sv R p := by
  obtain ⟨h1, ⟨r', h2, h3, h4⟩, h5, h6, h7, h8⟩ := h
  exact ⟨h1.below hb, ⟨r', h2, h3.below hb, blk_below h4 hb⟩, blk_below h5 hb, blk_below h6 hb, blk_below h7 hb, h8⟩

theorem AddInv.put {w wr : World} {n k m g tb : Nat} {sv : Array Value} {R : List MRow} {p : LRow} {t : MRow} (h : AddInv w wr n k m g tb sv R p) (n1 : 1 ≤ n) (k1 : 1 ≤ k) (ht : Own3 wr g n k t) :
    AddInv w ((wr.setCell ⟨w.heap.size + 1, 0, none⟩ t.hv).setCell ⟨w.heap.size + 1, 1, none⟩ t.dv) n k m g tb sv R t.says := by
  obtain ⟨h1, ⟨r', h2, h3, h4⟩, h5, h6, h7, h8, h9⟩ := h
  have gr := grown_trans (grown_setCell wr (w.heap.size + 1) 0 t.hv) (grown_setCell _ (w.heap.size + 1) 1 t.dv)
  have hB : Below w.heap.size w ((wr.setCell ⟨w.heap.size + 1, 0, none⟩ t.hv).setCell ⟨w.heap.size + 1, 1, none⟩ t.dv) := (h1.1.setCell (p := ⟨w.heap.size + 1, 0, none⟩) (by simp) _).setCell (p := ⟨w.heap.size + 1, 1, none⟩) (by simp) _
  refine ⟨h1.far n1 k1 h4 (boxy2 _ _ _ _ _ _) (by omega) gr hB, ⟨t, rfl, ⟨?_, ht.1.2⟩, ?_⟩, block_set (block_set h5 (by omega)) (by omega), block_set (block_set h6 (by omega)) (by omega), block_set (block_set h7 (by omega)) (by omega), h8, h9⟩
  · have hf := ht.1.2.1
    exact ht.1.1.far (by have := hf.1; simp only [MRow.says] at this; omega) (by have := hf.2; simp only [MRow.says] at this; omega) h4 (boxy2 _ _ _ _ _ _) gr
  · have e := heap_set (o := 1) (v := t.dv) (heap_set (o := 0) (v := t.hv) h4)
    rw [e]
    simp

end Go.Proofs.YtakkajjoeimkdaaGreatDoor
