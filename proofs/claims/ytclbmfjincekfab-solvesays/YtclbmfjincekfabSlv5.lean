/-
  solve.plus, solve.systemCopy: the contract of each.
-/
import Derived.Test.YtclbmfjincekfabSlv3
import Derived.RegionTactic
namespace Go.Proofs.Ytclbmfjincekfab
open Go.RowKit
set_option linter.unusedVariables false
set_option linter.unusedSimpArgs false

/-- sum.Add of two blocks that stand in a list -/
theorem add_pair (w : World) (p : Option Addr) (cp : Nat) (a : Option Addr) (ca : Nat) (b : Option Addr) (cb : Nat) (x y : List UInt8) (k : Nat) (k1 : 1 ≤ k) (hk : k ≤ 16) (hx : x.length = k) (hy : y.length = k) (hp : Lies w p [.slice a k ca, .slice b k cb]) (ha : Lies w a (bs x)) (hb : Lies w b (bs y)) :
    Calls Try.prog 37 #[.slice p 2 cp] w fun e w' => ∃ (p' : Option Addr) (q : Nat), e = .returned (.tuple #[.slice p' k q, .int .i64 0]) ∧ Lies w' p' (bs (xorl x y)) ∧ Below w.heap.size w w' ∧ ∀ c o, p' = some ⟨c, o, none⟩ → w.heap.size ≤ c := by
  have hl : Lies w p ([⟨a, ca, x⟩, ⟨b, cb, y⟩].map Blk.val) := by
    have e : ([⟨a, ca, x⟩, ⟨b, cb, y⟩].map Blk.val) = [.slice a k ca, .slice b k cb] := by simp [Blk.val, hx, hy]
    rw [e]
    exact hp
  have hall : AllIn w [⟨a, ca, x⟩, ⟨b, cb, y⟩] := by
    intro z hz
    simp at hz
    rcases hz with rfl | rfl
    · exact ⟨ha, by unfold maxLen; simp [hx]; omega⟩
    · exact ⟨hb, by unfold maxLen; simp [hy]; omega⟩
  have hc : addCode [⟨a, ca, x⟩, ⟨b, cb, y⟩] = 0 := by
    simp [addCode, lens, chk, chkFrom, hx, hy]
    omega
  have hs : sumBl [⟨a, ca, x⟩, ⟨b, cb, y⟩] = xorl x y := by
    simp only [sumBl, sumOf, List.map_cons, List.map_nil, List.headD_cons, sumTo]
    congr 1
    apply List.ext_getElem
    · rw [xorl_length _ _ (by simp [zeros])]; simp [zeros]
    · intro t h1 h2
      simp [xorl, zeros]
  have hsl : (xorl x y).length = k := by rw [xorl_length _ _ (by rw [hx, hy]), hx]
  have h := add_good p cp [⟨a, ca, x⟩, ⟨b, cb, y⟩] w (by unfold maxLen; simp) hl hall hc
  rw [hs, hsl] at h
  refine h.mono ?_
  rintro e w' ⟨rfl, hrow, hb'⟩
  exact ⟨_, _, rfl, row_lies hrow hsl, hb', fun b o e => by cases e; exact Nat.le_refl _⟩

theorem alloc3' (w : World) (o0 o1 o2 : Obj) : (((w.alloc o0).alloc o1).alloc o2).heap[w.heap.size]? = some o0 ∧ (((w.alloc o0).alloc o1).alloc o2).heap[w.heap.size + 1]? = some o1 ∧ (((w.alloc o0).alloc o1).alloc o2).heap[w.heap.size + 2]? = some o2 := by
  simp only [heap_alloc_eq, size_alloc_eq]
  refine ⟨?_, ?_, ?_⟩
  · rw [if_neg (by omega), if_neg (by omega), if_pos (by first | omega | trivial)]
  · rw [if_neg (by omega), if_pos (by first | omega | trivial)]
  · rw [if_pos (by first | omega | trivial)]

/-- the sum's bools in the making -/
def hasAt (x y : List Bool) (q : Nat) (j : Nat) : Value := .bool (if j < q then (xorH x y).getD j false else false)

theorem hasAt_next {x y : List Bool} {q : Nat} (hq : q < x.length) (hy : y.length = x.length) (j : Nat) : hasAt x y (q + 1) j = if j = q then .bool (x[q] != y[q]'(by omega)) else hasAt x y q j := by
  by_cases e : j = q
  · subst e
    rw [if_pos rfl, hasAt, if_pos (by omega)]
    congr 1
    rw [List.getD_eq_getElem?_getD, List.getElem?_eq_getElem (by rw [xorH_length hy]; exact hq)]
    simp [xorH]
  · rw [if_neg e]
    unfold hasAt
    by_cases h : j < q
    · rw [if_pos h, if_pos (by omega)]
    · rw [if_neg h, if_neg (by omega)]

/-- the sum in the making; g: its bools -/
def PlusInv (W0 wr : World) (g n : Nat) (x y : List Bool) (q : Nat) : Prop := Below W0.heap.size W0 wr ∧ g = W0.heap.size ∧ g < wr.heap.size ∧ wr.rowIs g 4 n (hasAt x y q)

theorem PlusInv.next {W0 wr : World} {g n q : Nat} {x y : List Bool} (h : PlusInv W0 wr g n x y q) (hq : q < x.length) (hy : y.length = x.length) : PlusInv W0 (wr.setCell ⟨g, q, none⟩ (.bool (x[q] != y[q]'(by omega)))).drew g n x y (q + 1) := by
  obtain ⟨h1, h2, h3, h4⟩ := h
  refine ⟨(h1.setCell (p := ⟨g, q, none⟩) (by simp; omega) _).drew, h2, by simpa using h3, World.rowIs.drew ?_⟩
  refine (h4.set q _).congr fun j hj => ?_
  rw [hasAt_next hq hy]

set_option maxHeartbeats 2000000 in
theorem plus_any (r s : MRow) (n k : Nat) (w : World) (hr : RowIn w r) (hs : RowIn w s) (hf : Fits n k r.says) (hg : Fits n k s.says) (n1 : 1 ≤ n) (n2 : n ≤ 24) (k1 : 1 ≤ k) (k2 : k ≤ 16) :
    Calls Try.prog 21 #[.agg #[r.hv, r.dv], .agg #[s.hv, s.dv]] w fun e w' => ∃ t : MRow, e = .returned (.agg #[t.hv, t.dv]) ∧ NewRow w.heap.size w' t ∧ t.says = LRow.add r.says s.says ∧ Below w.heap.size w w' := by
  obtain ⟨ha, hc, rh, da, dc, rd⟩ := r
  obtain ⟨ha', hc', sh, da', dc', sd⟩ := s
  obtain ⟨f1, f2⟩ := hf
  obtain ⟨f3, f4⟩ := hg
  simp only [MRow.hv, MRow.dv, MRow.says] at *
  rw [f1, f2, f3, f4]
  obtain ⟨blk0, blk1, blk2⟩ := alloc3' w (.cells #[.slice ha n hc, .slice da k dc] 29) (.cells #[.slice ha' n hc', .slice da' k dc'] 29) (.cells #[.slice none 0 0, .slice none 0 0] 29)
  obtain ⟨W0, hW0⟩ : ∃ W0, ((w.alloc (.cells #[.slice ha n hc, .slice da k dc] 29)).alloc (.cells #[.slice ha' n hc', .slice da' k dc'] 29)).alloc (.cells #[.slice none 0 0, .slice none 0 0] 29) = W0 := ⟨_, rfl⟩
  have hB : Below w.heap.size w W0 := by
    rw [← hW0]
    exact (((Below.refl _ _).alloc (Nat.le_refl _) _).alloc (by simp) _).alloc (by simp; omega) _
  have hsz : W0.heap.size = w.heap.size + 3 := by rw [← hW0]; simp
  rw [hW0] at blk0 blk1 blk2
  have a0 : W0.cell? ⟨w.heap.size, 0, none⟩ = some (.slice ha n hc) := by simp [World.cell?, blk0]
  have a1 : W0.cell? ⟨w.heap.size, 1, none⟩ = some (.slice da k dc) := by simp [World.cell?, blk0]
  have b0 : W0.cell? ⟨w.heap.size + 1, 0, none⟩ = some (.slice ha' n hc') := by simp [World.cell?, blk1]
  have b1 : W0.cell? ⟨w.heap.size + 1, 1, none⟩ = some (.slice da' k dc') := by simp [World.cell?, blk1]
  have r0 : W0.cell? ⟨w.heap.size + 2, 0, none⟩ = some (.slice none 0 0) := by simp [World.cell?, blk2]
  have r1 : W0.cell? ⟨w.heap.size + 2, 1, none⟩ = some (.slice none 0 0) := by simp [World.cell?, blk2]
  have rf : ∀ j, W0.frozen? ⟨w.heap.size + 2, j, none⟩ = false := fun j => by simp [World.frozen?, blk2]
  have hla := hr.1.below hB (Nat.le_refl _)
  have hlb := hs.1.below hB (Nat.le_refl _)
  have hda := hr.2.1.below hB (Nat.le_refl _)
  have hdb := hs.2.1.below hB (Nat.le_refl _)
  simp only at hla hlb hda hdb
  have hmk := run_make_row' (P := Try.prog) 25 4 (.bool false) 1 Try.underlying25 infoBool rfl .i64 .i64 n (by omega) (by omega)
  have H0 : Shut (PlusInv W0 (W0.alloc (.cells (madeCells #[Value.bool false] n) 4)) W0.heap.size n rh sh 0) := ⟨(Below.refl _ _).alloc (Nat.le_refl _) _, rfl, by simp, (World.rowIs_made W0 _ n _).congr fun j hj => by simp [hasAt]⟩
  have HF1 := Shut.mk f1
  have HF2 := Shut.mk f2
  have HF3 := Shut.mk f3
  have HF4 := Shut.mk f4
  have HSZ := Shut.mk hsz
  have HW := Shut.mk hW0
  have HX := Shut.mk (And.intro a0 (And.intro a1 (And.intro b0 (And.intro b1 (And.intro r0 (And.intro r1 rf))))))
  rw [← hW0] at a0
  clear blk0 blk1 blk2 a1 b0 b1 r0 r1 rf f1 f2 f3 f4 hsz hW0 hr hs
  go_enter Try.func21, Try.ntmps21
  go_wp2
  rw [HW.out]
  clear a0 hmk
  obtain ⟨g3, e3⟩ : ∃ g3, W0.heap.size = g3 := ⟨_, rfl⟩
  rw [HSZ.out] at e3
  have HG3 := Shut.mk e3
  rw [HSZ.out] at H0
  simp only [e3] at H0
  simp only [e3]
  clear e3
  generalize W0.alloc (.cells (madeCells #[Value.bool false] n) 4) = W1 at *
  go_loopw [15] (fun m wr => ∃ q : Nat, q ≤ n ∧ m = .int .i64 q ∧ Shut (PlusInv W0 wr g3 n rh sh q)) (fun m _ => n - (intOf m).toNat)
  case atStart => exact ⟨0, Nat.zero_le _, rfl, H0⟩
  case round =>
    clear H0
    obtain ⟨q, hq, rfl, HI⟩ := hrel
    obtain ⟨i1, i2, i3, i4⟩ := HI.out
    by_cases hlt : q < n
    · have hq1 : q < rh.length := by rw [HF1.out]; exact hlt
      have hq2 : q < sh.length := by rw [HF3.out]; exact hlt
      obtain ⟨ab, ao, rfl⟩ := hla.some (k := q) (by simpa using hq1)
      obtain ⟨bb, bo, rfl⟩ := hlb.some (k := q) (by simpa using hq2)
      have c1 : wr.cell? ⟨ab, ao + q, none⟩ = some (.bool rh[q]) := (hla.below i1 (Nat.le_refl _)).at (by simp [hq1])
      have c2 : wr.cell? ⟨bb, bo + q, none⟩ = some (.bool sh[q]) := (hlb.below i1 (Nat.le_refl _)).at (by simp [hq2])
      have c3 := cellC HX.out.1 i1
      have c4 := cellC HX.out.2.2.1 i1
      have c5 := i4.cell hlt
      have c6 := i4.frozen q
      have d1 : ¬ g3 = ab := by have := World.block_lt_of_cell? W0 _ (hla.at (k := q) (u := .bool rh[q]) (by simp [hq1])); simp at this; omega
      have d2 : ¬ g3 = bb := by have := World.block_lt_of_cell? W0 _ (hlb.at (k := q) (u := .bool sh[q]) (by simp [hq2])); simp at this; omega
      have d3 : ¬ g3 = w.heap.size := by have := HG3.out; omega
      have d4 : ¬ g3 = w.heap.size + 1 := by have := HG3.out; omega
      have R1 := Shut.mk (HI.out.next hq1 (by rw [HF1.out, HF3.out]))
      generalize rh[q]'hq1 = X at *
      generalize sh[q]'hq2 = Y at *
      clear i1 i2 i3 i4 hla hlb HI hq1 hq2
      go_wp2
      go_region
      all_goals
        clear c1 c2 c3 c4 c5 c6
        go_wp2
        go_roundw
        case rel => exact ⟨q + 1, by omega, by go_num, R1⟩
        case measure => simp [intOf]; omega
    · obtain rfl : q = n := by omega
      have hxl : (xorH rh sh).length = q := by rw [xorH_length (by rw [HF1.out, HF3.out]), HF1.out]
      have hlv : Lies wr (some ⟨g3, 0, none⟩) ((xorH rh sh).map Value.bool) := row_lies' i4 _ (by simp [hxl]) fun i hi => by
        have hi' : i < q := by simpa [hxl] using hi
        unfold hasAt
        rw [if_pos hi', List.getElem_map, List.getD_eq_getElem?_getD, List.getElem?_eq_getElem (by omega)]
        rfl
      have HXL := Shut.mk hxl
      have x1 := cellC HX.out.2.1 i1
      have x2 := cellC HX.out.2.2.2.1 i1
      have x3 := cellC HX.out.2.2.2.2.1 i1
      have x4 := cellC HX.out.2.2.2.2.2.1 i1
      have xf : ∀ j, wr.frozen? ⟨w.heap.size + 2, j, none⟩ = false := fun j => by rw [(bcell i1).2 (w.heap.size + 2) j (by rw [HSZ.out]; omega)]; exact HX.out.2.2.2.2.2.2 j
      have bw : Below w.heap.size w wr := hB.trans (i1.mono hB.size)
      have hlp : Lies (wr.alloc (.cells #[.slice da k dc, .slice da' k dc'] 27)) (some ⟨wr.heap.size, 0, none⟩) [.slice da k dc, .slice da' k dc'] := Lies.alloc_new wr #[.slice da k dc, .slice da' k dc'] 27
      have hS := add_pair _ _ 2 da dc da' dc' rd sd k k1 k2 HF2.out HF4.out hlp ((hda.below i1 (Nat.le_refl _)).alloc _) ((hdb.below i1 (Nat.le_refl _)).alloc _)
      have bd : Below wr.heap.size wr (wr.alloc (.cells #[.slice da k dc, .slice da' k dc'] 27)) := (Below.refl _ _).alloc (Nat.le_refl _) _
      have i3' := i3
      have hg3 : w.heap.size + 2 < wr.heap.size := by have := HG3.out; omega
      clear i1 i2 i4 hla hlb hda hdb hlp hxl HI
      go_wp2_with fail
      refine hS.mono ?_
      rintro e w4 ⟨p4, q4, rfl, hl4, hb4, hn4⟩
      have b4 := bd.trans (hb4.mono bd.size)
      have z0 := cellC x3 b4
      have z1 := cellC x4 b4
      have zf0 := ((bcell b4).2 (w.heap.size + 2) 0 hg3).trans (xf 0)
      have zf1 := ((bcell b4).2 (w.heap.size + 2) 1 hg3).trans (xf 1)
      have bw4 := bw.trans (b4.mono bw.size)
      have hlv4 := hlv.below b4 (Nat.le_refl _)
      have hs4 := b4.size
      have hs5 := bd.size
      clear hS bd hb4 x1 x2 x3 x4 xf hlv b4
      go_wp2
      obtain ⟨u0, u1⟩ := set2' z0 z1 (.slice (some ⟨g3, 0, none⟩) q q) (.slice p4 k q4)
      have gr := grown_trans (grown_setCell w4 (w.heap.size + 2) 0 (.slice (some ⟨g3, 0, none⟩) q q)) (grown_setCell _ (w.heap.size + 2) 1 (.slice p4 k q4))
      have L1 := lies_grown gr hlv4 fun b o e => by cases e; have := HG3.out; omega
      have L2 := lies_grown gr hl4 fun b o e => by have := hn4 b o e; omega
      have hbF := (bw4.setCell (p := ⟨w.heap.size + 2, 0, none⟩) (by simp) (.slice (some ⟨g3, 0, none⟩) q q)).setCell (p := ⟨w.heap.size + 2, 1, none⟩) (by simp) (.slice p4 k q4)
      generalize (w4.setCell ⟨w.heap.size + 2, 0, none⟩ (.slice (some ⟨g3, 0, none⟩) q q)).setCell ⟨w.heap.size + 2, 1, none⟩ (.slice p4 k q4) = w9 at *
      refine bodyPost_ret (v := .agg #[.slice (some ⟨g3, 0, none⟩) q q, .slice p4 k q4]) (by simp [results, Try.results21, go_sem, u0, u1]) rfl ?_
      have l2 : (xorl rd sd).length = k := by rw [xorl_length _ _ (by rw [HF2.out, HF4.out]), HF2.out]
      refine ⟨⟨some ⟨g3, 0, none⟩, q, xorH rh sh, p4, q4, xorl rd sd⟩, ?_, ⟨⟨L1, L2, ?_, ?_⟩, ?_, ?_, ?_⟩, rfl, hbF⟩
      · simp only [HXL.out, l2]
      · simp only [HXL.out]; unfold maxLen; omega
      · simp only [l2]; unfold maxLen; omega
      · intro b o e; cases e; have := HG3.out; omega
      · intro b o e; have := hn4 b o e; omega
      · simp only [HXL.out]; exact Nat.le_refl _

end Go.Proofs.Ytclbmfjincekfab
