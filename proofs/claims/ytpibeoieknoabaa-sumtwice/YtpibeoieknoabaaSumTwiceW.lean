/-
  SumTwice: the walk.
-/
import Derived.Test.YtpibeoieknoabaaSumSaysW
import Derived.Test.YtpibeoieknoabaaTwicePure
import Derived.Test.YtpibeoieknoabaaRev
namespace Go.Proofs.Ytpibeoieknoabaa
open Go.RowKit
set_option linter.unusedVariables false
set_option linter.unusedSimpArgs false

theorem add_right {n m : Nat} (a : Option Addr) (cap : Nat) (bl : List Blk) (w : World) (hm : bl.length = m) (hn : m ≤ maxLen) (ha : Lies w a (bl.map Blk.val)) (hall : AllIn w bl) (hr : Right n bl) :
    Calls Try.prog 7 #[.slice a m cap] w fun e w' => ∃ a' c', e = .returned (.tuple #[.slice a' n c', .int .i64 0]) ∧ Lies w' a' (bs (sumBl bl)) ∧ Below w.heap.size w w' := by
  subst hm
  refine (add_any a cap bl w hn ha hall).mono ?_
  have e1 : addCode bl = 0 := right_code hr
  have e2 : resL bl = sumBl bl := if_pos e1
  rw [e1, e2, right_len hr]
  exact fun _ _ h => h

theorem right_lt {n : Nat} {bl : List Blk} (h : Right n bl) : n ≤ maxLen := by have := h.2.2.1; unfold maxLen; omega

set_option maxHeartbeats 400000 in
theorem sumTwice_bad (a0 : Option Addr) (c0 : Nat) (bl : List Blk) (k : Int) (w : World) (hn : bl.length * 24 ≤ 140737488355328) (h0 : Lies w a0 (bl.map Blk.val)) (hall : AllIn w bl) (hbad : addCode bl ≠ 0) :
    Calls Try.prog 5 #[.slice a0 bl.length c0, .int .i64 k] w fun e w' => e = .returned (.bool true) ∧ Below w.heap.size w w' := by
  have HM : Hid (bl.length ≤ maxLen) := by show bl.length ≤ maxLen; unfold maxLen; omega
  have hc : (addCode bl != 0) = true := by simp [hbad]
  clear hbad
  go_enter Try.func5, Try.ntmps5
  go_wp2_with fail
  refine (blocks_any _ _ bl _ hn h0).mono ?_
  rintro e w1 ⟨v1, rfl, ho1, hb1⟩
  obtain ⟨p1, q1, rfl, hl1, -⟩ := own_lies ho1
  clear ho1
  go_wp2_with fail
  refine (add_any _ _ bl _ HM.out hl1 (hall.below hb1)).mono ?_
  rintro e w2 ⟨p2, q2, rfl, hl2, hb2⟩
  have hbb : Below w.heap.size w w2 := hb1.trans (hb2.mono hb1.size)
  clear hl1 hb1 hb2
  go_wp2_with fail
  refine (added_any _).mono ?_
  rintro e w6 ⟨rfl, hb6⟩
  have hbb : Below w.heap.size w w6 := hbb.trans (hb6.mono hbb.size)
  clear hb6
  go_wp2_with fail
  refine (added_any _).mono ?_
  rintro e w7 ⟨rfl, hb7⟩
  have hbb : Below w.heap.size w w7 := hbb.trans (hb7.mono hbb.size)
  clear hb7
  go_wp2
  go_ret
  exact ⟨rfl, hbb⟩

theorem vals3 {n : Nat} {s x : Blk} (hs : s.l.length = n) (hx : x.l.length = n) : [s, x, x].map Blk.val = [.slice s.a n s.cap, .slice x.a n x.cap, .slice x.a n x.cap] := by simp [Blk.val, hs, hx]
theorem vals2 {n : Nat} {s x : Blk} (hs : s.l.length = n) (hx : x.l.length = n) : [s, x].map Blk.val = [.slice s.a n s.cap, .slice x.a n x.cap] := by simp [Blk.val, hs, hx]

theorem rev_lies {w : World} {g cap : Nat} {e : TypeId} {f : Nat → Value} {bl : List Blk} (h : w.rowIs g e cap (fun i => if i < bl.length then f (bl.length - 1 - i) else f i)) (hc : bl.length ≤ cap)
    (hf : ∀ i (hi : i < (bl.map Blk.val).length), f i = (bl.map Blk.val)[i]) : Lies w (some ⟨g, 0, none⟩) (bl.reverse.map Blk.val) := by
  refine row_lies' h _ (by simpa using hc) fun i hi => ?_
  simp at hi
  simp only [if_pos hi]
  rw [hf _ (by simp; omega)]
  simp

theorem era_lies {w : World} {g cap k m : Nat} {e : TypeId} {f f' : Nat → Value} {bl : List Blk} (h : w.rowIs g e cap f') (hk : bl.length = k + 1 + m) (hc : bl.length ≤ cap) (hf' : ∀ j, j < k + m → f' j = if j < k then f j else f (j + 1))
    (hf : ∀ i (hi : i < (bl.map Blk.val).length), f i = (bl.map Blk.val)[i]) : Lies w (some ⟨g, 0, none⟩) ((bl.eraseIdx k).map Blk.val) := by
  have hle : (bl.eraseIdx k).length = k + m := by rw [List.length_eraseIdx_of_lt (by omega)]; omega
  refine row_lies' h _ (by simp [hle]; omega) fun i hi => ?_
  simp [hle] at hi
  rw [hf' i hi]
  simp only [List.getElem_map, List.getElem_eraseIdx]
  by_cases h1 : i < k
  · rw [if_pos h1, dif_pos h1, hf i (by simp; omega)]; simp
  · rw [if_neg h1, dif_neg h1, hf (i + 1) (by simp; omega)]; simp

theorem blk_slices {bl : List Blk} {f : Nat → Value} (hf : ∀ i (hi : i < (bl.map Blk.val).length), f i = (bl.map Blk.val)[i]) : ∀ i, i < bl.length → ∃ a l c, f i = .slice a l c := by
  intro i hi
  rw [hf i (by simpa using hi)]
  simp [Blk.val]

set_option maxHeartbeats 2000000 in
theorem sumTwice_good (a0 : Option Addr) (c0 : Nat) (bl : List Blk) (k : Int) (w : World) (hkr : -9223372036854775808 ≤ k ∧ k ≤ 9223372036854775807) (hn : bl.length * 24 ≤ 140737488355328) (h0 : Lies w a0 (bl.map Blk.val)) (hall : AllIn w bl) {n : Nat} (hr : Right n bl) :
    Calls Try.prog 5 #[.slice a0 bl.length c0, .int .i64 k] w fun e w' => e = .returned (.bool true) ∧ Below w.heap.size w w' := by
  have HM : Hid (bl.length ≤ maxLen) := by show bl.length ≤ maxLen; unfold maxLen; omega
  have hpos := hr.1
  have hn16 := hr.2.2.1
  have HR : Hid (Right n bl) := hr
  clear hr
  obtain ⟨r, hrl, hat⟩ : ∃ r : Nat, r < bl.length ∧ atN k bl.length = (r : Int) := by
    have := atN_lt k (n := (bl.length : Int)) (by omega)
    exact ⟨(atN k bl.length).toNat, by omega, by omega⟩
  have HAT : Hid (atN k bl.length = (r : Int)) := hat
  have HX : Hid (bl[r].l.length = n) := HR.out.2.2.2 bl[r] (by simp)
  clear hat
  obtain ⟨bA, oA, rfl⟩ := h0.some (k := r) (by simpa using hrl)
  go_enter Try.func5, Try.ntmps5
  go_wp2_with fail
  refine (blocks_any _ _ bl _ hn h0).mono ?_
  rintro e w1 ⟨v1, rfl, ho1, hb1⟩
  obtain ⟨p1, q1, rfl, hl1, -⟩ := own_lies ho1
  clear ho1
  go_wp2_with fail
  refine (add_right _ _ bl _ rfl HM.out hl1 (hall.below hb1) HR.out).mono ?_
  rintro e w2 ⟨pS, cS, rfl, hS, hb2⟩
  have hbb : Below w.heap.size w w2 := hb1.trans (hb2.mono hb1.size)
  clear hl1 hb1 hb2
  go_wp2_with fail
  refine (added_any _).mono ?_
  rintro e w6 ⟨rfl, hb6⟩
  have hS := hS.below hb6 (Nat.le_refl _)
  have hbb : Below w.heap.size w w6 := hbb.trans (hb6.mono hbb.size)
  clear hb6
  go_wp2_with fail
  refine (at_any _ _ _ hkr (by omega) (by omega)).mono ?_
  rintro e w7 ⟨rfl, rfl⟩
  rw [HAT.out]
  have hcr : w6.cell? ⟨bA, oA + r, none⟩ = some (.slice bl[r].a n bl[r].cap) := (h0.below hbb (Nat.le_refl _)).at (by simp [hrl, Blk.val, HX.out])
  have hSl : (sumBl bl).length = n := right_len HR.out
  have HSL : Hid ((sumBl bl).length = n) := hSl
  clear hSl
  go_wp2_with fail
  have T := twice_pure HR.out (x := bl[r]) (by simp) (s := ⟨pS, cS, sumBl bl⟩) rfl
  refine (add_right (n := n) _ _ [⟨pS, cS, sumBl bl⟩, bl[r], bl[r]] _ rfl (by show 3 ≤ maxLen; decide) ?_ ?_ T.1).mono ?_
  · rw [vals3 HSL.out HX.out]
    exact Lies.alloc_new _ _ _
  · intro b hb
    simp only [List.mem_cons, List.not_mem_nil, or_false] at hb
    have hx := ((hall bl[r] (by simp)).1.below hbb (Nat.le_refl _)).alloc (.cells #[.slice pS n cS, .slice bl[r].a n bl[r].cap, .slice bl[r].a n bl[r].cap] 29)
    rcases hb with rfl | rfl | rfl
    · exact ⟨hS.alloc _, by rw [show (Blk.mk pS cS (sumBl bl)).l = sumBl bl from rfl, HSL.out]; exact right_lt HR.out⟩
    · exact ⟨hx, by rw [HX.out]; exact right_lt HR.out⟩
    · exact ⟨hx, by rw [HX.out]; exact right_lt HR.out⟩
  rw [T.2]
  rintro e w8 ⟨pT, cT, rfl, hT, hb8⟩
  have hS := (hS.alloc _).below hb8 (Nat.le_refl _)
  have hbb : Below w.heap.size w w8 := (hbb.alloc hbb.size _).trans (hb8.mono (by simp; have := hbb.size; omega))
  clear hb8 T hcr
  go_wp2_with fail
  refine (same_any _ _ _ _ _ _ (sumBl bl) (sumBl bl) _ HSL.out HSL.out hS hT).mono ?_
  rintro e w9 ⟨rfl, rfl⟩
  have hdt : decide (sumBl bl = sumBl bl) = true := by simp
  clear hT
  go_wp2_with fail
  refine (blocks_any _ _ bl _ hn (h0.below hbb (Nat.le_refl _))).mono ?_
  rintro e w10 ⟨v10, rfl, ho10, hb10⟩
  obtain ⟨g, cg, f, rfl, hBg, hrow, hng, hcg, hf⟩ := own_row ho10 hpos
  clear ho10
  go_wp2_with fail
  refine (reverse_any g _ cg f _ hng hcg hrow (blk_slices hf)).mono ?_
  rintro e w11 ⟨rfl, hrow11, hg11⟩
  have hl11 := rev_lies hrow11 hng hf
  have hb11 : Below w8.heap.size w8 w11 := hb10.grown hg11 hb10.size (fun j e => by cases e; exact hBg)
  have hS := hS.below hb11 (Nat.le_refl _)
  have hbb : Below w.heap.size w w11 := hbb.trans (hb11.mono hbb.size)
  clear hb10 hb11 hg11 hrow hrow11 hf hcg hng hBg
  have T := right_perm HR.out (List.reverse_perm bl).symm
  go_wp2_with fail
  refine (add_right (n := n) _ _ bl.reverse _ (by simp) HM.out hl11 (fun b hb => hall.below hbb b (by simpa using hb)) T.1).mono ?_
  rw [T.2]
  rintro e w12 ⟨pT, cT, rfl, hT, hb12⟩
  have hS := hS.below hb12 (Nat.le_refl _)
  have hbb : Below w.heap.size w w12 := hbb.trans (hb12.mono hbb.size)
  clear hb12 T hl11
  go_wp2_with fail
  refine (same_any _ _ _ _ _ _ (sumBl bl) (sumBl bl) _ HSL.out HSL.out hS hT).mono ?_
  rintro e w13 ⟨rfl, rfl⟩
  clear hT
  go_wp2_with fail
  refine (blocks_any _ _ bl _ hn (h0.below hbb (Nat.le_refl _))).mono ?_
  rintro e w14 ⟨v14, rfl, ho14, hb14⟩
  obtain ⟨g2, cg2, f2, rfl, hBg2, hrow2, hng2, hcg2, hf2⟩ := own_row ho14 hpos
  clear ho14
  go_wp2_with fail
  obtain ⟨m, hm⟩ : ∃ m, bl.length = r + 1 + m := ⟨bl.length - (r + 1), by omega⟩
  refine (delete_any g2 _ m cg2 r f2 _ hm hng2 hcg2 hrow2 (blk_slices hf2)).mono ?_
  rintro e w15 ⟨rfl, ⟨f3, hrow3, hf3⟩, hg15⟩
  have hl15 := era_lies hrow3 hm hng2 hf3 hf2
  have hb15 : Below w12.heap.size w12 w15 := hb14.grown hg15 hb14.size (fun j e => by cases e; exact hBg2)
  have hS := hS.below hb15 (Nat.le_refl _)
  have hbb : Below w.heap.size w w15 := hbb.trans (hb15.mono hbb.size)
  clear hb14 hb15 hg15 hrow2 hrow3 hf2 hf3 hcg2 hng2 hBg2
  have hle : (bl.eraseIdx r).length = r + m := by rw [List.length_eraseIdx_of_lt hrl]; omega
  have HLE : Hid ((bl.eraseIdx r).length = r + m) := hle
  have hx := (hall bl[r] (by simp)).1.below hbb (Nat.le_refl _)
  clear hle
  by_cases hrm : r + m = 0
  · have HZ : Hid (bl[r].l = sumBl bl) := alone_pure HR.out hrl (by rw [HLE.out]; exact hrm)
    rw [hrm]
    clear hm hrm
    go_wp2_with fail
    refine (same_any _ _ _ _ _ _ (sumBl bl) bl[r].l _ HSL.out HX.out hS hx).mono ?_
    rintro e w16 ⟨rfl, rfl⟩
    go_wp2
    go_ret
    exact ⟨ret_bool (by simp [HZ.out]), hbb⟩
  · have hpos2 : 0 < r + m := by omega
    have hpos3 : (0 : Int) < (r : Int) + (m : Int) := by omega
    have HM2 : Hid (r + m ≤ maxLen) := by have := HM.out; show r + m ≤ maxLen; omega
    clear hm hrm
    go_wp2_with fail
    have T0 : Right n (bl.eraseIdx r) := ⟨by rw [HLE.out]; exact hpos2, HR.out.2.1, HR.out.2.2.1, fun b hb => HR.out.2.2.2 b (List.mem_of_mem_eraseIdx hb)⟩
    refine (add_right (n := n) _ _ (bl.eraseIdx r) _ HLE.out HM2.out hl15 (fun b hb => hall.below hbb b (List.mem_of_mem_eraseIdx hb)) T0).mono ?_
    rintro e w16 ⟨pU, cU, rfl, hU, hb16⟩
    have hS := hS.below hb16 (Nat.le_refl _)
    have hx := hx.below hb16 (Nat.le_refl _)
    have hbb : Below w.heap.size w w16 := hbb.trans (hb16.mono hbb.size)
    clear hb16 hl15
    have T := parts_pure HR.out hrl (by rw [HLE.out]; exact hpos2) (u := ⟨pU, cU, sumBl (bl.eraseIdx r)⟩) rfl
    have HUL : Hid ((sumBl (bl.eraseIdx r)).length = n) := right_len T0
    go_wp2_with fail
    refine (add_right (n := n) _ _ [⟨pU, cU, sumBl (bl.eraseIdx r)⟩, bl[r]] _ rfl (by show 2 ≤ maxLen; decide) ?_ ?_ T.2.1).mono ?_
    · rw [vals2 HUL.out HX.out]
      exact Lies.alloc_new _ _ _
    · intro b hb
      simp only [List.mem_cons, List.not_mem_nil, or_false] at hb
      rcases hb with rfl | rfl
      · exact ⟨hU.alloc _, by rw [show (Blk.mk pU cU (sumBl (bl.eraseIdx r))).l = sumBl (bl.eraseIdx r) from rfl, HUL.out]; exact right_lt HR.out⟩
      · exact ⟨hx.alloc _, by rw [HX.out]; exact right_lt HR.out⟩
    rw [T.2.2]
    rintro e w17 ⟨pT, cT, rfl, hT, hb17⟩
    have hS := (hS.alloc _).below hb17 (Nat.le_refl _)
    have hbb : Below w.heap.size w w17 := (hbb.alloc hbb.size _).trans (hb17.mono (by simp; have := hbb.size; omega))
    clear hb17 T T0 hU hx
    go_wp2_with fail
    refine (same_any _ _ _ _ _ _ (sumBl bl) (sumBl bl) _ HSL.out HSL.out hS hT).mono ?_
    rintro e w18 ⟨rfl, rfl⟩
    go_wp2
    go_ret
    exact ⟨ret_bool (by simp), hbb⟩

theorem sumTwice_walk (w : World) (a0 : Option Addr) (c0 : Nat) (bl : List Blk) (h0 : Lies w a0 (bl.map Blk.val)) (hall : AllIn w bl) (hn : bl.length * 24 ≤ 140737488355328) (k : Int) (hk : (Lit.int .i64 k).wf = true) :
    Calls Try.prog 5 #[.slice a0 bl.length c0, .int .i64 k] w fun e w' => e = .returned (.bool true) ∧ Below w.heap.size w w' := by
  by_cases h : addCode bl = 0
  · obtain ⟨n, hr⟩ := code_right h
    exact sumTwice_good a0 c0 bl k w (by simpa [Lit.wf, IntKind.min, IntKind.max, IntKind.signed, IntKind.bits] using hk) hn h0 hall hr
  · exact sumTwice_bad a0 c0 bl k w hn h0 hall h

end Go.Proofs.Ytpibeoieknoabaa
