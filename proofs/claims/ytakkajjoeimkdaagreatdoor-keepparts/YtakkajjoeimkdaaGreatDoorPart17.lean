import Derived.Test.YtakkajjoeimkdaaGreatDoorPart16
namespace Go.Proofs.YtakkajjoeimkdaaGreatDoor
open Go.RowKit
set_option linter.unusedVariables false
set_option linter.unusedSimpArgs false

set_option maxHeartbeats 4000000 in
set_option maxRecDepth 4000 in
theorem checkKept0 (me tm sq : Int) (pa : Option Addr) (pn pc : Nat) (F Q T L B K : Int) (own : Bool) (ca : Option Addr) (c : List UInt8) (cc : Nat) (ya : Option Addr) (ys : List MSym) (yc : Nat) (sh gv tw tr : Int) (ta : Option Addr) (tk : List (Int × Int)) (tc : Nat) (dl pg : Bool) (w : World) (ho : (⟨F, Q, T, L, B, K⟩ : Hd).ok) (hl : Lies w ya (symCells ys)) (hall : ∀ y ∈ ys, SymIn w y) (hm : ys.length ≤ maxLen) (hc : ys.length ≤ yc) (ht : Lies w ta (tkCells tk)) (htm : tk.length ≤ maxLen) (htc : tk.length ≤ tc) :
  Calls Tryz.prog 60 #[.agg #[.int .i64 me, .slice pa pn pc, .int .i64 tm, .int .i64 sq], .agg #[.int .i64 F, .int .i64 Q, .int .i64 T, .int .i64 L, .int .i64 B, .int .i64 K, .bool own, .slice ca c.length cc, .slice ya ys.length yc, .int .i64 sh, .int .i64 gv, .int .i64 tw, .int .i64 tr, .slice ta tk.length tc, .bool dl, .bool pg]] w fun e w' => e = .returned (.int .i64 (Kp.code me tm sq (⟨⟨F, Q, T, L, B, K⟩, own, c, ys.map MSym.says, sh, gv, tw, tr, tk, dl, pg⟩ : Kp))) ∧ Below w.heap.size w w' := by
 obtain ⟨W, hW⟩ : ∃ W, (w.alloc (.cells #[.int .i64 me, .slice pa pn pc, .int .i64 tm, .int .i64 sq] 25)).alloc (.cells #[.int .i64 F, .int .i64 Q, .int .i64 T, .int .i64 L, .int .i64 B, .int .i64 K, .bool own, .slice ca c.length cc, .slice ya ys.length yc, .int .i64 sh, .int .i64 gv, .int .i64 tw, .int .i64 tr, .slice ta tk.length tc, .bool dl, .bool pg] 88) = W := ⟨_, rfl⟩
 have hB : Below w.heap.size w W := by rw [← hW]; exact ((Below.refl _ _).alloc (Nat.le_refl _) _).alloc (by simp) _
 have HP : Shut (W.heap[w.heap.size]? = some (.cells #[.int .i64 me, .slice pa pn pc, .int .i64 tm, .int .i64 sq] 25 (0, 0))) := ⟨by rw [← hW, heap_alloc_eq, if_neg (by simp), heap_alloc_eq, if_pos rfl]⟩
 have HK : Shut (W.heap[w.heap.size + 1]? = some (.cells #[.int .i64 F, .int .i64 Q, .int .i64 T, .int .i64 L, .int .i64 B, .int .i64 K, .bool own, .slice ca c.length cc, .slice ya ys.length yc, .int .i64 sh, .int .i64 gv, .int .i64 tw, .int .i64 tr, .slice ta tk.length tc, .bool dl, .bool pg] 88 (0, 0))) := ⟨by rw [← hW, heap_alloc_eq, if_pos (by simp)]⟩
 have HW := Shut.mk hW
 have BW : Below W.heap.size W W := Below.refl _ _
 obtain ⟨Z, hZ⟩ : ∃ Z, Kp.code me tm sq (⟨⟨F, Q, T, L, B, K⟩, own, c, ys.map MSym.says, sh, gv, tw, tr, tk, dl, pg⟩ : Kp) = Z := ⟨_, rfl⟩
 rw [hZ]
 unfold Kp.code at hZ
 simp only at hZ
 have HZ := Shut.mk hZ
 clear hZ hW
 have hH := head_any ⟨F, Q, T, L, B, K⟩ W ho
 simp only [Hd.val] at hH
 obtain ⟨z1, hz1⟩ : ∃ z, hdCode ⟨F, Q, T, L, B, K⟩ = z := ⟨_, rfl⟩
 rw [hz1] at hH
 have HZ1 := Shut.mk hz1
 clear hz1
 obtain ⟨q0, q1, q2, q3, q4, q5, q6, q7, q8, q9, q10, q11, q12, q13, q14, q15⟩ := bx16 (blkB HK.out BW)
 have p0 : W.cell? ⟨w.heap.size, 0, none⟩ = some (.int .i64 me) := cellB (blkB HP.out BW) 0 _ rfl
 have p1 : W.cell? ⟨w.heap.size, 1, none⟩ = some (.slice pa pn pc) := cellB (blkB HP.out BW) 1 _ rfl
 have p2 : W.cell? ⟨w.heap.size, 2, none⟩ = some (.int .i64 tm) := cellB (blkB HP.out BW) 2 _ rfl
 have p3 : W.cell? ⟨w.heap.size, 3, none⟩ = some (.int .i64 sq) := cellB (blkB HP.out BW) 3 _ rfl
 go_enter Tryz.func60, Tryz.ntmps60
 go_upto_region 1 with fail
 rw [HW.out]
 clear HW
 go_wp2_with fail
 refine hH.mono ?_
 rintro e W1 ⟨rfl, BW1⟩
 clear hH
 clear q0 q1 q2 q3 q4 q5 q6 q7 q8 q9 q10 q11 q12 q13 q14 q15 p0 p1 p2 p3
 by_cases hz1 : z1 = 0
 case neg =>
  have R : Shut (Z = z1) := ⟨by rw [← HZ.out, HZ1.out, if_pos hz1]⟩
  have bz : (z1 != 0) = true := by simpa using hz1
  clear hz1
  go_wp2
  go_ret
  exact ⟨by rw [R.out]; rfl, hB.trans (BW1.mono hB.size)⟩
 subst hz1
 obtain ⟨q0, q1, q2, q3, q4, q5, q6, q7, q8, q9, q10, q11, q12, q13, q14, q15⟩ := bx16 (blkB HK.out BW1)
 have p0 : W1.cell? ⟨w.heap.size, 0, none⟩ = some (.int .i64 me) := cellB (blkB HP.out BW1) 0 _ rfl
 have p1 : W1.cell? ⟨w.heap.size, 1, none⟩ = some (.slice pa pn pc) := cellB (blkB HP.out BW1) 1 _ rfl
 have p2 : W1.cell? ⟨w.heap.size, 2, none⟩ = some (.int .i64 tm) := cellB (blkB HP.out BW1) 2 _ rfl
 have p3 : W1.cell? ⟨w.heap.size, 3, none⟩ = some (.int .i64 sq) := cellB (blkB HP.out BW1) 3 _ rfl
 by_cases hLt : L ≤ tm
 ·have R : Shut (Z = 7) := ⟨by rw [← HZ.out, HZ1.out, if_neg (by simp), if_pos hLt]⟩
  go_wp2
  go_ret
  exact ⟨by rw [R.out]; rfl, hB.trans (BW1.mono hB.size)⟩
 have hO := owned0 me F Q T L B K own ca c.length cc ya ys.length yc sh gv tw tr ta tk.length tc dl pg W1
 obtain ⟨o, hO2⟩ : ∃ o, ((own == (F == me)) && (own && (decide ((c.length : Int) = B) && decide (ys.length = 0)) || !own && decide (c.length = 0))) = o := ⟨_, rfl⟩
 rw [hO2] at hO
 have HO : Shut (Kp.owned me (⟨⟨F, Q, T, L, B, K⟩, own, c, ys.map MSym.says, sh, gv, tw, tr, tk, dl, pg⟩ : Kp) = o) := ⟨by rw [← hO2]; simp [Kp.owned]⟩
 clear hO2
 go_wp2_with fail
 refine hO.mono ?_
 rintro e W2 ⟨rfl, b⟩
 have BW2 := BW1.trans (b.mono BW1.size)
 clear hO b BW1
 clear q0 q1 q2 q3 q4 q5 q6 q7 q8 q9 q10 q11 q12 q13 q14 q15 p0 p1 p2 p3
 cases o
 ·have R : Shut (Z = 4) := ⟨by rw [← HZ.out, HZ1.out, if_neg (by simp), if_neg (show ¬ L ≤ tm by omega), if_pos (by rw [HO.out]; simp)]⟩
  go_wp2
  go_ret
  exact ⟨by rw [R.out]; rfl, hB.trans (BW2.mono hB.size)⟩
 obtain ⟨q0, q1, q2, q3, q4, q5, q6, q7, q8, q9, q10, q11, q12, q13, q14, q15⟩ := bx16 (blkB HK.out BW2)
 have p0 : W2.cell? ⟨w.heap.size, 0, none⟩ = some (.int .i64 me) := cellB (blkB HP.out BW2) 0 _ rfl
 have p1 : W2.cell? ⟨w.heap.size, 1, none⟩ = some (.slice pa pn pc) := cellB (blkB HP.out BW2) 1 _ rfl
 have p2 : W2.cell? ⟨w.heap.size, 2, none⟩ = some (.int .i64 tm) := cellB (blkB HP.out BW2) 2 _ rfl
 have p3 : W2.cell? ⟨w.heap.size, 3, none⟩ = some (.int .i64 sq) := cellB (blkB HP.out BW2) 3 _ rfl
 have hsl : (ys.map MSym.says).length = ys.length := List.length_map ..
 by_cases hs60 : 60 < ys.length
 ·have R : Shut (Z = 2) := ⟨by rw [← HZ.out, HZ1.out, if_neg (by simp), if_neg (show ¬ L ≤ tm by omega), if_neg (by rw [HO.out]; simp), if_pos (by rw [hsl]; exact Or.inl hs60)]⟩
  have h' : (60 : Int) < (ys.length : Int) := by omega
  go_wp2
  go_ret
  exact ⟨by rw [R.out]; rfl, hB.trans (BW2.mono hB.size)⟩
 by_cases ht40 : 40 < tk.length
 ·have R : Shut (Z = 2) := ⟨by rw [← HZ.out, HZ1.out, if_neg (by simp), if_neg (show ¬ L ≤ tm by omega), if_neg (by rw [HO.out]; simp), if_pos (Or.inr ht40)]⟩
  have h' : (40 : Int) < (tk.length : Int) := by omega
  have h'' : ¬ (60 : Int) < (ys.length : Int) := by omega
  go_wp2
  go_ret
  exact ⟨by rw [R.out]; rfl, hB.trans (BW2.mono hB.size)⟩
 have hn1 : ¬ (60 : Int) < (ys.length : Int) := by omega
 have hn2 : ¬ (40 : Int) < (tk.length : Int) := by omega
 have HF : Shut (Z = if symsFrom B K [] (ys.map MSym.says) ≠ 0 then symsFrom B K [] (ys.map MSym.says) else if sharesC me sh gv tw tr ≠ 0 then sharesC me sh gv tw tr else if tookFrom [] tk ≠ 0 then tookFrom [] tk else if ¬ Kp.doneOk me (⟨⟨F, Q, T, L, B, K⟩, own, c, ys.map MSym.says, sh, gv, tw, tr, tk, dl, pg⟩ : Kp) = true ∨ (own = true ∧ sq ≤ Q) then 4 else 0) := ⟨by rw [← HZ.out, HZ1.out, if_neg (by simp), if_neg (show ¬ L ≤ tm by omega), if_neg (by rw [HO.out]; simp), if_neg (by rw [hsl]; omega)]; rfl⟩
 clear HZ HZ1 HO hs60 ht40 hsl
 have hF2 := hB.trans (BW2.mono hB.size)
 have hS := checkSyms0 F Q T L B K own ca c.length cc ya ys yc sh gv tw tr ta tk.length tc dl pg W2 ⟨ho.2.2.2.2.1, ho.2.2.2.2.2⟩ (hl.below hF2 (Nat.le_refl _)) (fun y hy => (hall y hy).below hF2) hm hc
 obtain ⟨z2, hz2⟩ : ∃ z, symsFrom B K [] (ys.map MSym.says) = z := ⟨_, rfl⟩
 rw [hz2] at hS HF
 clear hz2
 go_wp2_with fail
 refine hS.mono ?_
 rintro e W3 ⟨rfl, b⟩
 have BW3 := BW2.trans (b.mono BW2.size)
 clear hS b BW2 hF2 hn1 hn2
 clear q0 q1 q2 q3 q4 q5 q6 q7 q8 q9 q10 q11 q12 q13 q14 q15 p0 p1 p2 p3
 by_cases hz2 : z2 = 0
 case neg =>
  have R : Shut (Z = z2) := ⟨by rw [HF.out, if_pos hz2]⟩
  have bz : (z2 != 0) = true := by simpa using hz2
  clear hz2
  go_wp2
  go_ret
  exact ⟨by rw [R.out]; rfl, hB.trans (BW3.mono hB.size)⟩
 subst hz2
 obtain ⟨q0, q1, q2, q3, q4, q5, q6, q7, q8, q9, q10, q11, q12, q13, q14, q15⟩ := bx16 (blkB HK.out BW3)
 have p0 : W3.cell? ⟨w.heap.size, 0, none⟩ = some (.int .i64 me) := cellB (blkB HP.out BW3) 0 _ rfl
 have p1 : W3.cell? ⟨w.heap.size, 1, none⟩ = some (.slice pa pn pc) := cellB (blkB HP.out BW3) 1 _ rfl
 have p2 : W3.cell? ⟨w.heap.size, 2, none⟩ = some (.int .i64 tm) := cellB (blkB HP.out BW3) 2 _ rfl
 have p3 : W3.cell? ⟨w.heap.size, 3, none⟩ = some (.int .i64 sq) := cellB (blkB HP.out BW3) 3 _ rfl
 have hS := shares0 me F Q T L B K own ca c.length cc ya ys.length yc sh gv tw tr ta tk.length tc dl pg W3
 obtain ⟨z3, hz3⟩ : ∃ z, sharesC me sh gv tw tr = z := ⟨_, rfl⟩
 rw [hz3] at hS HF
 clear hz3
 go_wp2_with fail
 refine hS.mono ?_
 rintro e W4 ⟨rfl, b⟩
 have BW4 := BW3.trans (b.mono BW3.size)
 clear hS b BW3
 clear q0 q1 q2 q3 q4 q5 q6 q7 q8 q9 q10 q11 q12 q13 q14 q15 p0 p1 p2 p3
 by_cases hz3 : z3 = 0
 case neg =>
  have R : Shut (Z = z3) := ⟨by rw [HF.out, if_neg (by simp), if_pos hz3]⟩
  have bz : (z3 != 0) = true := by simpa using hz3
  clear hz3
  go_wp2
  go_ret
  exact ⟨by rw [R.out]; rfl, hB.trans (BW4.mono hB.size)⟩
 subst hz3
 obtain ⟨q0, q1, q2, q3, q4, q5, q6, q7, q8, q9, q10, q11, q12, q13, q14, q15⟩ := bx16 (blkB HK.out BW4)
 have p0 : W4.cell? ⟨w.heap.size, 0, none⟩ = some (.int .i64 me) := cellB (blkB HP.out BW4) 0 _ rfl
 have p1 : W4.cell? ⟨w.heap.size, 1, none⟩ = some (.slice pa pn pc) := cellB (blkB HP.out BW4) 1 _ rfl
 have p2 : W4.cell? ⟨w.heap.size, 2, none⟩ = some (.int .i64 tm) := cellB (blkB HP.out BW4) 2 _ rfl
 have p3 : W4.cell? ⟨w.heap.size, 3, none⟩ = some (.int .i64 sq) := cellB (blkB HP.out BW4) 3 _ rfl
 have hF4 := hB.trans (BW4.mono hB.size)
 have hS := checkTook_any ta tc tk W4 (ht.below hF4 (Nat.le_refl _)) htm htc
 obtain ⟨z4, hz4⟩ : ∃ z, tookFrom [] tk = z := ⟨_, rfl⟩
 rw [hz4] at hS HF
 clear hz4 hF4
 go_wp2_with fail
 refine hS.mono ?_
 rintro e W5 ⟨rfl, b⟩
 have BW5 := BW4.trans (b.mono BW4.size)
 clear hS b BW4
 clear q0 q1 q2 q3 q4 q5 q6 q7 q8 q9 q10 q11 q12 q13 q14 q15 p0 p1 p2 p3
 by_cases hz4 : z4 = 0
 case neg =>
  have R : Shut (Z = z4) := ⟨by rw [HF.out, if_neg (by simp), if_neg (by simp), if_pos hz4]⟩
  have bz : (z4 != 0) = true := by simpa using hz4
  clear hz4
  go_wp2
  go_ret
  exact ⟨by rw [R.out]; rfl, hB.trans (BW5.mono hB.size)⟩
 subst hz4
 have HG : Shut (Z = if ¬ Kp.doneOk me (⟨⟨F, Q, T, L, B, K⟩, own, c, ys.map MSym.says, sh, gv, tw, tr, tk, dl, pg⟩ : Kp) = true ∨ (own = true ∧ sq ≤ Q) then 4 else 0) := ⟨by rw [HF.out, if_neg (by simp), if_neg (by simp), if_neg (by simp)]⟩
 clear HF
 obtain ⟨q0, q1, q2, q3, q4, q5, q6, q7, q8, q9, q10, q11, q12, q13, q14, q15⟩ := bx16 (blkB HK.out BW5)
 have p0 : W5.cell? ⟨w.heap.size, 0, none⟩ = some (.int .i64 me) := cellB (blkB HP.out BW5) 0 _ rfl
 have p1 : W5.cell? ⟨w.heap.size, 1, none⟩ = some (.slice pa pn pc) := cellB (blkB HP.out BW5) 1 _ rfl
 have p2 : W5.cell? ⟨w.heap.size, 2, none⟩ = some (.int .i64 tm) := cellB (blkB HP.out BW5) 2 _ rfl
 have p3 : W5.cell? ⟨w.heap.size, 3, none⟩ = some (.int .i64 sq) := cellB (blkB HP.out BW5) 3 _ rfl
 have hS := done0 me F Q T L B K own ca c.length cc ya ys.length yc sh gv tw tr ta tk.length tc dl pg W5
 obtain ⟨o, hO2⟩ : ∃ o, (!(dl && (!(T == me) || pg)) && (!(dl || pg) || (decide (ys.length = 0) && sh == 0 && gv == 0))) = o := ⟨_, rfl⟩
 rw [hO2] at hS
 have HO : Shut (Kp.doneOk me (⟨⟨F, Q, T, L, B, K⟩, own, c, ys.map MSym.says, sh, gv, tw, tr, tk, dl, pg⟩ : Kp) = o) := ⟨by rw [← hO2]; simp [Kp.doneOk, Kp.done]⟩
 clear hO2
 go_wp2_with fail
 refine hS.mono ?_
 rintro e W6 ⟨rfl, b⟩
 have BW6 := BW5.trans (b.mono BW5.size)
 clear hS b BW5
 clear q0 q1 q2 q3 q4 q5 q6 q7 q8 q9 q10 q11 q12 q13 q14 q15 p0 p1 p2 p3
 obtain ⟨q0, q1, q2, q3, q4, q5, q6, q7, q8, q9, q10, q11, q12, q13, q14, q15⟩ := bx16 (blkB HK.out BW6)
 have p0 : W6.cell? ⟨w.heap.size, 0, none⟩ = some (.int .i64 me) := cellB (blkB HP.out BW6) 0 _ rfl
 have p1 : W6.cell? ⟨w.heap.size, 1, none⟩ = some (.slice pa pn pc) := cellB (blkB HP.out BW6) 1 _ rfl
 have p2 : W6.cell? ⟨w.heap.size, 2, none⟩ = some (.int .i64 tm) := cellB (blkB HP.out BW6) 2 _ rfl
 have p3 : W6.cell? ⟨w.heap.size, 3, none⟩ = some (.int .i64 sq) := cellB (blkB HP.out BW6) 3 _ rfl
 cases o
 ·have R : Shut (Z = 4) := ⟨by rw [HG.out, if_pos (Or.inl (by rw [HO.out]; simp))]⟩
  go_wp2
  go_ret
  exact ⟨by rw [R.out]; rfl, hB.trans (BW6.mono hB.size)⟩
 ·cases own
  ·have R : Shut (Z = 0) := ⟨by rw [HG.out, if_neg (by rw [HO.out]; simp)]⟩
   go_wp2
   go_ret
   exact ⟨by rw [R.out]; rfl, hB.trans (BW6.mono hB.size)⟩
  ·by_cases hsq : sq ≤ Q
   ·have R : Shut (Z = 4) := ⟨by rw [HG.out, if_pos (Or.inr ⟨rfl, hsq⟩)]⟩
    go_wp2
    go_ret
    exact ⟨by rw [R.out]; rfl, hB.trans (BW6.mono hB.size)⟩
   ·have R : Shut (Z = 0) := ⟨by rw [HG.out, if_neg (by rw [HO.out]; simp; omega)]⟩
    go_wp2
    go_ret
    exact ⟨by rw [R.out]; rfl, hB.trans (BW6.mono hB.size)⟩

def kpCells (l : List MKp) : List Value := l.flatMap MKp.cells

theorem kpCells_length (l : List MKp) : (kpCells l).length = 16 * l.length := by
 induction l with
 | nil => rfl
 | cons r l ih =>
  have e : kpCells (r :: l) = r.cells ++ kpCells l := rfl
  rw [e, List.length_append, ih, List.length_cons]
  have : r.cells.length = 16 := rfl
  omega

theorem kpCells_append (a b : List MKp) : kpCells (a ++ b) = kpCells a ++ kpCells b := by simp [kpCells]

theorem kpCells_at : ∀ (l : List MKp) (i j : Nat) (y : MKp) (v : Value), l[i]? = some y → y.cells[j]? = some v → (kpCells l)[16 * i + j]? = some v
 | [], i, j, y, v, h, _ => by simp at h
 | r :: l, 0, j, y, v, h, hv => by
  simp at h
  subst h
  have e : kpCells (r :: l) = r.cells ++ kpCells l := rfl
  rw [e, Nat.mul_zero, Nat.zero_add, List.getElem?_append_left (List.getElem?_eq_some_iff.1 hv).1]
  exact hv
 | r :: l, i + 1, j, y, v, h, hv => by
  have e : kpCells (r :: l) = r.cells ++ kpCells l := rfl
  have hl : r.cells.length = 16 := rfl
  rw [e, List.getElem?_append_right (by rw [hl]; omega), hl, show 16 * (i + 1) + j - 16 = 16 * i + j by omega]
  exact kpCells_at l i j y v (by simpa using h) hv

theorem kp_cell {w : World} {b o k : Nat} {l : List MKp} {x : MKp} {v : Value} (h : Lies w (some ⟨b, o, none⟩) (kpCells l) ∧ l[k]? = some x) (j : Nat) (hv : x.cells[j]? = some v) : w.cell? ⟨b, o + k * 16 + j, none⟩ = some v := by
 have := h.1.at (kpCells_at l k j x v h.2 hv)
 rw [show o + k * 16 + j = o + (16 * k + j) by omega]
 exact this

structure KpGood (w : World) (m : MKp) : Prop where
 inn : KpIn w m
 fits : m.fits
 ints : m.k.ints

theorem KpGood.below {w w' : World} {m : MKp} (h : KpGood w m) (hb : Below w.heap.size w w') : KpGood w' m := ⟨h.inn.below hb, h.fits, h.ints⟩

theorem checkKept_any (me tm sq : Int) (pa : Option Addr) (pn pc : Nat) (m : MKp) (w : World) (h : KpGood w m) :
  Calls Tryz.prog 60 #[.agg #[.int .i64 me, .slice pa pn pc, .int .i64 tm, .int .i64 sq], m.val] w fun e w' => e = .returned (.int .i64 (m.k.code me tm sq)) ∧ Below w.heap.size w w' := by
 obtain ⟨⟨⟨F, Q, T, L, B, K⟩, own, c, ss, sh, gv, tw, tr, tk, dl, pg⟩, ca, cc, ya, yc, ys, ta, tc⟩ := m
 obtain ⟨⟨h1, h2, h3, h4, h5⟩, ⟨f1, f2, f3, f4, f5, f6⟩, hi⟩ := h
 simp only at h1 h2 h3 h4 h5 f1 f2 f3 f4 f5 f6
 subst h4
 exact checkKept0 me tm sq pa pn pc F Q T L B K own ca c cc ya ys yc sh gv tw tr ta tk tc dl pg w hi.h h2 h3 f2 f5 h5 f3 f6

def prevH (l : List Kp) : Nat → Option Hd
 | 0 => none
 | q + 1 => (l[q]?).map Kp.h

theorem kept_step {me tm sq : Int} {l : List Kp} {q : Nat} (hq : q < l.length) : keptFrom me tm sq (prevH l q) (l.drop q) = if l[q].code me tm sq ≠ 0 then l[q].code me tm sq else if ¬ behind (prevH l q) l[q].h = true then 6 else keptFrom me tm sq (prevH l (q + 1)) (l.drop (q + 1)) := by
 rw [List.drop_eq_getElem_cons hq, keptFrom]
 have : prevH l (q + 1) = some l[q].h := by simp [prevH, hq]
 rw [this]

set_option maxHeartbeats 4000000 in
set_option maxRecDepth 4000 in
theorem check_place (me tm sq : Int) (pa : Option Addr) (pc : Nat) (l : List MKp) (w : World) (hl : Lies w pa (kpCells l)) (hall : ∀ m ∈ l, KpGood w m) (hm : l.length ≤ maxLen) (hc : l.length ≤ pc) :
  Calls Tryz.prog 33 #[.agg #[.int .i64 me, .slice pa l.length pc, .int .i64 tm, .int .i64 sq]] w fun e w' => e = .returned (.int .i64 (Pl.code ⟨me, l.map MKp.k, tm, sq⟩)) ∧ Below w.heap.size w w' := by
 obtain ⟨n, hn⟩ : ∃ n, l.length = n := ⟨_, rfl⟩
 have HX := Shut.mk (And.intro hn (And.intro hl hall))
 obtain ⟨Z, hZ⟩ : ∃ Z, Pl.code ⟨me, l.map MKp.k, tm, sq⟩ = Z := ⟨_, rfl⟩
 rw [hZ]
 unfold Pl.code at hZ
 simp only [List.length_map] at hZ
 rw [hn] at hm hc hZ ⊢
 unfold maxLen at hm
 have HZ := Shut.mk hZ
 obtain ⟨W, hW⟩ : ∃ W, w.alloc (.cells #[.int .i64 me, .slice pa n pc, .int .i64 tm, .int .i64 sq] 25) = W := ⟨_, rfl⟩
 have hB : Below w.heap.size w W := by rw [← hW]; exact (Below.refl _ _).alloc (Nat.le_refl _) _
 have hp : W.heap[w.heap.size]? = some (.cells #[.int .i64 me, .slice pa n pc, .int .i64 tm, .int .i64 sq] 25 (0, 0)) := by rw [← hW, heap_alloc_eq, if_pos rfl]
 have HP := Shut.mk hp
 have HW := Shut.mk hW
 have p0 : W.cell? ⟨w.heap.size, 0, none⟩ = some (.int .i64 me) := cellB hp 0 _ rfl
 have p1 : W.cell? ⟨w.heap.size, 1, none⟩ = some (.slice pa n pc) := cellB hp 1 _ rfl
 have p2 : W.cell? ⟨w.heap.size, 2, none⟩ = some (.int .i64 tm) := cellB hp 2 _ rfl
 have p3 : W.cell? ⟨w.heap.size, 3, none⟩ = some (.int .i64 sq) := cellB hp 3 _ rfl
 clear hW hp hZ hl hall hn
 have g1 := kwithin_any me 0 3 W
 have g2 := kwithin_any tm 0 1000000 W
 have g3 := kwithin_any sq 0 50 W
 by_cases h1 : 0 ≤ me ∧ me ≤ 3
 case neg =>
  rw [decide_eq_false h1] at g1
  have R : Shut (Z = 3) := ⟨by rw [← HZ.out, if_pos (fun h => h1 h.1)]⟩
  clear h1 g2 g3
  go_enter Tryz.func33, Tryz.ntmps33
  go_upto_region 1 with fail
  rw [HW.out]
  go_wp2_with fail
  refine g1.mono ?_
  rintro e _ ⟨rfl, rfl⟩
  go_wp2
  go_ret
  exact ⟨by rw [R.out]; rfl, hB⟩
 rw [decide_eq_true h1] at g1
 by_cases h2 : 0 ≤ tm ∧ tm ≤ 1000000
 case neg =>
  rw [decide_eq_false h2] at g2
  have R : Shut (Z = 3) := ⟨by rw [← HZ.out, if_pos (fun h => h2 h.2.1)]⟩
  clear h1 h2 g3
  go_enter Tryz.func33, Tryz.ntmps33
  go_upto_region 1 with fail
  rw [HW.out]
  go_wp2_with fail
  refine g1.mono ?_
  rintro e _ ⟨rfl, rfl⟩
  go_wp2_with fail
  refine g2.mono ?_
  rintro e _ ⟨rfl, rfl⟩
  go_wp2
  go_ret
  exact ⟨by rw [R.out]; rfl, hB⟩
 rw [decide_eq_true h2] at g2
 by_cases h3 : 0 ≤ sq ∧ sq ≤ 50
 case neg =>
  rw [decide_eq_false h3] at g3
  have R : Shut (Z = 3) := ⟨by rw [← HZ.out, if_pos (fun h => h3 h.2.2)]⟩
  clear h1 h2 h3
  go_enter Tryz.func33, Tryz.ntmps33
  go_upto_region 1 with fail
  rw [HW.out]
  go_wp2_with fail
  refine g1.mono ?_
  rintro e _ ⟨rfl, rfl⟩
  go_wp2_with fail
  refine g2.mono ?_
  rintro e _ ⟨rfl, rfl⟩
  go_wp2_with fail
  refine g3.mono ?_
  rintro e _ ⟨rfl, rfl⟩
  go_wp2
  go_ret
  exact ⟨by rw [R.out]; rfl, hB⟩
 rw [decide_eq_true h3] at g3
 have HZ2 : Shut (Z = if 12 < n then 2 else keptFrom me tm sq none (l.map MKp.k)) := ⟨by rw [← HZ.out, if_neg (fun h => h ⟨h1, h2, h3⟩)]⟩
 clear h1 h2 h3 HZ
 by_cases h12 : 12 < n
 ·have R : Shut (Z = 2) := ⟨by rw [HZ2.out, if_pos h12]⟩
  have h12' : (12 : Int) < (n : Int) := by omega
  go_enter Tryz.func33, Tryz.ntmps33
  go_upto_region 1 with fail
  rw [HW.out]
  go_wp2_with fail
  refine g1.mono ?_
  rintro e _ ⟨rfl, rfl⟩
  go_wp2_with fail
  refine g2.mono ?_
  rintro e _ ⟨rfl, rfl⟩
  go_wp2_with fail
  refine g3.mono ?_
  rintro e _ ⟨rfl, rfl⟩
  go_wp2
  go_ret
  exact ⟨by rw [R.out]; rfl, hB⟩
 have h12' : ¬ (12 : Int) < (n : Int) := by omega
 have H0 : Shut (Z = keptFrom me tm sq (prevH (l.map MKp.k) 0) ((l.map MKp.k).drop 0)) := ⟨by rw [HZ2.out, if_neg h12]; rfl⟩
 clear HZ2
 go_enter Tryz.func33, Tryz.ntmps33
 go_upto_region 1 with fail
 rw [HW.out]
 clear HW
 go_wp2_with fail
 refine g1.mono ?_
 rintro e _ ⟨rfl, rfl⟩
 go_wp2_with fail
 refine g2.mono ?_
 rintro e _ ⟨rfl, rfl⟩
 go_wp2_with fail
 refine g3.mono ?_
 rintro e _ ⟨rfl, rfl⟩
 clear g1 g2 g3
 go_wp2
 go_loopw [27] (fun i wr => ∃ q : Nat, q ≤ n ∧ i = .int .i64 q ∧ Shut (Below W.heap.size W wr ∧ Z = keptFrom me tm sq (prevH (l.map MKp.k) q) ((l.map MKp.k).drop q))) (fun i _ => n - (intOf i).toNat)
 case atStart => exact ⟨0, Nat.zero_le _, rfl, ⟨Below.refl _ _, H0.out⟩⟩
 case round =>
  clear H0 p0 p1 p2 p3
  obtain ⟨q, hq, rfl, HN⟩ := hrel
  have hbr := HN.out.1
  by_cases hlt : q < n
  ·have hqN : q < l.length := by rw [HX.out.1]; exact hlt
   have hBr := hB.trans (hbr.mono hB.size)
   have hlr := HX.out.2.1.below hBr (Nat.le_refl _)
   obtain ⟨b1, o1, rfl⟩ := hlr.some (k := 16 * q) (by rw [kpCells_length]; omega)
   have h1 : Lies wr (some ⟨b1, o1, none⟩) (kpCells l) ∧ l[q]? = some l[q] := ⟨hlr, List.getElem?_eq_getElem hqN⟩
   have HS : Shut (Z = if l[q].k.code me tm sq ≠ 0 then l[q].k.code me tm sq else if ¬ behind (prevH (l.map MKp.k) q) l[q].k.h = true then 6 else keptFrom me tm sq (prevH (l.map MKp.k) (q + 1)) ((l.map MKp.k).drop (q + 1))) := ⟨by
    rw [HN.out.2, kept_step (by simpa using hqN), List.getElem_map]⟩
   have HY := Shut.mk (HX.out.2.2 l[q] (List.getElem_mem hqN))
   generalize l[q] = Y at *
   have t0 : wr.cell? ⟨b1, o1 + q * 16, none⟩ = some (.int .i64 Y.k.h.F) := kp_cell h1 0 rfl
   have t1 : wr.cell? ⟨b1, o1 + q * 16 + 1, none⟩ = some (.int .i64 Y.k.h.Q) := kp_cell h1 1 rfl
   have t2 : wr.cell? ⟨b1, o1 + q * 16 + 2, none⟩ = some (.int .i64 Y.k.h.T) := kp_cell h1 2 rfl
   have t3 : wr.cell? ⟨b1, o1 + q * 16 + 3, none⟩ = some (.int .i64 Y.k.h.L) := kp_cell h1 3 rfl
   have t4 : wr.cell? ⟨b1, o1 + q * 16 + 4, none⟩ = some (.int .i64 Y.k.h.B) := kp_cell h1 4 rfl
   have t5 : wr.cell? ⟨b1, o1 + q * 16 + 5, none⟩ = some (.int .i64 Y.k.h.K) := kp_cell h1 5 rfl
   have t6 : wr.cell? ⟨b1, o1 + q * 16 + 6, none⟩ = some (.bool Y.k.own) := kp_cell h1 6 rfl
   have t7 : wr.cell? ⟨b1, o1 + q * 16 + 7, none⟩ = some (.slice Y.ca Y.k.c.length Y.cc) := kp_cell h1 7 rfl
   have t8 : wr.cell? ⟨b1, o1 + q * 16 + 8, none⟩ = some (.slice Y.ya Y.ys.length Y.yc) := kp_cell h1 8 rfl
   have t9 : wr.cell? ⟨b1, o1 + q * 16 + 9, none⟩ = some (.int .i64 Y.k.sh) := kp_cell h1 9 rfl
   have t10 : wr.cell? ⟨b1, o1 + q * 16 + 10, none⟩ = some (.int .i64 Y.k.gv) := kp_cell h1 10 rfl
   have t11 : wr.cell? ⟨b1, o1 + q * 16 + 11, none⟩ = some (.int .i64 Y.k.tw) := kp_cell h1 11 rfl
   have t12 : wr.cell? ⟨b1, o1 + q * 16 + 12, none⟩ = some (.int .i64 Y.k.tr) := kp_cell h1 12 rfl
   have t13 : wr.cell? ⟨b1, o1 + q * 16 + 13, none⟩ = some (.slice Y.ta Y.k.tk.length Y.tc) := kp_cell h1 13 rfl
   have t14 : wr.cell? ⟨b1, o1 + q * 16 + 14, none⟩ = some (.bool Y.k.dl) := kp_cell h1 14 rfl
   have t15 : wr.cell? ⟨b1, o1 + q * 16 + 15, none⟩ = some (.bool Y.k.pg) := kp_cell h1 15 rfl
   clear HN hlr h1
   go_upto_region 10 with fail
   obtain ⟨W1, hW1⟩ : ∃ W1, wr.alloc (.cells #[.int .i64 Y.k.h.F, .int .i64 Y.k.h.Q, .int .i64 Y.k.h.T, .int .i64 Y.k.h.L, .int .i64 Y.k.h.B, .int .i64 Y.k.h.K, .bool Y.k.own, .slice Y.ca Y.k.c.length Y.cc, .slice Y.ya Y.ys.length Y.yc, .int .i64 Y.k.sh, .int .i64 Y.k.gv, .int .i64 Y.k.tw, .int .i64 Y.k.tr, .slice Y.ta Y.k.tk.length Y.tc, .bool Y.k.dl, .bool Y.k.pg] 88) = W1 := ⟨_, rfl⟩
   rw [hW1]
   have hb1 : Below wr.heap.size wr W1 := by rw [← hW1]; exact (Below.refl _ _).alloc (Nat.le_refl _) _
   have hk1 : W1.heap[wr.heap.size]? = some (.cells #[.int .i64 Y.k.h.F, .int .i64 Y.k.h.Q, .int .i64 Y.k.h.T, .int .i64 Y.k.h.L, .int .i64 Y.k.h.B, .int .i64 Y.k.h.K, .bool Y.k.own, .slice Y.ca Y.k.c.length Y.cc, .slice Y.ya Y.ys.length Y.yc, .int .i64 Y.k.sh, .int .i64 Y.k.gv, .int .i64 Y.k.tw, .int .i64 Y.k.tr, .slice Y.ta Y.k.tk.length Y.tc, .bool Y.k.dl, .bool Y.k.pg] 88 (0, 0)) := by rw [← hW1, heap_alloc_eq, if_pos rfl]
   have hB1 := hbr.trans (hb1.mono hbr.size)
   have hp1 := blkB HP.out hB1
   clear hW1 hb1 t0 t1 t2 t3 t4 t5 t6 t7 t8 t9 t10 t11 t12 t13 t14 t15
   obtain ⟨q0, q1, q2, q3, q4, q5, q6, q7, q8, q9, q10, q11, q12, q13, q14, q15⟩ := bx16 hk1
   have p0 : W1.cell? ⟨w.heap.size, 0, none⟩ = some (.int .i64 me) := cellB hp1 0 _ rfl
   have p1 : W1.cell? ⟨w.heap.size, 1, none⟩ = some (.slice (some ⟨b1, o1, none⟩) n pc) := cellB hp1 1 _ rfl
   have p2 : W1.cell? ⟨w.heap.size, 2, none⟩ = some (.int .i64 tm) := cellB hp1 2 _ rfl
   have p3 : W1.cell? ⟨w.heap.size, 3, none⟩ = some (.int .i64 sq) := cellB hp1 3 _ rfl
   have hC := checkKept_any me tm sq (some ⟨b1, o1, none⟩) n pc Y W1 (HY.out.below (hB.trans (hB1.mono hB.size)))
   simp only [MKp.val] at hC
   obtain ⟨z, hz⟩ : ∃ z, Y.k.code me tm sq = z := ⟨_, rfl⟩
   rw [hz] at hC HS
   clear hz
   go_wp2_with fail
   refine hC.mono ?_
   rintro e W2 ⟨rfl, hb2⟩
   have hB2 := hB1.trans (hb2.mono hB1.size)
   have hk2 := blkB hk1 hb2
   have hp2 := blkB hp1 hb2
   clear hC hb2 hk1 hp1 q0 q1 q2 q3 q4 q5 q6 q7 q8 q9 q10 q11 q12 q13 q14 q15 p0 p1 p2 p3
   by_cases hz0 : z = 0
   ·subst hz0
    have HS2 : Shut (Z = if ¬ behind (prevH (l.map MKp.k) q) Y.k.h = true then 6 else keptFrom me tm sq (prevH (l.map MKp.k) (q + 1)) ((l.map MKp.k).drop (q + 1))) := ⟨by rw [HS.out, if_neg (fun h => h rfl)]⟩
    clear HS
    rcases Nat.eq_zero_or_pos q with rfl | hqp
    ·have HS3 : Shut (Z = keptFrom me tm sq (prevH (l.map MKp.k) (0 + 1)) ((l.map MKp.k).drop (0 + 1))) := ⟨by rw [HS2.out]; simp [prevH, behind]⟩
     clear HS2
     go_upto_region 13 with fail
     refine wp_region_above (by kernel_rfl) (by kernel_rfl) ?_
     iterate 15 (go_big_quiet_step (first | rfl | fail))
     refine wpQuiet_nil ?_
     rintro _ ⟨u, rfl⟩
     have R : Shut (Below W.heap.size W u.w ∧ Z = keptFrom me tm sq (prevH (l.map MKp.k) (0 + 1)) ((l.map MKp.k).drop (0 + 1))) := ⟨hB2.trans (u.below.mono hB2.size), HS3.out⟩
     clear HS3 hB2 hk2 hp2
     generalize u.w = W3 at *
     go_wp2
     go_roundw
     case rel => exact ⟨0 + 1, by omega, by go_num, R⟩
     case measure => simp [intOf]; omega
    ·obtain ⟨q', hq'⟩ : ∃ q', q = q' + 1 := ⟨q - 1, by omega⟩
     have HQ := Shut.mk hq'
     have hqN' : q' < l.length := by omega
     have hw1 : IntKind.i64.wrap ((q : Int) - 1) = (q' : Int) := by rw [IntKind.wrap_i64]; omega
     have hqi : (0 : Int) < (q : Int) := by omega
     have hq0 : (0 : Int) ≤ (q' : Int) := by omega
     have hqn : (q' : Int) < (n : Int) := by omega
     have hpr : prevH (l.map MKp.k) q = some l[q'].k.h := by rw [hq']; simp [prevH, hqN']
     have hX : ∀ u : Above W2, Lies u.w (some ⟨b1, o1, none⟩) (kpCells l) ∧ l[q']? = some l[q'] := fun u => ⟨HX.out.2.1.below (hB.trans ((hB2.trans (u.below.mono hB2.size)).mono hB.size)) (Nat.le_refl _), List.getElem?_eq_getElem hqN'⟩
     have HS3 : Shut (Z = if ¬ l[q'].k.h.ahead Y.k.h = true then 6 else keptFrom me tm sq (prevH (l.map MKp.k) (q + 1)) ((l.map MKp.k).drop (q + 1))) := ⟨by rw [HS2.out, hpr]; rfl⟩
     generalize l[q'] = X at *
     have x0 : ∀ u : Above W2, u.w.cell? ⟨b1, o1 + q' * 16, none⟩ = some (.int .i64 X.k.h.F) := fun u => kp_cell (hX u) 0 rfl
     have x1 : ∀ u : Above W2, u.w.cell? ⟨b1, o1 + q' * 16 + 1, none⟩ = some (.int .i64 X.k.h.Q) := fun u => kp_cell (hX u) 1 rfl
     have x2 : ∀ u : Above W2, u.w.cell? ⟨b1, o1 + q' * 16 + 2, none⟩ = some (.int .i64 X.k.h.T) := fun u => kp_cell (hX u) 2 rfl
     have x3 : ∀ u : Above W2, u.w.cell? ⟨b1, o1 + q' * 16 + 3, none⟩ = some (.int .i64 X.k.h.L) := fun u => kp_cell (hX u) 3 rfl
     have x4 : ∀ u : Above W2, u.w.cell? ⟨b1, o1 + q' * 16 + 4, none⟩ = some (.int .i64 X.k.h.B) := fun u => kp_cell (hX u) 4 rfl
     have x5 : ∀ u : Above W2, u.w.cell? ⟨b1, o1 + q' * 16 + 5, none⟩ = some (.int .i64 X.k.h.K) := fun u => kp_cell (hX u) 5 rfl
     have y0 : ∀ u : Above W2, u.w.cell? ⟨wr.heap.size, 0, none⟩ = some (.int .i64 Y.k.h.F) := fun u => Above.cell (cellB hk2 0 _ rfl) u
     have y1 : ∀ u : Above W2, u.w.cell? ⟨wr.heap.size, 1, none⟩ = some (.int .i64 Y.k.h.Q) := fun u => Above.cell (cellB hk2 1 _ rfl) u
     have y2 : ∀ u : Above W2, u.w.cell? ⟨wr.heap.size, 2, none⟩ = some (.int .i64 Y.k.h.T) := fun u => Above.cell (cellB hk2 2 _ rfl) u
     have y3 : ∀ u : Above W2, u.w.cell? ⟨wr.heap.size, 3, none⟩ = some (.int .i64 Y.k.h.L) := fun u => Above.cell (cellB hk2 3 _ rfl) u
     have y4 : ∀ u : Above W2, u.w.cell? ⟨wr.heap.size, 4, none⟩ = some (.int .i64 Y.k.h.B) := fun u => Above.cell (cellB hk2 4 _ rfl) u
     have y5 : ∀ u : Above W2, u.w.cell? ⟨wr.heap.size, 5, none⟩ = some (.int .i64 Y.k.h.K) := fun u => Above.cell (cellB hk2 5 _ rfl) u
     have z1 : ∀ u : Above W2, u.w.cell? ⟨w.heap.size, 1, none⟩ = some (.slice (some ⟨b1, o1, none⟩) n pc) := fun u => Above.cell (cellB hp2 1 _ rfl) u
     obtain ⟨a, ha⟩ : ∃ a, X.k.h.ahead Y.k.h = a := ⟨_, rfl⟩
     have cA : ∀ u : Above W2, Calls Tryz.prog 61 #[.agg #[.int .i64 X.k.h.F, .int .i64 X.k.h.Q, .int .i64 X.k.h.T, .int .i64 X.k.h.L, .int .i64 X.k.h.B, .int .i64 X.k.h.K], .agg #[.int .i64 Y.k.h.F, .int .i64 Y.k.h.Q, .int .i64 Y.k.h.T, .int .i64 Y.k.h.L, .int .i64 Y.k.h.B, .int .i64 Y.k.h.K]] u.w fun e w' => e = .returned (.bool a) ∧ Below u.w.heap.size u.w w' := fun u => by
      have h := ahead_any X.k.h Y.k.h u.w
      rw [ha] at h
      exact h
     rw [ha] at HS3
     clear hX hpr HS2 ha hk2 hp2 hq'
     go_upto_region 13 with fail
     refine wp_region_above (by kernel_rfl) (by kernel_rfl) ?_
     iterate 15 (go_big_quiet_step (first | rfl | (go_at_call 61; exact Calls.above (cA _))))
     refine wpQuiet_nil ?_
     rintro _ ⟨u, rfl⟩
     have hB3 := hB2.trans (u.below.mono hB2.size)
     clear cA x0 x1 x2 x3 x4 x5 y0 y1 y2 y3 y4 y5 z1 hB2
     generalize u.w = W3 at *
     cases a
     ·have R : Shut (Z = 6 ∧ Below w.heap.size w W3) := ⟨by rw [HS3.out, if_pos (by simp)], hB.trans (hB3.mono hB.size)⟩
      clear HS3 hB3
      go_wp2
      go_ret
      exact ⟨by rw [R.out.1]; rfl, R.out.2⟩
     ·have R : Shut (Below W.heap.size W W3 ∧ Z = keptFrom me tm sq (prevH (l.map MKp.k) (q + 1)) ((l.map MKp.k).drop (q + 1))) := ⟨hB3, by rw [HS3.out, if_neg (by simp)]⟩
      clear HS3 hB3
      go_wp2
      go_roundw
      case rel => exact ⟨q + 1, by omega, by go_num, R⟩
      case measure => simp [intOf]; omega
   ·have bz : (z != 0) = true := by simpa using hz0
    have R : Shut (Z = z ∧ Below w.heap.size w W2) := ⟨by rw [HS.out, if_pos hz0], hB.trans (hB2.mono hB.size)⟩
    clear hz0 HS hk2 hp2 hB2
    go_wp2
    go_ret
    exact ⟨by rw [R.out.1]; rfl, R.out.2⟩
  ·have R : Shut (Z = 0 ∧ Below w.heap.size w wr) := ⟨by rw [HN.out.2, List.drop_eq_nil_of_le (by rw [List.length_map, HX.out.1]; omega)]; rfl, hB.trans (hbr.mono hB.size)⟩
   clear HN
   go_wp2
   go_ret
   exact ⟨by rw [R.out.1]; rfl, R.out.2⟩

theorem idxP_findIdx {α : Type} (D : α → Bool) (l : List α) : idxP D l = match l.findIdx? D with
  | none => -1
  | some i => (i : Int) := by
 unfold idxP
 by_cases h : l.findIdx D < l.length
 ·rw [if_pos h]
  have : l.findIdx? D = some (l.findIdx D) := by
   rw [List.findIdx?_eq_some_iff_getElem]
   exact ⟨h, List.findIdx_getElem (w := h), fun j hj => by have := List.not_of_lt_findIdx hj; simpa using this⟩
  rw [this]
 ·rw [if_neg h]
  have : l.findIdx? D = none := by
   rw [List.findIdx?_eq_none_iff]
   intro x hx
   cases e : D x
   ·rfl
   ·exact absurd (List.findIdx_lt_length_of_exists ⟨x, hx, e⟩) h
  rw [this]

theorem findI_idx (l : List MKp) (f q : Int) : findI (l.map MKp.k) f q = idxP (fun Y : MKp => Y.k.h.F == f && Y.k.h.Q == q) l := by
 rw [idxP_findIdx, findI, findL, List.findIdx?_map]
 rfl

theorem find1_any (Y : MKp) (f s : Int) (g1 g2 : Nat) (w : World) (h1 : w.cell? ⟨g1, 0, none⟩ = some (.int .i64 f)) (h2 : w.cell? ⟨g2, 0, none⟩ = some (.int .i64 s)) :
  Calls Tryz.prog 58 #[.agg #[.int .i64 Y.k.h.F, .int .i64 Y.k.h.Q, .int .i64 Y.k.h.T, .int .i64 Y.k.h.L, .int .i64 Y.k.h.B, .int .i64 Y.k.h.K, .bool Y.k.own, .slice Y.ca Y.k.c.length Y.cc, .slice Y.ya Y.ys.length Y.yc, .int .i64 Y.k.sh, .int .i64 Y.k.gv, .int .i64 Y.k.tw, .int .i64 Y.k.tr, .slice Y.ta Y.k.tk.length Y.tc, .bool Y.k.dl, .bool Y.k.pg], .pointer (some ⟨g1, 0, none⟩), .pointer (some ⟨g2, 0, none⟩)] w fun e w' => e = .returned (.bool (Y.k.h.F == f && Y.k.h.Q == s)) ∧ Below w.heap.size w w' := by
 obtain ⟨W, hW⟩ : ∃ W, w.alloc (.cells #[.int .i64 Y.k.h.F, .int .i64 Y.k.h.Q, .int .i64 Y.k.h.T, .int .i64 Y.k.h.L, .int .i64 Y.k.h.B, .int .i64 Y.k.h.K, .bool Y.k.own, .slice Y.ca Y.k.c.length Y.cc, .slice Y.ya Y.ys.length Y.yc, .int .i64 Y.k.sh, .int .i64 Y.k.gv, .int .i64 Y.k.tw, .int .i64 Y.k.tr, .slice Y.ta Y.k.tk.length Y.tc, .bool Y.k.dl, .bool Y.k.pg] 88) = W := ⟨_, rfl⟩
 have hB : Below w.heap.size w W := by rw [← hW]; exact (Below.refl _ _).alloc (Nat.le_refl _) _
 have hk : W.heap[w.heap.size]? = some (.cells #[.int .i64 Y.k.h.F, .int .i64 Y.k.h.Q, .int .i64 Y.k.h.T, .int .i64 Y.k.h.L, .int .i64 Y.k.h.B, .int .i64 Y.k.h.K, .bool Y.k.own, .slice Y.ca Y.k.c.length Y.cc, .slice Y.ya Y.ys.length Y.yc, .int .i64 Y.k.sh, .int .i64 Y.k.gv, .int .i64 Y.k.tw, .int .i64 Y.k.tr, .slice Y.ta Y.k.tk.length Y.tc, .bool Y.k.dl, .bool Y.k.pg] 88 (0, 0)) := by rw [← hW, heap_alloc_eq, if_pos rfl]
 have q0 : W.cell? ⟨w.heap.size, 0, none⟩ = some (.int .i64 Y.k.h.F) := cellB hk 0 _ rfl
 have q1 : W.cell? ⟨w.heap.size, 1, none⟩ = some (.int .i64 Y.k.h.Q) := cellB hk 1 _ rfl
 have z1 := cellW h1 hB
 have z2 := cellW h2 hB
 obtain ⟨R, hR⟩ : ∃ R, (Y.k.h.F == f && Y.k.h.Q == s) = R := ⟨_, rfl⟩
 rw [hR]
 have HR := Shut.mk hR
 have HW := Shut.mk hW
 clear hR hW hk h1 h2
 go_enter Tryz.func58, Tryz.ntmps58
 go_upto_region 1 with fail
 rw [HW.out]
 clear HW
 go_wp2
 all_goals
  go_ret
  refine ⟨?_, hB⟩
  rw [← HR.out]
  simp_all

theorem entersFind1 : ∀ args w, (callFunc 58 args).run Tryz.prog w = .ok (.enter 58 args) w := enters_of Tryz.func58 (by kernel_rfl) rfl

set_option maxHeartbeats 2000000 in
set_option maxRecDepth 4000 in
theorem indexKp (p : Option Addr) (cp : Nat) (l : List MKp) (f s : Int) (g1 g2 : Nat) (w : World) (hl : Lies w p (kpCells l)) (hm : l.length ≤ maxLen) (hg1 : w.cell? ⟨g1, 0, none⟩ = some (.int .i64 f)) (hg2 : w.cell? ⟨g2, 0, none⟩ = some (.int .i64 s)) :
  Calls Tryz.prog 57 #[.slice p l.length cp, .func (.func 58) #[] #[.pointer (some ⟨g1, 0, none⟩), .pointer (some ⟨g2, 0, none⟩)]] w fun e w' => e = .returned (.int .i64 (findI (l.map MKp.k) f s)) ∧ Below w.heap.size w w' := by
 have eg := entersFind1
 rw [findI_idx]
 obtain ⟨D, hD⟩ : ∃ D : MKp → Bool, (fun Y : MKp => Y.k.h.F == f && Y.k.h.Q == s) = D := ⟨_, rfl⟩
 rw [hD]
 obtain ⟨n, hn⟩ : ∃ n, l.length = n := ⟨_, rfl⟩
 have HX := Shut.mk (And.intro hn (And.intro hl (And.intro hD (And.intro hg1 hg2))))
 rw [hn] at hm ⊢
 unfold maxLen at hm
 clear hl hn hD hg1 hg2
 go_enter Tryz.func57, Tryz.ntmps57
 go_wp2
 go_loopw [8] (fun i wr => ∃ q : Nat, q ≤ n ∧ i = .int .i64 q ∧ Shut (Below w.heap.size w wr ∧ ∀ j (hj : j < l.length), j < q → D l[j] = false)) (fun i _ => n - (intOf i).toNat)
 case atStart => exact ⟨0, Nat.zero_le _, rfl, ⟨Below.refl _ _, fun j _ hj => by omega⟩⟩
 case round =>
  obtain ⟨q, hq, rfl, HN⟩ := hrel
  by_cases hlt : q < n
  ·have hqN : q < l.length := by rw [HX.out.1]; exact hlt
   have hbr := HN.out.1
   have hlr := HX.out.2.1.below hbr (Nat.le_refl _)
   obtain ⟨b1, o1, rfl⟩ := hlr.some (k := 16 * q) (by rw [kpCells_length]; omega)
   have h1 : Lies wr (some ⟨b1, o1, none⟩) (kpCells l) ∧ l[q]? = some l[q] := ⟨hlr, List.getElem?_eq_getElem hqN⟩
   have hV : D l[q] = (l[q].k.h.F == f && l[q].k.h.Q == s) := by rw [← HX.out.2.2.1]
   have HT : Shut (D l[q] = true → idxP D l = q) := ⟨fun h => idxP_at hqN h fun j hj => HN.out.2 j (by omega) hj⟩
   have HF : Shut (D l[q] = false → ∀ j (hj : j < l.length), j < q + 1 → D l[j] = false) := ⟨fun h j hj hjq => by
    by_cases e : j = q
    ·subst e; exact h
    ·exact HN.out.2 j hj (by omega)⟩
   have hC := find1_any l[q] f s g1 g2 wr (cellW HX.out.2.2.2.1 hbr) (cellW HX.out.2.2.2.2 hbr)
   rw [← hV] at hC
   generalize D l[q] = b at *
   generalize l[q] = Y at *
   have t0 : wr.cell? ⟨b1, o1 + q * 16, none⟩ = some (.int .i64 Y.k.h.F) := kp_cell h1 0 rfl
   have t1 : wr.cell? ⟨b1, o1 + q * 16 + 1, none⟩ = some (.int .i64 Y.k.h.Q) := kp_cell h1 1 rfl
   have t2 : wr.cell? ⟨b1, o1 + q * 16 + 2, none⟩ = some (.int .i64 Y.k.h.T) := kp_cell h1 2 rfl
   have t3 : wr.cell? ⟨b1, o1 + q * 16 + 3, none⟩ = some (.int .i64 Y.k.h.L) := kp_cell h1 3 rfl
   have t4 : wr.cell? ⟨b1, o1 + q * 16 + 4, none⟩ = some (.int .i64 Y.k.h.B) := kp_cell h1 4 rfl
   have t5 : wr.cell? ⟨b1, o1 + q * 16 + 5, none⟩ = some (.int .i64 Y.k.h.K) := kp_cell h1 5 rfl
   have t6 : wr.cell? ⟨b1, o1 + q * 16 + 6, none⟩ = some (.bool Y.k.own) := kp_cell h1 6 rfl
   have t7 : wr.cell? ⟨b1, o1 + q * 16 + 7, none⟩ = some (.slice Y.ca Y.k.c.length Y.cc) := kp_cell h1 7 rfl
   have t8 : wr.cell? ⟨b1, o1 + q * 16 + 8, none⟩ = some (.slice Y.ya Y.ys.length Y.yc) := kp_cell h1 8 rfl
   have t9 : wr.cell? ⟨b1, o1 + q * 16 + 9, none⟩ = some (.int .i64 Y.k.sh) := kp_cell h1 9 rfl
   have t10 : wr.cell? ⟨b1, o1 + q * 16 + 10, none⟩ = some (.int .i64 Y.k.gv) := kp_cell h1 10 rfl
   have t11 : wr.cell? ⟨b1, o1 + q * 16 + 11, none⟩ = some (.int .i64 Y.k.tw) := kp_cell h1 11 rfl
   have t12 : wr.cell? ⟨b1, o1 + q * 16 + 12, none⟩ = some (.int .i64 Y.k.tr) := kp_cell h1 12 rfl
   have t13 : wr.cell? ⟨b1, o1 + q * 16 + 13, none⟩ = some (.slice Y.ta Y.k.tk.length Y.tc) := kp_cell h1 13 rfl
   have t14 : wr.cell? ⟨b1, o1 + q * 16 + 14, none⟩ = some (.bool Y.k.dl) := kp_cell h1 14 rfl
   have t15 : wr.cell? ⟨b1, o1 + q * 16 + 15, none⟩ = some (.bool Y.k.pg) := kp_cell h1 15 rfl
   clear HN hV hlr h1
   go_wp2_with fail
   refine hC.mono ?_
   rintro e w2 ⟨rfl, hb⟩
   have hB2 := hbr.trans (hb.mono hbr.size)
   clear hC hb t0 t1 t2 t3 t4 t5 t6 t7 t8 t9 t10 t11 t12 t13 t14 t15
   cases b
   ·have HN2 := Shut.mk (And.intro hB2 (HF.out rfl))
    clear HF HT hB2
    go_wp2
    go_roundw
    case rel => exact ⟨q + 1, by omega, by go_num, HN2⟩
    case measure => simp [intOf]; omega
   ·have HR := Shut.mk (HT.out rfl)
    clear HF HT
    go_wp2
    go_ret
    exact ⟨ret_int HR.out.symm, hB2⟩
  ·have HR : Shut (idxP D l = -1) := ⟨idxP_none fun j hj => HN.out.2 j hj (by have := HX.out.1; omega)⟩
   have hbr := HN.out.1
   clear HN
   go_wp2
   go_ret
   exact ⟨ret_int HR.out.symm, hbr⟩

theorem find_any (me tm sq : Int) (pa : Option Addr) (pc : Nat) (l : List MKp) (f s : Int) (w : World) (hl : Lies w pa (kpCells l)) (hm : l.length ≤ maxLen) :
  Calls Tryz.prog 32 #[.agg #[.int .i64 me, .slice pa l.length pc, .int .i64 tm, .int .i64 sq], .int .i64 f, .int .i64 s] w fun e w' => e = .returned (.int .i64 (findI (l.map MKp.k) f s)) ∧ Below w.heap.size w w' := by
 obtain ⟨W, hW⟩ : ∃ W, ((w.alloc (.cells #[.int .i64 me, .slice pa l.length pc, .int .i64 tm, .int .i64 sq] 25)).alloc (.cells #[.int .i64 f] 3)).alloc (.cells #[.int .i64 s] 3) = W := ⟨_, rfl⟩
 have hB : Below w.heap.size w W := by rw [← hW]; exact (((Below.refl _ _).alloc (Nat.le_refl _) _).alloc (by simp) _).alloc (by simp; omega) _
 have hp : W.heap[w.heap.size]? = some (.cells #[.int .i64 me, .slice pa l.length pc, .int .i64 tm, .int .i64 sq] 25 (0, 0)) := by rw [← hW, heap_alloc_eq, if_neg (by simp; omega), heap_alloc_eq, if_neg (by simp), heap_alloc_eq, if_pos rfl]
 have hf : W.heap[w.heap.size + 1]? = some (.cells #[.int .i64 f] 3 (0, 0)) := by rw [← hW, heap_alloc_eq, if_neg (by simp), heap_alloc_eq, if_pos (by simp)]
 have hs : W.heap[w.heap.size + 1 + 1]? = some (.cells #[.int .i64 s] 3 (0, 0)) := by rw [← hW, heap_alloc_eq, if_pos (by simp)]
 have p1 : W.cell? ⟨w.heap.size, 1, none⟩ = some (.slice pa l.length pc) := cellB hp 1 _ rfl
 have hI := indexKp pa pc l f s (w.heap.size + 1) (w.heap.size + 1 + 1) W (hl.below hB (Nat.le_refl _)) hm (cellB hf 0 _ rfl) (cellB hs 0 _ rfl)
 obtain ⟨z, hz⟩ : ∃ z, findI (l.map MKp.k) f s = z := ⟨_, rfl⟩
 rw [hz] at hI ⊢
 have HW := Shut.mk hW
 clear hW hp hf hs hz hl
 go_enter Tryz.func32, Tryz.ntmps32
 go_upto_region 1 with fail
 rw [HW.out]
 clear HW
 go_wp2_with fail
 refine hI.mono ?_
 rintro e w2 ⟨rfl, hb⟩
 have hB2 := hB.trans (hb.mono hB.size)
 clear hI
 go_wp2
 go_ret
 exact ⟨rfl, hB2⟩

end Go.Proofs.YtakkajjoeimkdaaGreatDoor
