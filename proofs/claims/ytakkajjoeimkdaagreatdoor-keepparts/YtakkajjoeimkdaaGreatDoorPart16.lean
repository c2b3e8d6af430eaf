import Derived.Test.YtakkajjoeimkdaaGreatDoorPart15
import Derived.Laws.StructEq
import Derived.Shelf.Abstract
import Derived.Test.YtakkajjoeimkdaaGreatDoorPart5
namespace Go.Proofs.YtakkajjoeimkdaaGreatDoor
open Go.RowKit
set_option linter.unusedVariables false
set_option linter.unusedSimpArgs false

def sharesC (me sh gv tw tr : Int) : Int :=
 if ¬ ((0 ≤ sh ∧ sh ≤ 64) ∧ (0 ≤ gv ∧ gv ≤ 64) ∧ (0 ≤ tw ∧ tw ≤ 3) ∧ (0 ≤ tr ∧ tr ≤ 9999)) then 3
 else if (gv = 0 ∧ tw ≠ 0) ∨ (gv ≠ 0 ∧ (tw = me ∨ tr = 0)) then 4 else 0

set_option maxHeartbeats 4000000 in
theorem shares0 (me : Int) (F Q T L B K : Int) (own : Bool) (ca : Option Addr) (cn cc : Nat) (ya : Option Addr) (yn yc : Nat) (sh gv tw tr : Int) (ta : Option Addr) (tn tc : Nat) (dl pg : Bool) (w : World) :
  Calls Tryz.prog 97 #[.int .i64 me, .agg #[.int .i64 F, .int .i64 Q, .int .i64 T, .int .i64 L, .int .i64 B, .int .i64 K, .bool own, .slice ca cn cc, .slice ya yn yc, .int .i64 sh, .int .i64 gv, .int .i64 tw, .int .i64 tr, .slice ta tn tc, .bool dl, .bool pg]] w fun e w' => e = .returned (.int .i64 (sharesC me sh gv tw tr)) ∧ Below w.heap.size w w' := by
 obtain ⟨W, hW⟩ : ∃ W, w.alloc (.cells #[.int .i64 F, .int .i64 Q, .int .i64 T, .int .i64 L, .int .i64 B, .int .i64 K, .bool own, .slice ca cn cc, .slice ya yn yc, .int .i64 sh, .int .i64 gv, .int .i64 tw, .int .i64 tr, .slice ta tn tc, .bool dl, .bool pg] 88) = W := ⟨_, rfl⟩
 have hB : Below w.heap.size w W := by rw [← hW]; exact (Below.refl _ _).alloc (Nat.le_refl _) _
 have hk : W.heap[w.heap.size]? = some (.cells #[.int .i64 F, .int .i64 Q, .int .i64 T, .int .i64 L, .int .i64 B, .int .i64 K, .bool own, .slice ca cn cc, .slice ya yn yc, .int .i64 sh, .int .i64 gv, .int .i64 tw, .int .i64 tr, .slice ta tn tc, .bool dl, .bool pg] 88 (0, 0)) := by rw [← hW, heap_alloc_eq, if_pos rfl]
 obtain ⟨q0, q1, q2, q3, q4, q5, q6, q7, q8, q9, q10, q11, q12, q13, q14, q15⟩ := bx16 hk
 clear hk
 obtain ⟨R, hR⟩ : ∃ R, sharesC me sh gv tw tr = R := ⟨_, rfl⟩
 rw [hR]
 have HR := Shut.mk hR
 have HW := Shut.mk hW
 clear hR hW
 have g1 := kwithin_any sh 0 64 W
 have g2 := kwithin_any gv 0 64 W
 have g3 := kwithin_any tw 0 3 W
 have g4 := kwithin_any tr 0 9999 W
 by_cases h1 : 0 ≤ sh ∧ sh ≤ 64
 ·rw [decide_eq_true h1] at g1
  by_cases h2 : 0 ≤ gv ∧ gv ≤ 64
  ·rw [decide_eq_true h2] at g2
   by_cases h3 : 0 ≤ tw ∧ tw ≤ 3
   ·rw [decide_eq_true h3] at g3
    by_cases h4 : 0 ≤ tr ∧ tr ≤ 9999
    ·rw [decide_eq_true h4] at g4
     have HE : Shut (R = if (gv = 0 ∧ tw ≠ 0) ∨ (gv ≠ 0 ∧ (tw = me ∨ tr = 0)) then 4 else 0) := ⟨by rw [← HR.out, sharesC, if_neg (fun h => h ⟨h1, h2, h3, h4⟩)]⟩
     clear h1 h2 h3 h4
     go_enter Tryz.func97, Tryz.ntmps97
     go_upto_region 1 with fail
     rw [HW.out]
     clear HW
     go_wp2_with fail
     refine g1.mono ?_
     rintro e _ ⟨rfl, rfl⟩
     go_wp2_with fail
     refine g2.mono ?_
     rintro e _ ⟨rfl, rfl⟩
     go_wp2_with fail
     refine g3.mono ?_
     rintro e _ ⟨rfl, rfl⟩
     go_wp2_with fail
     refine g4.mono ?_
     rintro e _ ⟨rfl, rfl⟩
     clear g1 g2 g3 g4
     go_wp2
     all_goals
      go_ret
      refine ⟨?_, hB⟩
      rw [HE.out]
      first | simp_all | (simp_all; omega)
    ·rw [decide_eq_false h4] at g4
     have HE : Shut (R = 3) := ⟨by rw [← HR.out, sharesC, if_pos (fun h => h4 h.2.2.2)]⟩
     clear h1 h2 h3 h4
     go_enter Tryz.func97, Tryz.ntmps97
     go_upto_region 1 with fail
     rw [HW.out]
     clear HW
     go_wp2_with fail
     refine g1.mono ?_
     rintro e _ ⟨rfl, rfl⟩
     go_wp2_with fail
     refine g2.mono ?_
     rintro e _ ⟨rfl, rfl⟩
     go_wp2_with fail
     refine g3.mono ?_
     rintro e _ ⟨rfl, rfl⟩
     go_wp2_with fail
     refine g4.mono ?_
     rintro e _ ⟨rfl, rfl⟩
     clear g1 g2 g3 g4
     go_wp2
     go_ret
     exact ⟨by rw [HE.out]; rfl, hB⟩
   ·rw [decide_eq_false h3] at g3
    have HE : Shut (R = 3) := ⟨by rw [← HR.out, sharesC, if_pos (fun h => h3 h.2.2.1)]⟩
    clear h1 h2 h3 g4
    go_enter Tryz.func97, Tryz.ntmps97
    go_upto_region 1 with fail
    rw [HW.out]
    clear HW
    go_wp2_with fail
    refine g1.mono ?_
    rintro e _ ⟨rfl, rfl⟩
    go_wp2_with fail
    refine g2.mono ?_
    rintro e _ ⟨rfl, rfl⟩
    go_wp2_with fail
    refine g3.mono ?_
    rintro e _ ⟨rfl, rfl⟩
    clear g1 g2 g3
    go_wp2
    go_ret
    exact ⟨by rw [HE.out]; rfl, hB⟩
  ·rw [decide_eq_false h2] at g2
   have HE : Shut (R = 3) := ⟨by rw [← HR.out, sharesC, if_pos (fun h => h2 h.2.1)]⟩
   clear h1 h2 g3 g4
   go_enter Tryz.func97, Tryz.ntmps97
   go_upto_region 1 with fail
   rw [HW.out]
   clear HW
   go_wp2_with fail
   refine g1.mono ?_
   rintro e _ ⟨rfl, rfl⟩
   go_wp2_with fail
   refine g2.mono ?_
   rintro e _ ⟨rfl, rfl⟩
   clear g1 g2
   go_wp2
   go_ret
   exact ⟨by rw [HE.out]; rfl, hB⟩
 ·rw [decide_eq_false h1] at g1
  have HE : Shut (R = 3) := ⟨by rw [← HR.out, sharesC, if_pos (fun h => h1 h.1)]⟩
  clear h1 g2 g3 g4
  go_enter Tryz.func97, Tryz.ntmps97
  go_upto_region 1 with fail
  rw [HW.out]
  clear HW
  go_wp2_with fail
  refine g1.mono ?_
  rintro e _ ⟨rfl, rfl⟩
  clear g1
  go_wp2
  go_ret
  exact ⟨by rw [HE.out]; rfl, hB⟩

def idxP {α : Type} (D : α → Bool) (l : List α) : Int := if l.findIdx D < l.length then (l.findIdx D : Nat) else -1

theorem idxP_at {α : Type} {D : α → Bool} {l : List α} {q : Nat} (hq : q < l.length) (ht : D l[q] = true) (hn : ∀ j (hj : j < q), D (l[j]'(by omega)) = false) : idxP D l = q := by
 have e : l.findIdx D = q := by
  rw [List.findIdx_eq hq]
  exact ⟨ht, fun j hj => by simpa using hn j hj⟩
 rw [idxP, e, if_pos hq]

theorem idxP_none {α : Type} {D : α → Bool} {l : List α} (hn : ∀ j (hj : j < l.length), D l[j] = false) : idxP D l = -1 := by
 rw [idxP, if_neg]
 intro hl
 have := List.findIdx_getElem (w := hl)
 rw [hn _ hl] at this
 simp at this

theorem idxP_any {α : Type} (D : α → Bool) (l : List α) : decide (0 ≤ idxP D l) = l.any D := by
 unfold idxP
 by_cases h : l.findIdx D < l.length
 ·rw [if_pos h]
  have h1 := List.findIdx_getElem (w := h)
  have : l.any D = true := List.any_eq_true.2 ⟨_, List.getElem_mem h, h1⟩
  rw [this]
  simp
 ·rw [if_neg h]
  have : l.any D = false := by
   rw [List.any_eq_false]
   intro x hx hd
   exact h (List.findIdx_lt_length_of_exists ⟨x, hx, hd⟩)
  rw [this]
  decide

theorem eqlTaken (a b c d : Int) (W : World) : (binOp .eql 149 (.agg #[.int .i64 a, .int .i64 b]) (.agg #[.int .i64 c, .int .i64 d])).run Tryz.prog W = .ok (.bool (decide (a = c ∧ b = d))) W := by
 have hs : Tryz.prog.underlying 149 = some (.struct (Tryz.prog.fieldsOf 149)) := by kernel_rfl
 have hp : Tryz.prog.stoodInHeld 149 = false := by kernel_rfl
 have hi := Tryz.underlying3
 rw [run_eql_struct, run_equalIn_agg W 9999 _ _ _ hs hp]
 have hE : ∀ (x y : Int) (w : World) (d : Nat), (Op.equalIn (d + 1) 3 (.int .i64 x) (.int .i64 y)).run Tryz.prog w = .ok (x == y) w := fun x y w d => run_equalIn_int w d 3 .i64 .i64 x y hi
 simp only [Program.fieldsOf, Tryz.underlying149]
 simp [Op.eqFields, go_sem, hE]
 by_cases h1 : a = c <;> by_cases h2 : b = d <;> simp [h1, h2]

theorem tk_cell {w : World} {b o k : Nat} {l : List (Int × Int)} (h : Lies w (some ⟨b, o, none⟩) (tkCells l)) (hk : k < l.length) : w.cell? ⟨b, o + k * 2, none⟩ = some (.int .i64 l[k].1) ∧ w.cell? ⟨b, o + k * 2 + 1, none⟩ = some (.int .i64 l[k].2) := by
 obtain ⟨h1, h2⟩ := tkCells_get hk
 have g1 := h.at h1
 have g2 := h.at h2
 rw [Nat.mul_comm k 2]
 exact ⟨g1, by rw [Nat.add_assoc]; exact g2⟩

set_option maxHeartbeats 1000000 in
theorem indexTk (p : Option Addr) (cp : Nat) (l : List (Int × Int)) (x y : Int) (w : World) (hl : Lies w p (tkCells l)) (hm : l.length ≤ maxLen) :
  Calls Tryz.prog 137 #[.slice p l.length cp, .agg #[.int .i64 x, .int .i64 y]] w fun e w' => e = .returned (.int .i64 (idxP (fun t => decide (x = t.1 ∧ y = t.2)) l)) ∧ Below w.heap.size w w' := by
 obtain ⟨W, hW⟩ : ∃ W, w.alloc (.cells #[.int .i64 x, .int .i64 y] 149) = W := ⟨_, rfl⟩
 have hB : Below w.heap.size w W := by rw [← hW]; exact (Below.refl _ _).alloc (Nat.le_refl _) _
 have hk : W.heap[w.heap.size]? = some (.cells #[.int .i64 x, .int .i64 y] 149 (0, 0)) := by rw [← hW, heap_alloc_eq, if_pos rfl]
 have c0 : W.cell? ⟨w.heap.size, 0, none⟩ = some (.int .i64 x) := cellB hk 0 _ rfl
 have c1 : W.cell? ⟨w.heap.size, 1, none⟩ = some (.int .i64 y) := cellB hk 1 _ rfl
 have hlW := hl.below hB (Nat.le_refl _)
 obtain ⟨D, hD⟩ : ∃ D : Int × Int → Bool, (fun t => decide (x = t.1 ∧ y = t.2)) = D := ⟨_, rfl⟩
 rw [hD]
 obtain ⟨n, hn⟩ : ∃ n, l.length = n := ⟨_, rfl⟩
 have HX := Shut.mk (And.intro hn (And.intro hlW hD))
 have HW := Shut.mk hW
 rw [hn] at hm ⊢
 unfold maxLen at hm
 clear hl hk hn hD hW hlW
 go_enter Tryz.func137, Tryz.ntmps137
 go_upto_region 1 with fail
 rw [HW.out]
 clear HW
 go_wp2
 go_loopw [8] (fun i wr => ∃ q nq : Nat, q ≤ n ∧ i = .int .i64 q ∧ wr = W.drewN nq ∧ Shut (∀ j (hj : j < l.length), j < q → D l[j] = false)) (fun i _ => n - (intOf i).toNat)
 case atStart => exact ⟨0, 0, Nat.zero_le _, rfl, rfl, ⟨fun j _ hj => by omega⟩⟩
 case round =>
  obtain ⟨q, nq, hq, rfl, rfl, HN⟩ := hrel
  by_cases hlt : q < n
  ·have hqN : q < l.length := by rw [HX.out.1]; exact hlt
   obtain ⟨b1, o1, rfl⟩ := HX.out.2.1.some (k := 2 * q) (by rw [tkCells_length]; omega)
   obtain ⟨t0, t1⟩ := tk_cell HX.out.2.1 hqN
   have hV : D l[q] = decide (x = l[q].1 ∧ y = l[q].2) := by rw [← HX.out.2.2]
   have HT : Shut (D l[q] = true → idxP D l = q) := ⟨fun h => idxP_at hqN h fun j hj => HN.out j (by omega) hj⟩
   have HF : Shut (D l[q] = false → ∀ j (hj : j < l.length), j < q + 1 → D l[j] = false) := ⟨fun h j hj hjq => by
    by_cases e : j = q
    ·subst e; exact h
    ·exact HN.out j hj (by omega)⟩
   have hE : ∀ W', (binOp .eql 149 (.agg #[.int .i64 x, .int .i64 y]) (.agg #[.int .i64 l[q].1, .int .i64 l[q].2])).run Tryz.prog W' = .ok (.bool (D l[q])) W' := fun W' => by rw [hV]; exact eqlTaken _ _ _ _ W'
   generalize D l[q] = b at *
   generalize l[q].1 = u1 at *
   generalize l[q].2 = u2 at *
   clear HN hV
   go_wp2
   go_quiet (fail)
   cases b
   ·have HN2 := Shut.mk (HF.out rfl)
    clear HF HT
    go_wp2
    go_roundw
    case rel => exact ⟨q + 1, _, by omega, by go_num, rfl, HN2⟩
    case measure => simp [intOf]; omega
   ·have HR := Shut.mk (HT.out rfl)
    clear HF HT
    go_wp2
    go_ret
    exact ⟨ret_int HR.out.symm, hB.trans (((bdn W _ W.heap.size).trans (bdn (W.drewN _) _ W.heap.size)).mono hB.size)⟩
  ·have HR : Shut (idxP D l = -1) := ⟨idxP_none fun j hj => HN.out j hj (by have := HX.out.1; omega)⟩
   clear HN
   go_wp2
   go_ret
   exact ⟨ret_int HR.out.symm, hB.trans ((bdn W _ _).mono hB.size)⟩

theorem containsTk (p : Option Addr) (cp : Nat) (l : List (Int × Int)) (x y : Int) (w : World) (hl : Lies w p (tkCells l)) (hm : l.length ≤ maxLen) :
  Calls Tryz.prog 112 #[.slice p l.length cp, .agg #[.int .i64 x, .int .i64 y]] w fun e w' => e = .returned (.bool (decide ((x, y) ∈ l))) ∧ Below w.heap.size w w' := by
 obtain ⟨W, hW⟩ : ∃ W, w.alloc (.cells #[.int .i64 x, .int .i64 y] 149) = W := ⟨_, rfl⟩
 have hB : Below w.heap.size w W := by rw [← hW]; exact (Below.refl _ _).alloc (Nat.le_refl _) _
 have hk : W.heap[w.heap.size]? = some (.cells #[.int .i64 x, .int .i64 y] 149 (0, 0)) := by rw [← hW, heap_alloc_eq, if_pos rfl]
 have c0 : W.cell? ⟨w.heap.size, 0, none⟩ = some (.int .i64 x) := cellB hk 0 _ rfl
 have c1 : W.cell? ⟨w.heap.size, 1, none⟩ = some (.int .i64 y) := cellB hk 1 _ rfl
 have hI := indexTk p cp l x y W (hl.below hB (Nat.le_refl _)) hm
 have hA := idxP_any (fun t : Int × Int => decide (x = t.1 ∧ y = t.2)) l
 have hA2 : l.any (fun t : Int × Int => decide (x = t.1 ∧ y = t.2)) = decide ((x, y) ∈ l) := by
  cases e : l.any (fun t : Int × Int => decide (x = t.1 ∧ y = t.2))
  ·rw [List.any_eq_false] at e
   refine (decide_eq_false fun hm => ?_).symm
   exact e _ hm (by simp)
  ·obtain ⟨t, ht, hd⟩ := List.any_eq_true.1 e
   obtain ⟨h1, h2⟩ := of_decide_eq_true hd
   refine (decide_eq_true ?_).symm
   have : t = (x, y) := Prod.ext h1.symm h2.symm
   rw [← this]; exact ht
 rw [hA2] at hA
 obtain ⟨z, hz⟩ : ∃ z, idxP (fun t : Int × Int => decide (x = t.1 ∧ y = t.2)) l = z := ⟨_, rfl⟩
 rw [hz] at hI hA
 have HA := Shut.mk hA
 have HW := Shut.mk hW
 clear hA hA2 hk hz hW
 go_enter Tryz.func112, Tryz.ntmps112
 go_upto_region 1 with fail
 rw [HW.out]
 clear HW
 go_wp2_with fail
 refine hI.mono ?_
 rintro e w1 ⟨rfl, hb⟩
 have hB2 := hB.trans (hb.mono hB.size)
 clear hI hb c0 c1
 go_wp2
 go_ret
 exact ⟨by rw [← HA.out]; rfl, hB2⟩

theorem hasSym1 (id x : Int) (a : Option Addr) (n c g : Nat) (w : World) (hg : w.cell? ⟨g, 0, none⟩ = some (.int .i64 id)) :
  Calls Tryz.prog 132 #[.agg #[.int .i64 x, .slice a n c], .pointer (some ⟨g, 0, none⟩)] w fun e w' => e = .returned (.bool (x == id)) ∧ Below w.heap.size w w' := by
 have hB : Below w.heap.size w (w.alloc (.cells #[.int .i64 x, .slice a n c] 38)) := (Below.refl _ _).alloc (Nat.le_refl _) _
 have hgl := World.block_lt_of_cell? w _ hg
 have hg2 : (w.alloc (.cells #[.int .i64 x, .slice a n c] 38)).cell? ⟨g, 0, none⟩ = some (.int .i64 id) := cellW hg hB
 go_enter Tryz.func132, Tryz.ntmps132
 go_wp2
 go_ret
 exact ⟨rfl, hB⟩

theorem entersHas1 : ∀ args w, (callFunc 132 args).run Tryz.prog w = .ok (.enter 132 args) w := enters_of Tryz.func132 (by kernel_rfl) rfl

theorem sy_cell {w : World} {b o k : Nat} {l : List MSym} (h : Lies w (some ⟨b, o, none⟩) (symCells l)) (hk : k < l.length) : w.cell? ⟨b, o + k * 2, none⟩ = some (.int .i64 l[k].id) ∧ w.cell? ⟨b, o + k * 2 + 1, none⟩ = some (.slice l[k].a l[k].d.length l[k].c) := by
 obtain ⟨h1, h2⟩ := symCells_get hk
 have g1 := h.at h1
 have g2 := h.at h2
 rw [Nat.mul_comm k 2]
 exact ⟨g1, by rw [Nat.add_assoc]; exact g2⟩

set_option maxHeartbeats 1000000 in
theorem indexSym (p : Option Addr) (cp : Nat) (l : List MSym) (id : Int) (g : Nat) (w : World) (hl : Lies w p (symCells l)) (hm : l.length ≤ maxLen) (hg : w.cell? ⟨g, 0, none⟩ = some (.int .i64 id)) :
  Calls Tryz.prog 158 #[.slice p l.length cp, .func (.func 132) #[] #[.pointer (some ⟨g, 0, none⟩)]] w fun e w' => e = .returned (.int .i64 (idxP (fun y => y.id == id) l)) ∧ Below w.heap.size w w' := by
 have eg := entersHas1
 obtain ⟨D, hD⟩ : ∃ D : MSym → Bool, (fun y => y.id == id) = D := ⟨_, rfl⟩
 rw [hD]
 obtain ⟨n, hn⟩ : ∃ n, l.length = n := ⟨_, rfl⟩
 have HX := Shut.mk (And.intro hn (And.intro hl (And.intro hD hg)))
 rw [hn] at hm ⊢
 unfold maxLen at hm
 clear hl hn hD hg
 go_enter Tryz.func158, Tryz.ntmps158
 go_wp2
 go_loopw [8] (fun i wr => ∃ q : Nat, q ≤ n ∧ i = .int .i64 q ∧ Shut (Below w.heap.size w wr ∧ ∀ j (hj : j < l.length), j < q → D l[j] = false)) (fun i _ => n - (intOf i).toNat)
 case atStart => exact ⟨0, Nat.zero_le _, rfl, ⟨Below.refl _ _, fun j _ hj => by omega⟩⟩
 case round =>
  obtain ⟨q, hq, rfl, HN⟩ := hrel
  by_cases hlt : q < n
  ·have hqN : q < l.length := by rw [HX.out.1]; exact hlt
   have hbr := HN.out.1
   have hlr := HX.out.2.1.below hbr (Nat.le_refl _)
   obtain ⟨b1, o1, rfl⟩ := hlr.some (k := 2 * q) (by rw [symCells_length]; omega)
   obtain ⟨t0, t1⟩ := sy_cell hlr hqN
   have hV : D l[q] = (l[q].id == id) := by rw [← HX.out.2.2.1]
   have HT : Shut (D l[q] = true → idxP D l = q) := ⟨fun h => idxP_at hqN h fun j hj => HN.out.2 j (by omega) hj⟩
   have HF : Shut (D l[q] = false → ∀ j (hj : j < l.length), j < q + 1 → D l[j] = false) := ⟨fun h j hj hjq => by
    by_cases e : j = q
    ·subst e; exact h
    ·exact HN.out.2 j hj (by omega)⟩
   have hC := hasSym1 id l[q].id l[q].a l[q].d.length l[q].c g wr (cellW HX.out.2.2.2 hbr)
   rw [← hV] at hC
   generalize D l[q] = b at *
   generalize l[q] = Y at *
   clear HN hV hlr
   go_wp2_with fail
   refine hC.mono ?_
   rintro e w2 ⟨rfl, hb⟩
   have hB2 := hbr.trans (hb.mono hbr.size)
   clear hC hb t0 t1
   cases b
   ·have HN2 := Shut.mk (And.intro hB2 (HF.out rfl))
    clear HF HT hB2
    go_wp2
    go_roundw
    case rel => exact ⟨q + 1, by omega, by go_num, HN2⟩
    case measure => simp [intOf]; omega
   ·have HR := Shut.mk (HT.out rfl)
    clear HF HT
    go_wp2
    go_ret
    exact ⟨ret_int HR.out.symm, hB2⟩
  ·have HR : Shut (idxP D l = -1) := ⟨idxP_none fun j hj => HN.out.2 j hj (by have := HX.out.1; omega)⟩
   have hbr := HN.out.1
   clear HN
   go_wp2
   go_ret
   exact ⟨ret_int HR.out.symm, hbr⟩

theorem containsSym (p : Option Addr) (cp : Nat) (l : List MSym) (id : Int) (g : Nat) (w : World) (hl : Lies w p (symCells l)) (hm : l.length ≤ maxLen) (hg : w.cell? ⟨g, 0, none⟩ = some (.int .i64 id)) :
  Calls Tryz.prog 131 #[.slice p l.length cp, .func (.func 132) #[] #[.pointer (some ⟨g, 0, none⟩)]] w fun e w' => e = .returned (.bool (l.any fun y => y.id == id)) ∧ Below w.heap.size w w' := by
 have hI := indexSym p cp l id g w hl hm hg
 have hA := idxP_any (fun y : MSym => y.id == id) l
 obtain ⟨z, hz⟩ : ∃ z, idxP (fun y : MSym => y.id == id) l = z := ⟨_, rfl⟩
 obtain ⟨A, hAA⟩ : ∃ A, (l.any fun y : MSym => y.id == id) = A := ⟨_, rfl⟩
 rw [hz] at hI hA
 rw [hAA] at hA ⊢
 have HA := Shut.mk hA
 clear hA hz hAA hl hg
 go_enter Tryz.func131, Tryz.ntmps131
 go_wp2_with fail
 refine hI.mono ?_
 rintro e w1 ⟨rfl, hb⟩
 clear hI
 go_wp2
 go_ret
 exact ⟨by rw [← HA.out]; rfl, hb⟩

theorem hasSymbol_any (p : Option Addr) (cp : Nat) (l : List MSym) (id : Int) (w : World) (hl : Lies w p (symCells l)) (hm : l.length ≤ maxLen) :
  Calls Tryz.prog 110 #[.slice p l.length cp, .int .i64 id] w fun e w' => e = .returned (.bool ((l.map MSym.says).any fun y => y.1 == id)) ∧ Below w.heap.size w w' := by
 obtain ⟨W, hW⟩ : ∃ W, w.alloc (.cells #[.int .i64 id] 3) = W := ⟨_, rfl⟩
 have hB : Below w.heap.size w W := by rw [← hW]; exact (Below.refl _ _).alloc (Nat.le_refl _) _
 have hk : W.heap[w.heap.size]? = some (.cells #[.int .i64 id] 3 (0, 0)) := by rw [← hW, heap_alloc_eq, if_pos rfl]
 have c0 : W.cell? ⟨w.heap.size, 0, none⟩ = some (.int .i64 id) := cellB hk 0 _ rfl
 have hC := containsSym p cp l id w.heap.size W (hl.below hB (Nat.le_refl _)) hm c0
 have e : (l.any fun y => y.id == id) = (l.map MSym.says).any fun y => y.1 == id := by rw [List.any_map]; rfl
 rw [e] at hC
 have HW := Shut.mk hW
 clear hW hk e hl
 generalize ((l.map MSym.says).any fun y => y.1 == id) = A at *
 go_enter Tryz.func110, Tryz.ntmps110
 go_upto_region 1 with fail
 rw [HW.out]
 clear HW
 go_wp2_with fail
 refine hC.mono ?_
 rintro e w1 ⟨rfl, hb⟩
 have hB2 := hB.trans (hb.mono hB.size)
 clear hC
 go_wp2
 go_ret
 exact ⟨rfl, hB2⟩

theorem tkCells_take {w : World} {a : Option Addr} {l : List (Int × Int)} (h : Lies w a (tkCells l)) (q : Nat) : Lies w a (tkCells (l.take q)) := by
 intro k u hu
 refine h k u ?_
 have e : tkCells l = tkCells (l.take q) ++ tkCells (l.drop q) := by rw [← tkCells_append, List.take_append_drop]
 rw [e, List.getElem?_append_left (List.getElem?_eq_some_iff.1 hu).1]
 exact hu

theorem symCells_take {w : World} {a : Option Addr} {l : List MSym} (h : Lies w a (symCells l)) (q : Nat) : Lies w a (symCells (l.take q)) := by
 intro k u hu
 refine h k u ?_
 have e : symCells l = symCells (l.take q) ++ symCells (l.drop q) := by rw [← symCells_append, List.take_append_drop]
 rw [e, List.getElem?_append_left (List.getElem?_eq_some_iff.1 hu).1]
 exact hu

theorem entersContTk : ∀ args w, (callFunc 112 args).run Tryz.prog w = .ok (.enter 112 args) w := enters_of Tryz.func112 (by kernel_rfl) rfl

theorem took_step {l : List (Int × Int)} {q : Nat} (hq : q < l.length) : tookFrom (l.take q) (l.drop q) = if ¬ ((0 ≤ l[q].1 ∧ l[q].1 ≤ 3) ∧ (1 ≤ l[q].2 ∧ l[q].2 ≤ 9999)) then 3 else if (l[q].1, l[q].2) ∈ l.take q then 6 else tookFrom (l.take (q + 1)) (l.drop (q + 1)) := by
 rw [List.drop_eq_getElem_cons hq, tookFrom, List.take_append_getElem hq]

set_option maxHeartbeats 2000000 in
set_option maxRecDepth 4000 in
theorem checkTook_any (p : Option Addr) (cp : Nat) (l : List (Int × Int)) (w : World) (hl : Lies w p (tkCells l)) (hm : l.length ≤ maxLen) (hc : l.length ≤ cp) :
  Calls Tryz.prog 98 #[.slice p l.length cp] w fun e w' => e = .returned (.int .i64 (tookFrom [] l)) ∧ Below w.heap.size w w' := by
 obtain ⟨Z, hZ⟩ : ∃ Z, tookFrom [] l = Z := ⟨_, rfl⟩
 rw [hZ]
 obtain ⟨n, hn⟩ : ∃ n, l.length = n := ⟨_, rfl⟩
 have HX := Shut.mk (And.intro hn (And.intro hl hm))
 have HZ : Shut (Z = tookFrom (l.take 0) (l.drop 0)) := ⟨by rw [← hZ]; simp⟩
 rw [hn] at hm hc ⊢
 unfold maxLen at hm
 clear hl hn hZ
 go_enter Tryz.func98, Tryz.ntmps98
 go_wp2
 go_loopw [7] (fun i wr => ∃ q : Nat, q ≤ n ∧ i = .int .i64 q ∧ Shut (Below w.heap.size w wr ∧ Z = tookFrom (l.take q) (l.drop q))) (fun i _ => n - (intOf i).toNat)
 case atStart => exact ⟨0, Nat.zero_le _, rfl, ⟨Below.refl _ _, HZ.out⟩⟩
 case round =>
  clear HZ
  obtain ⟨q, hq, rfl, HN⟩ := hrel
  have hbr := HN.out.1
  by_cases hlt : q < n
  ·have hqN : q < l.length := by rw [HX.out.1]; exact hlt
   have hlr := HX.out.2.1.below hbr (Nat.le_refl _)
   obtain ⟨b1, o1, rfl⟩ := hlr.some (k := 2 * q) (by rw [tkCells_length]; omega)
   obtain ⟨t0, t1⟩ := tk_cell hlr hqN
   have HS : Shut (Z = if ¬ ((0 ≤ l[q].1 ∧ l[q].1 ≤ 3) ∧ (1 ≤ l[q].2 ∧ l[q].2 ≤ 9999)) then 3 else if (l[q].1, l[q].2) ∈ l.take q then 6 else tookFrom (l.take (q + 1)) (l.drop (q + 1))) := ⟨by rw [HN.out.2, took_step hqN]⟩
   generalize l[q].1 = x at *
   generalize l[q].2 = y at *
   have hqc : q ≤ cp := by omega
   clear HN hlr
   go_upto_region 4 with fail
   obtain ⟨W1, hW1⟩ : ∃ W1, wr.alloc (.cells #[.int .i64 x, .int .i64 y] 149) = W1 := ⟨_, rfl⟩
   rw [hW1]
   have hb1 : Below wr.heap.size wr W1 := by rw [← hW1]; exact (Below.refl _ _).alloc (Nat.le_refl _) _
   have hk1 : W1.heap[wr.heap.size]? = some (.cells #[.int .i64 x, .int .i64 y] 149 (0, 0)) := by rw [← hW1, heap_alloc_eq, if_pos rfl]
   have hB1 := hbr.trans (hb1.mono hbr.size)
   have c0 : W1.cell? ⟨wr.heap.size, 0, none⟩ = some (.int .i64 x) := cellB hk1 0 _ rfl
   have c1 : W1.cell? ⟨wr.heap.size, 1, none⟩ = some (.int .i64 y) := cellB hk1 1 _ rfl
   have g1 := kwithin_any x 0 3 W1
   have g2 := kwithin_any y 1 9999 W1
   clear hW1 hb1 t0 t1
   by_cases h1 : 0 ≤ x ∧ x ≤ 3
   ·rw [decide_eq_true h1] at g1
    by_cases h2 : 1 ≤ y ∧ y ≤ 9999
    ·rw [decide_eq_true h2] at g2
     have HS2 : Shut (Z = if (x, y) ∈ l.take q then 6 else tookFrom (l.take (q + 1)) (l.drop (q + 1))) := ⟨by rw [HS.out, if_neg (fun h => h ⟨h1, h2⟩)]⟩
     clear h1 h2 HS
     go_wp2_with fail
     refine g1.mono ?_
     rintro e _ ⟨rfl, rfl⟩
     go_wp2_with fail
     refine g2.mono ?_
     rintro e _ ⟨rfl, rfl⟩
     clear g1 g2
     have cC : ∀ u : Above W1, Calls Tryz.prog 112 #[.slice (some ⟨b1, o1, none⟩) q cp, .agg #[.int .i64 x, .int .i64 y]] u.w fun e w' => e = .returned (.bool (decide ((x, y) ∈ l.take q))) ∧ Below u.w.heap.size u.w w' := fun u => by
      have hu := hB1.trans (u.below.mono hB1.size)
      have h := containsTk (some ⟨b1, o1, none⟩) cp (l.take q) x y u.w (tkCells_take (HX.out.2.1.below hu (Nat.le_refl _)) q) (by have := HX.out.2.2; rw [List.length_take]; omega)
      rw [show (l.take q).length = q by rw [List.length_take, HX.out.1]; omega] at h
      exact h
     have y0 : ∀ u : Above W1, u.w.cell? ⟨wr.heap.size, 0, none⟩ = some (.int .i64 x) := fun u => Above.cell c0 u
     have y1 : ∀ u : Above W1, u.w.cell? ⟨wr.heap.size, 1, none⟩ = some (.int .i64 y) := fun u => Above.cell c1 u
     have hqc1 : (q : Int) ≤ (cp : Int) := by omega
     have hq0 : (0 : Int) ≤ (q : Int) := by omega
     obtain ⟨DD, hDD⟩ : ∃ DD, decide ((x, y) ∈ l.take q) = DD := ⟨_, rfl⟩
     have HD := Shut.mk hDD
     rw [hDD] at cC
     clear c0 c1 hk1 hDD
     go_upto_region 6 with fail
     refine wp_region_above (by kernel_rfl) (by kernel_rfl) ?_
     iterate 5 (go_big_quiet_step (first | rfl | (go_at_call 112; exact Calls.above (cC _))))
     refine wpQuiet_nil ?_
     rintro _ ⟨u, rfl⟩
     have hB2 := hB1.trans (u.below.mono hB1.size)
     clear cC y0 y1
     generalize u.w = W2 at *
     cases DD
     ·have R : Shut (Below w.heap.size w W2 ∧ Z = tookFrom (l.take (q + 1)) (l.drop (q + 1))) := ⟨hB2, by rw [HS2.out, if_neg (of_decide_eq_false HD.out)]⟩
      clear HS2 HD hB2
      go_wp2
      go_roundw
      case rel => exact ⟨q + 1, by omega, by go_num, R⟩
      case measure => simp [intOf]; omega
     ·have R : Shut (Z = 6) := ⟨by rw [HS2.out, if_pos (of_decide_eq_true HD.out)]⟩
      clear HS2 HD
      go_wp2
      go_ret
      exact ⟨by rw [R.out]; rfl, hB2⟩
    ·rw [decide_eq_false h2] at g2
     have R : Shut (Z = 3) := ⟨by rw [HS.out, if_pos (fun h => h2 h.2)]⟩
     clear h1 h2 HS
     go_wp2_with fail
     refine g1.mono ?_
     rintro e _ ⟨rfl, rfl⟩
     go_wp2_with fail
     refine g2.mono ?_
     rintro e _ ⟨rfl, rfl⟩
     clear g1 g2
     go_wp2
     go_ret
     exact ⟨by rw [R.out]; rfl, hB1⟩
   ·rw [decide_eq_false h1] at g1
    have R : Shut (Z = 3) := ⟨by rw [HS.out, if_pos (fun h => h1 h.1)]⟩
    clear h1 HS g2
    go_wp2_with fail
    refine g1.mono ?_
    rintro e _ ⟨rfl, rfl⟩
    clear g1
    go_wp2
    go_ret
    exact ⟨by rw [R.out]; rfl, hB1⟩
  ·have R : Shut (Z = 0) := ⟨by rw [HN.out.2, List.drop_eq_nil_of_le (by rw [HX.out.1]; omega)]; rfl⟩
   clear HN
   go_wp2
   go_ret
   exact ⟨by rw [R.out]; rfl, hbr⟩

theorem syms_step {B K : Int} {l : List LSym} {q : Nat} (hq : q < l.length) : symsFrom B K (l.take q) (l.drop q) = if chkS B K l[q].1 l[q].2.length ≠ 0 then chkS B K l[q].1 l[q].2.length else if (l.take q).any (fun s => s.1 == l[q].1) = true then 6 else symsFrom B K (l.take (q + 1)) (l.drop (q + 1)) := by
 rw [List.drop_eq_getElem_cons hq, symsFrom, List.take_append_getElem hq]

set_option maxHeartbeats 2000000 in
set_option maxRecDepth 4000 in
theorem checkSyms0 (F Q T L B K : Int) (own : Bool) (ca : Option Addr) (cn cc : Nat) (ya : Option Addr) (ys : List MSym) (yc : Nat) (sh gv tw tr : Int) (ta : Option Addr) (tn tc : Nat) (dl pg : Bool) (w : World) (hBK : I64 B ∧ I64 K) (hl : Lies w ya (symCells ys)) (hall : ∀ y ∈ ys, SymIn w y) (hm : ys.length ≤ maxLen) (hc : ys.length ≤ yc) :
  Calls Tryz.prog 96 #[.agg #[.int .i64 F, .int .i64 Q, .int .i64 T, .int .i64 L, .int .i64 B, .int .i64 K, .bool own, .slice ca cn cc, .slice ya ys.length yc, .int .i64 sh, .int .i64 gv, .int .i64 tw, .int .i64 tr, .slice ta tn tc, .bool dl, .bool pg]] w fun e w' => e = .returned (.int .i64 (symsFrom B K [] (ys.map MSym.says))) ∧ Below w.heap.size w w' := by
 obtain ⟨W, hW⟩ : ∃ W, w.alloc (.cells #[.int .i64 F, .int .i64 Q, .int .i64 T, .int .i64 L, .int .i64 B, .int .i64 K, .bool own, .slice ca cn cc, .slice ya ys.length yc, .int .i64 sh, .int .i64 gv, .int .i64 tw, .int .i64 tr, .slice ta tn tc, .bool dl, .bool pg] 88) = W := ⟨_, rfl⟩
 have hB : Below w.heap.size w W := by rw [← hW]; exact (Below.refl _ _).alloc (Nat.le_refl _) _
 have hk : W.heap[w.heap.size]? = some (.cells #[.int .i64 F, .int .i64 Q, .int .i64 T, .int .i64 L, .int .i64 B, .int .i64 K, .bool own, .slice ca cn cc, .slice ya ys.length yc, .int .i64 sh, .int .i64 gv, .int .i64 tw, .int .i64 tr, .slice ta tn tc, .bool dl, .bool pg] 88 (0, 0)) := by rw [← hW, heap_alloc_eq, if_pos rfl]
 have s3 : W.cell? ⟨w.heap.size, 8, none⟩ = some (.slice ya ys.length yc) := cellB hk 8 _ rfl
 obtain ⟨Z, hZ⟩ : ∃ Z, symsFrom B K [] (ys.map MSym.says) = Z := ⟨_, rfl⟩
 rw [hZ]
 obtain ⟨n, hn⟩ : ∃ n, ys.length = n := ⟨_, rfl⟩
 have HX := Shut.mk (And.intro hn (And.intro hl (And.intro hall (And.intro hm hk))))
 have HZ : Shut (Z = symsFrom B K ((ys.map MSym.says).take 0) ((ys.map MSym.says).drop 0)) := ⟨by rw [← hZ]; simp⟩
 have HW := Shut.mk hW
 rw [hn] at hm hc s3
 rw [hn]
 rw [hn] at HW
 unfold maxLen at hm
 clear hl hn hZ hW hall hk
 go_enter Tryz.func96, Tryz.ntmps96
 go_upto_region 1 with fail
 rw [HW.out]
 clear HW
 go_wp2
 go_loopw [9] (fun i wr => ∃ q : Nat, q ≤ n ∧ i = .int .i64 q ∧ Shut (Below W.heap.size W wr ∧ Z = symsFrom B K ((ys.map MSym.says).take q) ((ys.map MSym.says).drop q))) (fun i _ => n - (intOf i).toNat)
 case atStart => exact ⟨0, Nat.zero_le _, rfl, ⟨Below.refl _ _, HZ.out⟩⟩
 case round =>
  clear HZ s3
  obtain ⟨q, hq, rfl, HN⟩ := hrel
  have hbr := HN.out.1
  by_cases hlt : q < n
  ·have hqN : q < ys.length := by rw [HX.out.1]; exact hlt
   have hBr := hB.trans (hbr.mono hB.size)
   have hlr := HX.out.2.1.below hBr (Nat.le_refl _)
   obtain ⟨b1, o1, rfl⟩ := hlr.some (k := 2 * q) (by rw [symCells_length]; omega)
   obtain ⟨t0, t1⟩ := sy_cell hlr hqN
   have hdm := (HX.out.2.2.1 ys[q] (List.getElem_mem hqN)).2
   have HS : Shut (Z = if chkS B K ys[q].id ys[q].d.length ≠ 0 then chkS B K ys[q].id ys[q].d.length else if ((ys.map MSym.says).take q).any (fun s => s.1 == ys[q].id) = true then 6 else symsFrom B K ((ys.map MSym.says).take (q + 1)) ((ys.map MSym.says).drop (q + 1))) := ⟨by
    rw [HN.out.2, syms_step (by simpa using hqN), List.getElem_map]
    rfl⟩
   generalize ys[q] = Y at *
   have hqc : q ≤ yc := by omega
   clear HN hlr
   go_upto_region 4 with fail
   obtain ⟨W1, hW1⟩ : ∃ W1, wr.alloc (.cells #[.int .i64 Y.id, .slice Y.a Y.d.length Y.c] 38) = W1 := ⟨_, rfl⟩
   rw [hW1]
   have hb1 : Below wr.heap.size wr W1 := by rw [← hW1]; exact (Below.refl _ _).alloc (Nat.le_refl _) _
   have hk1 : W1.heap[wr.heap.size]? = some (.cells #[.int .i64 Y.id, .slice Y.a Y.d.length Y.c] 38 (0, 0)) := by rw [← hW1, heap_alloc_eq, if_pos rfl]
   have hB1 := hbr.trans (hb1.mono hbr.size)
   have hkk := blkB HX.out.2.2.2.2 hB1
   have c0 : W1.cell? ⟨wr.heap.size, 0, none⟩ = some (.int .i64 Y.id) := cellB hk1 0 _ rfl
   have c1 : W1.cell? ⟨wr.heap.size, 1, none⟩ = some (.slice Y.a Y.d.length Y.c) := cellB hk1 1 _ rfl
   have d4 : W1.cell? ⟨w.heap.size, 4, none⟩ = some (.int .i64 B) := cellB hkk 4 _ rfl
   have d5 : W1.cell? ⟨w.heap.size, 5, none⟩ = some (.int .i64 K) := cellB hkk 5 _ rfl
   have hC := codeCheck_any B K Y.id Y.a Y.d.length Y.c W1 hBK.1 hBK.2 hdm
   obtain ⟨z, hz⟩ : ∃ z, chkS B K Y.id Y.d.length = z := ⟨_, rfl⟩
   rw [hz] at hC HS
   clear hW1 hb1 t0 t1 hkk hz
   go_wp2_with fail
   refine hC.mono ?_
   rintro e W2 ⟨rfl, hb2⟩
   have hB2 := hB1.trans (hb2.mono hB1.size)
   have hk2 := blkB hk1 hb2
   clear hC c0 c1 d4 d5 hk1 hb2
   by_cases hz0 : z = 0
   ·subst hz0
    have HS2 : Shut (Z = if ((ys.map MSym.says).take q).any (fun s => s.1 == Y.id) = true then 6 else symsFrom B K ((ys.map MSym.says).take (q + 1)) ((ys.map MSym.says).drop (q + 1))) := ⟨by rw [HS.out, if_neg (fun h => h rfl)]⟩
    have hkk := blkB HX.out.2.2.2.2 hB2
    have d8 : W2.cell? ⟨w.heap.size, 8, none⟩ = some (.slice (some ⟨b1, o1, none⟩) n yc) := by rw [← HX.out.1]; exact cellB hkk 8 _ rfl
    have c0 : W2.cell? ⟨wr.heap.size, 0, none⟩ = some (.int .i64 Y.id) := cellB hk2 0 _ rfl
    obtain ⟨DD, hDD⟩ : ∃ DD, ((ys.map MSym.says).take q).any (fun s => s.1 == Y.id) = DD := ⟨_, rfl⟩
    have cC : ∀ u : Above W2, Calls Tryz.prog 110 #[.slice (some ⟨b1, o1, none⟩) q yc, .int .i64 Y.id] u.w fun e w' => e = .returned (.bool DD) ∧ Below u.w.heap.size u.w w' := fun u => by
     have hu := hB.trans ((hB2.trans (u.below.mono hB2.size)).mono hB.size)
     have h := hasSymbol_any (some ⟨b1, o1, none⟩) yc (ys.take q) Y.id u.w (symCells_take (HX.out.2.1.below hu (Nat.le_refl _)) q) (by have := HX.out.2.2.2.1; rw [List.length_take]; omega)
     rw [show (ys.take q).length = q by rw [List.length_take, HX.out.1]; omega, List.map_take, hDD] at h
     exact h
    have y0 : ∀ u : Above W2, u.w.cell? ⟨wr.heap.size, 0, none⟩ = some (.int .i64 Y.id) := fun u => Above.cell c0 u
    have y1 : ∀ u : Above W2, u.w.cell? ⟨w.heap.size, 8, none⟩ = some (.slice (some ⟨b1, o1, none⟩) n yc) := fun u => Above.cell d8 u
    have hqc1 : (q : Int) ≤ (yc : Int) := by omega
    have hq0 : (0 : Int) ≤ (q : Int) := by omega
    have HD := Shut.mk hDD
    clear c0 d8 hk2 hDD HS hkk
    go_upto_region 7 with fail
    refine wp_region_above (by kernel_rfl) (by kernel_rfl) ?_
    iterate 7 (go_big_quiet_step (first | rfl | (go_at_call 110; exact Calls.above (cC _))))
    refine wpQuiet_nil ?_
    rintro _ ⟨u, rfl⟩
    have hB3 := hB2.trans (u.below.mono hB2.size)
    clear cC y0 y1
    generalize u.w = W3 at *
    cases DD
    ·have R : Shut (Below W.heap.size W W3 ∧ Z = symsFrom B K ((ys.map MSym.says).take (q + 1)) ((ys.map MSym.says).drop (q + 1))) := ⟨hB3, by rw [HS2.out, if_neg (by rw [HD.out]; simp)]⟩
     clear HS2 HD hB3
     go_wp2
     go_roundw
     case rel => exact ⟨q + 1, by omega, by go_num, R⟩
     case measure => simp [intOf]; omega
    ·have R : Shut (Z = 6 ∧ Below w.heap.size w W3) := ⟨by rw [HS2.out, if_pos HD.out], hB.trans (hB3.mono hB.size)⟩
     clear HS2 HD hB3
     go_wp2
     go_ret
     exact ⟨by rw [R.out.1]; rfl, R.out.2⟩
   ·have bz : (z != 0) = true := by simpa using hz0
    have R : Shut (Z = z ∧ Below w.heap.size w W2) := ⟨by rw [HS.out, if_pos hz0], hB.trans (hB2.mono hB.size)⟩
    clear hz0 HS hk2 hB2
    go_wp2
    go_ret
    exact ⟨by rw [R.out.1]; rfl, R.out.2⟩
  ·have R : Shut (Z = 0 ∧ Below w.heap.size w wr) := ⟨by rw [HN.out.2, List.drop_eq_nil_of_le (by rw [List.length_map, HX.out.1]; omega)]; rfl, hB.trans (hbr.mono hB.size)⟩
   clear HN
   go_wp2
   go_ret
   exact ⟨by rw [R.out.1]; rfl, R.out.2⟩

end Go.Proofs.YtakkajjoeimkdaaGreatDoor
