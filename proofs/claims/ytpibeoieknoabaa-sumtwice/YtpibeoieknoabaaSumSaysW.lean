/-
  SumSays: the walk.
-/
import Derived.Test.YtpibeoieknoabaaSumLaw
namespace Go.Proofs.Ytpibeoieknoabaa
open Go.RowKit
set_option linter.unusedVariables false
set_option linter.unusedSimpArgs false

theorem AllIn.below {w w' : World} {bl : List Blk} (h : AllIn w bl) (hb : Below w.heap.size w w') : AllIn w' bl := fun b hm => ⟨(h b hm).1.below hb (Nat.le_refl _), (h b hm).2⟩

/-- how the two codes stand to one another -/
theorem code_cases (bl : List Blk) : (chk (lens bl) ≠ 0 ∧ addCode bl = chk (lens bl)) ∨ (chk (lens bl) = 0 ∧ bl.length = 0 ∧ addCode bl = 8) ∨ (chk (lens bl) = 0 ∧ 0 < bl.length ∧ addCode bl = 0) := by
  by_cases h : chk (lens bl) = 0
  · by_cases h0 : bl.length = 0
    · exact .inr (.inl ⟨h, h0, by rw [addCode, if_pos h, if_pos h0]⟩)
    · exact .inr (.inr ⟨h, by omega, by rw [addCode, if_pos h, if_neg h0]⟩)
  · exact .inl ⟨h, by rw [addCode, if_neg h]⟩

set_option maxHeartbeats 2000000 in
theorem sumSays_walk (a0 a1 a2 : Option Addr) (c0 c1 c2 : Nat) (bl : List Blk) (xs ys : List UInt8) (w : World) (hn : bl.length * 24 ≤ 140737488355328) (hx : xs.length ≤ maxLen) (hy : ys.length ≤ maxLen)
    (h0 : Lies w a0 (bl.map Blk.val)) (hall : AllIn w bl) (h1 : Lies w a1 (bs xs)) (h2 : Lies w a2 (bs ys)) :
    Calls Try.prog 4 #[.slice a0 bl.length c0, .slice a1 xs.length c1, .slice a2 ys.length c2] w fun e w' => e = .returned (.bool true) ∧ Below w.heap.size w w' := by
  have hm : bl.length ≤ maxLen := by unfold maxLen; omega
  have HM : Hid (bl.length ≤ maxLen) := hm
  have HX : Hid (xs.length ≤ maxLen) := hx
  have HY : Hid (ys.length ≤ maxLen) := hy
  clear hm hx hy
  go_enter Try.func4, Try.ntmps4
  go_wp2_with fail
  refine (blocks_any _ _ bl _ hn h0).mono ?_
  rintro e w1 ⟨v1, rfl, ho1, hb1⟩
  obtain ⟨p1, q1, rfl, hl1, -⟩ := own_lies ho1
  clear ho1
  go_wp2_with fail
  refine (add_any _ _ bl _ HM.out hl1 (hall.below hb1)).mono ?_
  rintro e w2 ⟨p2, q2, rfl, hl2, hb2⟩
  have hbb : Below w.heap.size w w2 := hb1.trans (hb2.mono hb1.size)
  clear hl1 hb1 hb2
  go_wp2_with fail
  refine (blocks_any _ _ bl _ hn (h0.below hbb (Nat.le_refl _))).mono ?_
  rintro e w3 ⟨v3, rfl, ho3, hb3⟩
  obtain ⟨p3, q3, rfl, hl3, -⟩ := own_lies ho3
  clear ho3
  have hl2 := hl2.below hb3 (Nat.le_refl _)
  have hbb : Below w.heap.size w w3 := hbb.trans (hb3.mono hbb.size)
  go_wp2_with fail
  refine (checkSum_any _ _ bl _ HM.out hl3 (hall.below hbb)).mono ?_
  rintro e w4 ⟨rfl, n4, rfl⟩
  have hbb : Below w.heap.size w (w3.drewN n4) := hbb.trans (bdn _ _ _)
  have hl2 := hl2.drewN n4
  clear hl3 hb3
  generalize w3.drewN n4 = w5 at *
  go_wp2_with fail
  refine (added_any _).mono ?_
  rintro e w6 ⟨rfl, hb6⟩
  have hl2 := hl2.below hb6 (Nat.le_refl _)
  have hbb : Below w.heap.size w w6 := hbb.trans (hb6.mono hbb.size)
  clear hb6
  go_wp2_with fail
  refine (blocks_any _ _ bl _ hn (h0.below hbb (Nat.le_refl _))).mono ?_
  rintro e w7 ⟨v7, rfl, ho7, hb7⟩
  obtain ⟨p7, q7, rfl, hl7, -⟩ := own_lies ho7
  clear ho7
  have hl2 := hl2.below hb7 (Nat.le_refl _)
  have hbb : Below w.heap.size w w7 := hbb.trans (hb7.mono hbb.size)
  clear hb7
  go_wp2_with fail
  refine (check_any _ _ bl _ HM.out hl7 (hall.below hbb)).mono ?_
  rintro e w8 ⟨rfl, rfl⟩
  have hself : (chk (lens bl) != chk (lens bl)) = false := by simp
  go_wp2_with fail
  refine (same_any _ _ _ _ _ _ xs ys _ rfl rfl (h1.below hbb (Nat.le_refl _)) (h2.below hbb (Nat.le_refl _))).mono ?_
  rintro e w9 ⟨rfl, rfl⟩
  go_wp2_with fail
  refine (equalBytes _ _ _ _ xs ys HX.out HY.out (h1.below hbb (Nat.le_refl _)) (h2.below hbb (Nat.le_refl _))).mono ?_
  rintro e w10 ⟨rfl, n10, rfl⟩
  have hb2' : ((decide (xs = ys)) != (decide (xs = ys))) = false := by simp
  have hbb : Below w.heap.size w (w7.drewN n10) := hbb.trans (bdn _ _ _)
  have hl2 := hl2.drewN n10
  clear hself hl7 HX HY h1 h2
  generalize decide (xs = ys) = bxy at *
  generalize w7.drewN n10 = w11 at *
  rcases code_cases bl with ⟨hA, hB⟩ | ⟨hA, hB, hC⟩ | ⟨hA, hB, hC⟩
  · have HR : Hid (resL bl = []) := if_neg (by rw [hB]; exact hA)
    have hr0 : (resL bl).length = 0 := by rw [HR.out]; rfl
    rw [hB]
    clear hB
    generalize chk (lens bl) = c at *
    have e1 : (c == 0) = false := by simp [hA]
    have e2 : (c != 0) = true := by simp [hA]
    have e3 : (c == c) = true := by simp
    clear hA h0 hall
    rw [hr0]
    go_wp2
    go_ret
    exact ⟨rfl, hbb⟩
  · have hr0 : (resL bl).length = 0 := by
      have : resL bl = [] := if_neg (by rw [hC]; decide)
      rw [this]; rfl
    rw [hA, hC, hB, hr0]
    clear hA hB hC hr0 h0 hall
    go_wp2
    go_ret
    exact ⟨rfl, hbb⟩
  · have hgl := good_lens hC hB
    have er : resL bl = sumBl bl := if_pos hC
    rw [er] at hl2
    rw [hA, hC, er]
    have HG : Hid (∀ i (hi : i < bl.length), bl[i].l.length = bl[0].l.length ∧ 1 ≤ bl[i].l.length ∧ bl[i].l.length ≤ 16) := hgl
    clear hA hC er hgl
    have hne : ((bl.length : Int) == 0) = false := by rw [beq_eq_false_iff_ne]; omega
    go_wp2_with fail
    refine (blocks_any _ _ bl _ hn (h0.below hbb (Nat.le_refl _))).mono ?_
    rintro e w12 ⟨v12, rfl, ho12, hb12⟩
    obtain ⟨p12, q12, rfl, hl12, -⟩ := own_lies ho12
    clear ho12
    have hl2 := hl2.below hb12 (Nat.le_refl _)
    have hbb : Below w.heap.size w w12 := hbb.trans (hb12.mono hbb.size)
    clear hb12
    go_wp2_with fail
    refine (refSum_any _ _ bl[0].l.length bl _ hn hl12 (hall.below hbb) hB (fun i hi => (HG.out i hi).1) (HG.out 0 hB).2.2).mono ?_
    rintro e w13 ⟨v13, rfl, ho13, hb13⟩
    obtain ⟨p13, q13, rfl, hl13, en⟩ := own_lies ho13
    clear ho13
    have hl2 := hl2.below hb13 (Nat.le_refl _)
    have hbb : Below w.heap.size w w13 := hbb.trans (hb13.mono hbb.size)
    clear hb13
    rw [en, bs_length]
    have HS : Hid ((sumBl bl).length ≤ maxLen) := by
      have := (HG.out 0 hB).2.2
      rw [bs_length] at en
      show (sumBl bl).length ≤ maxLen
      unfold maxLen
      omega
    clear en
    go_wp2_with fail
    refine (equalBlock _ _ _ _ (sumBl bl) (sumBl bl) HS.out HS.out hl2 hl13).mono ?_
    rintro e w14 ⟨rfl, n14, rfl⟩
    go_wp2
    go_ret
    exact ⟨by simp, hbb.trans (bdn _ _ _)⟩

end Go.Proofs.Ytpibeoieknoabaa
